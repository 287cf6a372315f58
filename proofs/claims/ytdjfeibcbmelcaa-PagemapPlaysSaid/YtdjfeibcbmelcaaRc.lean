/- The other map: Marks. -/
import Derived.Test.YtdjfeibcbmelcaaRb
import Derived.OwnWalk
namespace Go.Proofs.Ytdjfeibcbmelcaa
open Go.RowKit

/-- The marks of the pages below k. -/
def rkk (M : Nat → Int) (k : Nat) : List Mk := rkM M (hl (nz M) 0 k)
theorem rkk_skip {M : Nat → Int} {k : Nat} (h : M k = 0) : rkk M (k + 1) = rkk M k := by
  unfold rkk
  rw [hl_split (m := k) (by omega) (by omega), hl_miss (by omega) (nz_false h), hl_end (Nat.le_refl _), List.append_nil]
theorem rkk_add {M : Nat → Int} {k : Nat} (h : M k ≠ 0) : rkk M (k + 1) = addM M (rkk M k) k := by
  unfold rkk
  rw [hl_split (m := k) (by omega) (by omega), hl_hit (by omega) (nz_true h), hl_end (Nat.le_refl _), rkM_snoc]
theorem rkk_len (M : Nat → Int) (k : Nat) : (rkk M k).length ≤ k := Nat.le_trans (rkM_len M _) (Nat.le_trans (hl_len _ _ _) (by omega))
theorem rkk_ok (M : Nat → Int) {k : Nat} (hk : k ≤ 1024) : ∀ m ∈ rkk M k, MkR m := rkM_ok (fun p hp => by have := (hl_mem.1 hp).1.2; omega)
theorem rkk_all (M : Nat → Int) : (rkk M 1024).reverse = marksM M := rfl
theorem RowM.form {W : World} {N : Nat} {v : Value} {l : List Mk} (h : RowM W N v l) : ∃ A c, v = .slice A l.length c := owns_form h
theorem RowM.below {w w' : World} {N : Nat} {v : Value} {l : List Mk} (h : RowM w N v l) (hb : Below w.heap.size w w') : RowM w' N v l := owns_below h hb
theorem RowM.rowlt {W : World} {N k n : Nat} {v : Value} {xs : List Value} (h : W.ownsRow N 50 3 v n xs) (e : v.ownBlock = some k) : N ≤ k := by
  rcases h.2 with ⟨rfl, _⟩ | ⟨g', cap, cur, rfl, hbg, hg, _⟩
  · simp [Value.ownBlock] at e
  · obtain rfl : g' = k := by simpa [Value.ownBlock] using e
    exact hbg

set_option maxRecDepth 100000 in
set_option maxHeartbeats 4000000 in
theorem rmarks_any {O : Nat → Prop} {P : Nat} {M : Nat → Int} {w : World} (h : Rf w O P M) : Calls Try.prog 24 #[.pointer (some ⟨P, 0, none⟩)] w (MarksPost w (marksM M)) := by
  have HM := Lib.hid (rmade_any h)
  obtain ⟨A, c, h⟩ := h
  obtain ⟨i0, hi, hz0, hz1, hz2⟩ := info_parts Try.info50
  have HI := Lib.hid (And.intro hi (And.intro hz0 (And.intro hz1 hz2)))
  have HS := Lib.hid h
  clear h hi hz0 hz1 hz2
  go_enter Try.func24, Try.ntmps24
  go_wp2_with (go_at_call 36; refine HM.out.mono ?_; rintro e w1 ⟨rfl, rfl⟩)
  go_loopw [3, 4, 5] (fun v i _ wr => ∃ k : Nat, k ≤ 1024 ∧ i = .int .i64 k ∧ RowM wr w.heap.size v (rkk M k) ∧ Below w.heap.size w wr) (fun _ i _ _ => 1024 - (intOf i).toNat)
  case atStart => exact ⟨0, by omega, rfl, ⟨rfl, .inl ⟨rfl, rfl⟩⟩, Below.refl _ _⟩
  case round =>
    obtain ⟨k, hk, rfl, hR, hB⟩ := hrel
    have HR := Lib.hid hR
    have HB := Lib.hid hB
    by_cases hlt : k < 1024
    · have hS := HS.out.blocks (fun i hi => hB.block i (HS.out.lt i hi)) hB.size
      have c0 := hS.p.cell 0 (by omega)
      have g0 := hS.a.cell k hlt
      have hPl := hS.p.lt
      have hAl := hS.a.lt
      have hlti : (k : Int) < 1024 := by omega
      clear hS hB
      by_cases hz : M k = 0
      · have HSK := Lib.hid (rkk_skip hz)
        obtain ⟨Ax, cx, rfl⟩ := hR.form
        rw [hz] at g0
        clear hz hR
        go_wp2_with fail
        go_roundw
        case rel => exact ⟨k + 1, by omega, by go_num, by rw [HSK.out]; exact HR.out, HB.out⟩
        case measure => simp [intOf]; omega
      · have HSN := Lib.hid (rkk_add hz)
        have q : (M k == 0) = false := by simpa using hz
        clear hz
        have hlen := rkk_len M k
        have hok := rkk_ok M (k := k) (by omega)
        have HRK := Lib.hid hR
        cases hr : rkk M k with
        | nil =>
          rw [hr] at hR HSN
          obtain ⟨Ax, cx, rfl⟩ := hR.form
          rw [List.length_nil] at hR ⊢
          have HRR := Lib.hid hR
          generalize hV : M k = V at g0 q
          have HV := Lib.hid hV
          clear hlen hok hR hr HRK HR hV
          go_wp2_with fail
          go_quiet (fail)
          have hb2 := belowN HB.out nq
          have ho2 : (wr.drewN nq).ownsRow w.heap.size 50 3 (.slice Ax 0 cx) 0 [] := HRR.out.below (belowN (Below.refl _ _) nq)
          have HB2 := Lib.hid hb2
          have HR2 := Lib.hid ho2
          have y0 : (wr.drewN nq).cell? ⟨P, 0, none⟩ = some (.slice (some ⟨A, 0, none⟩) 1024 c) := c0
          have y1 : (wr.drewN nq).cell? ⟨A, k, none⟩ = some (.int .i64 V) := g0
          clear hb2 ho2 c0 g0
          obtain ⟨hi, hz0, hz1, hz2⟩ := HI.out
          go_wp2_with (at_builtin; go_loud (refine wpList_append_own _ rfl _ _ 41 rfl w.heap.size 50 i0 (.agg #[.int .i64 0, .int .i64 0, .int .i64 0]) 3 24 Try.underlying41 hi hz0 hz1 hz2 rfl (by decide) _ _ _ rfl (HR2.out.alloc _) ⟨(wr.drewN nq).heap.size, 0, none⟩ 1 1 [.int .i64 k, .int .i64 1, .int .i64 V] rfl rfl (cells3_new (wr.drewN nq) _ _ _ _) (by simp [Value.oneCell']) (by unfold maxLen; omega) (by omega) (by have := HB2.out.size; simp at this ⊢; omega) ?_); intro v' w5 hown' hgrow _; have hB5 : Below w.heap.size w w5 := (HB2.out.alloc HB2.out.size _).grown hgrow (by have := HB2.out.size; simp at this ⊢; omega) (fun k e => RowM.rowlt HR2.out e); have HO5 := Lib.hid hown'; have HB5 := Lib.hid hB5; clear hown' hgrow hB5)
          go_roundw
          case rel => exact ⟨k + 1, by omega, by go_num, by rw [HSN.out]; unfold addM; dsimp only; rw [HV.out]; exact RowM.one (m := ⟨k, 1, V⟩) (l := []) HO5.out, HB5.out⟩
          case measure => simp [intOf]; omega
        | cons m t =>
          rw [hr] at hR HSN hlen hok
          obtain ⟨g, cx, rfl, hg1, hg2, e1, e2, e3, e4⟩ := hR.last
          have HROW := Lib.hid hR
          have hm := hok m (List.mem_cons_self ..)
          unfold MkR at hm
          rw [List.length_cons] at hlen
          obtain ⟨ms, mn, mv⟩ := m
          dsimp only at e1 e2 e3 hm
          generalize hT : t.length = T at hlen e1 e2 e3 e4 HROW ⊢
          have HT := Lib.hid hT
          clear hok hR hr HRK HR hT
          have E1 := Lib.hid (w64 ((ms : Int) + (mn : Int)) (by omega))
          have E2 := Lib.hid (w64 (T : Int) (by omega))
          have E3 := Lib.hid (w64 ((mn : Int) + 1) (by omega))
          by_cases hk2 : ms + mn = k
          · have t5 : ((ms : Int) + (mn : Int) == (k : Int)) = true := by simp; omega
            by_cases hv2 : mv = M k
            · have HV2 := Lib.hid hv2
              have t6 : (mv == M k) = true := by simpa using hv2
              have HK2 := Lib.hid hk2
              clear hv2 hk2 hm
              generalize M k = V at g0 q t6
              go_wp2_with fail
              obtain ⟨s1, s2⟩ := E1.out
              have u2 : IntKind.i64.wrap ((T : Int) + 1 - 1) = (T : Int) := by rw [show (T : Int) + 1 - 1 = (T : Int) by omega]; exact IntWalk.i64_in _ (by omega)
              have u3 : IntKind.i64.wrap (T : Int) = (T : Int) := IntWalk.i64_in _ (by omega)
              go_quiet (fail)
              have hR2 := HROW.out.below (belowN (Below.refl wr.heap.size wr) nq)
              rw [← HT.out] at hR2
              have hR3 := RowM.more hR2
              rw [HT.out] at hR3
              have HR3 := Lib.hid hR3
              have y2 : (wr.drewN nq).cell? ⟨g, T * 3 + 1, none⟩ = some (.int .i64 mn) := e2
              have y4 : (wr.drewN nq).frozen? ⟨g, T * 3 + 1, none⟩ = false := e4
              obtain ⟨s3, s4⟩ := E3.out
              clear hR2 hR3 s1 s2 t5 t6 e1 e2 e3 e4 c0 g0
              go_wp2
              go_roundw
              case rel => exact ⟨k + 1, by omega, by go_num, by rw [HSN.out, addM_more ⟨HK2.out.symm, HV2.out.symm⟩]; exact HR3.out, (belowN HB.out nq).setCell (p := ⟨g, _, none⟩) hg1 _⟩
              case measure => simp [intOf]; omega
            · have HV2 := Lib.hid hv2
              have t6 : (mv == M k) = false := by simpa using hv2
              clear hv2 hk2 hm
              generalize hVK : M k = V at g0 q t6
              have HVK := Lib.hid hVK
              clear hVK
              go_wp2_with fail
              obtain ⟨s1, s2⟩ := E1.out
              have u2 : IntKind.i64.wrap ((T : Int) + 1 - 1) = (T : Int) := by rw [show (T : Int) + 1 - 1 = (T : Int) by omega]; exact IntWalk.i64_in _ (by omega)
              have u3 : IntKind.i64.wrap (T : Int) = (T : Int) := IntWalk.i64_in _ (by omega)
              go_quiet (fail)
              have hb2 := belowN HB.out nq
              have ho2 : RowM (wr.drewN nq) w.heap.size _ _ := HROW.out.below (belowN (Below.refl _ _) nq)
              unfold RowM at ho2
              rw [List.length_cons, HT.out] at ho2
              have HB2 := Lib.hid hb2
              have HR2 := Lib.hid ho2
              have y0 : (wr.drewN nq).cell? ⟨P, 0, none⟩ = some (.slice (some ⟨A, 0, none⟩) 1024 c) := c0
              have y1 : (wr.drewN nq).cell? ⟨A, k, none⟩ = some (.int .i64 V) := g0
              obtain ⟨hi, hz0, hz1, hz2⟩ := HI.out
              clear hb2 ho2 c0 g0 s1 s2 u2 u3 t5 t6 e1 e2 e3 e4
              go_wp2_with (at_builtin; go_loud (refine wpList_append_own _ rfl _ _ 41 rfl w.heap.size 50 i0 (.agg #[.int .i64 0, .int .i64 0, .int .i64 0]) 3 24 Try.underlying41 hi hz0 hz1 hz2 rfl (by decide) _ _ _ rfl (HR2.out.alloc _) ⟨(wr.drewN nq).heap.size, 0, none⟩ 1 1 [.int .i64 k, .int .i64 1, .int .i64 V] rfl rfl (cells3_new (wr.drewN nq) _ _ _ _) (by simp [Value.oneCell']) (by unfold maxLen; omega) (by omega) (by have := HB2.out.size; simp at this ⊢; omega) ?_); intro v' w5 hown' hgrow _; have hB5 : Below w.heap.size w w5 := (HB2.out.alloc HB2.out.size _).grown hgrow (by have := HB2.out.size; simp at this ⊢; omega) (fun k e => RowM.rowlt HR2.out e); have HO5 := Lib.hid hown'; have HB5 := Lib.hid hB5; clear hown' hgrow hB5)
              go_roundw
              case rel => exact ⟨k + 1, by omega, by go_num, by rw [HSN.out, addM_one (fun h => HV2.out h.2.symm), HVK.out]; exact RowM.one (m := ⟨k, 1, V⟩) (by rw [List.length_cons, HT.out]; exact HO5.out), HB5.out⟩
              case measure => simp [intOf]; omega
          · have t5 : ((ms : Int) + (mn : Int) == (k : Int)) = false := by simp; omega
            have HK2 := Lib.hid hk2
            clear hk2 hm
            generalize hVK : M k = V at g0 q
            have HVK := Lib.hid hVK
            clear hVK
            go_wp2_with fail
            obtain ⟨s1, s2⟩ := E1.out
            have u2 : IntKind.i64.wrap ((T : Int) + 1 - 1) = (T : Int) := by rw [show (T : Int) + 1 - 1 = (T : Int) by omega]; exact IntWalk.i64_in _ (by omega)
            have u3 : IntKind.i64.wrap (T : Int) = (T : Int) := IntWalk.i64_in _ (by omega)
            go_quiet (fail)
            have hb2 := belowN HB.out nq
            have ho2 : RowM (wr.drewN nq) w.heap.size _ _ := HROW.out.below (belowN (Below.refl _ _) nq)
            unfold RowM at ho2
            rw [List.length_cons, HT.out] at ho2
            have HB2 := Lib.hid hb2
            have HR2 := Lib.hid ho2
            have y0 : (wr.drewN nq).cell? ⟨P, 0, none⟩ = some (.slice (some ⟨A, 0, none⟩) 1024 c) := c0
            have y1 : (wr.drewN nq).cell? ⟨A, k, none⟩ = some (.int .i64 V) := g0
            obtain ⟨hi, hz0, hz1, hz2⟩ := HI.out
            clear hb2 ho2 c0 g0 s1 s2 u2 u3 t5 e1 e2 e3 e4
            go_wp2_with (at_builtin; go_loud (refine wpList_append_own _ rfl _ _ 41 rfl w.heap.size 50 i0 (.agg #[.int .i64 0, .int .i64 0, .int .i64 0]) 3 24 Try.underlying41 hi hz0 hz1 hz2 rfl (by decide) _ _ _ rfl (HR2.out.alloc _) ⟨(wr.drewN nq).heap.size, 0, none⟩ 1 1 [.int .i64 k, .int .i64 1, .int .i64 V] rfl rfl (cells3_new (wr.drewN nq) _ _ _ _) (by simp [Value.oneCell']) (by unfold maxLen; omega) (by omega) (by have := HB2.out.size; simp at this ⊢; omega) ?_); intro v' w5 hown' hgrow _; have hB5 : Below w.heap.size w w5 := (HB2.out.alloc HB2.out.size _).grown hgrow (by have := HB2.out.size; simp at this ⊢; omega) (fun k e => RowM.rowlt HR2.out e); have HO5 := Lib.hid hown'; have HB5 := Lib.hid hB5; clear hown' hgrow hB5)
            go_roundw
            case rel => exact ⟨k + 1, by omega, by go_num, by rw [HSN.out, addM_one (fun h => HK2.out h.1.symm), HVK.out]; exact RowM.one (m := ⟨k, 1, V⟩) (by rw [List.length_cons, HT.out]; exact HO5.out), HB5.out⟩
            case measure => simp [intOf]; omega
    · obtain rfl : k = 1024 := by omega
      clear hR hB
      obtain ⟨Ax, cx, hv, hR⟩ := RowM.done HR.out
      rw [rkk_all] at hv hR
      subst hv
      have HMK := Lib.hid hR
      clear hR
      go_wp2_with fail
      go_ret
      exact ⟨Ax, cx, rfl, HMK.out, HB.out⟩

end Go.Proofs.Ytdjfeibcbmelcaa
