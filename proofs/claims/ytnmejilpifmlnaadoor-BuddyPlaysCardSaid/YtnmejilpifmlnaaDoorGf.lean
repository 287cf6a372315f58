/- The document's own heap: Runs. -/
import Derived.Test.YtnmejilpifmlnaaDoorGe
import Derived.BigQuiet
namespace Go.Proofs.YtnmejilpifmlnaaDoor
open Go.RowKit

set_option maxRecDepth 100000 in
set_option maxHeartbeats 2000000 in
theorem rRuns_any {O : Nat → Prop} {B : Nat} {m : Mo} {w : World} (h : Rf w O B m) : Calls Tryd.prog 44 #[.pointer (some ⟨B, 0, none⟩)] w (RunsPost w m.rs) := by
  have HM := Lib.hid (rmade_any h)
  obtain ⟨A0, cap0, h⟩ := h
  have HF1 := Lib.hid (fun k (e : m.F k = true) => stF_t e)
  have HF0 := Lib.hid (fun k (e : m.F k = false) => stF_f e)
  have HRS := Lib.hid (show m.rs = runsL (stF m.F) 1 m.n from rfl)
  rw [HRS.out]
  obtain ⟨i0, hi, hz0, hz1, hz2⟩ := info_parts Tryd.info92
  have HI := Lib.hid (And.intro hi (And.intro hz0 (And.intro hz1 hz2)))
  have hn2 := h.wf.n2
  have HS := Lib.hid (show Rf w O B m from ⟨A0, cap0, h⟩)
  obtain ⟨n, hn⟩ : ∃ n, n = m.n := ⟨_, rfl⟩
  rw [← hn] at hn2 ⊢
  have HN := Lib.hid hn
  clear h hn hi hz0 hz1 hz2
  go_enter Tryd.func44, Tryd.ntmps44
  go_wp2_with (go_at_call 35; refine HM.out.mono ?_; rintro e w1 ⟨rfl, rfl⟩)
  go_loopw [3, 4] (fun v i wr => ∃ k : Nat, k ≤ n ∧ i = .int .i64 k ∧ RunsIn w wr (stF m.F) 1 k v) (fun _ i _ => n - (intOf i).toNat)
  case atStart => exact ⟨0, by omega, rfl, ⟨⟨rfl, .inl ⟨rfl, rfl⟩⟩, Below.refl _ _⟩⟩
  case round =>
    obtain ⟨k, hk, rfl, hR⟩ := hrel
    obtain ⟨A', cap', hS⟩ := HS.out.below hR.bel
    have c0 := hS.b.cell 0 (by omega)
    rw [← HN.out] at c0
    by_cases hlt : k < n
    · have g0 := hS.a.cell k (by have := HN.out; omega)
      clear hS
      by_cases hs : m.F k = true
      · rw [hs] at g0
        have HSK := Lib.hid (HF1.out k hs)
        clear hs
        obtain hr | ⟨a, b, t, hr⟩ : rr (stF m.F) 1 k = [] ∨ ∃ a b t, rr (stF m.F) 1 k = (a, b) :: t := by
          cases rr (stF m.F) 1 k with
          | nil => exact .inl rfl
          | cons x t => exact .inr ⟨x.1, x.2, t, rfl⟩
        · have HRR := Lib.hid hr
          clear hr
          obtain ⟨Ax, cx, rfl⟩ := hR.form
          rw [HRR.out, List.length_nil] at hR ⊢
          have HR := Lib.hid hR
          clear hR
          go_wp2_with fail
          go_quiet (fail)
          have hR2 := HR.out.then (belowN (Below.refl _ _) nq)
          have hB2 := hR2.bel
          have ho2 := hR2.own
          rw [HRR.out] at ho2
          have HR2 := Lib.hid ho2
          have HB2 := Lib.hid hB2
          have hlen := rr_len (stF m.F) 1 k
          rw [HRR.out] at hlen
          obtain ⟨hi, hz0, hz1, hz2⟩ := HI.out
          clear hR2 hB2 ho2
          go_wp2_with (at_builtin; go_loud (refine wpList_append_own _ rfl _ _ 70 rfl w.heap.size 92 i0 (.agg #[.int .i64 0, .int .i64 0]) 2 16 Tryd.underlying70 hi hz0 hz1 hz2 rfl (by decide) _ _ _ rfl (HR2.out.alloc _) ⟨(wr.drewN nq).heap.size, 0, none⟩ 1 1 [.int .i64 k, .int .i64 1] rfl rfl (cells2_new (wr.drewN nq) _ _ _) (by simp [Value.oneCell']) (by unfold maxLen; omega) (by omega) (by have := HB2.out.size; simp at this ⊢; omega) ?_); intro v' w5 hown' hgrow _; have hB5 : Below w.heap.size w w5 := (HB2.out.alloc HB2.out.size _).grown hgrow (by have := HB2.out.size; simp at this ⊢; omega) (fun k e => (HR2.out.lt k e).1); have HO5 := Lib.hid hown'; have HB5 := Lib.hid hB5; clear hown' hgrow hB5)
          go_roundw
          case rel => exact ⟨k + 1, by omega, by go_num, RunsIn.one (by rw [HRR.out]; exact HO5.out) HB5.out HSK.out (by rw [HRR.out]; intro a b t h; cases h)⟩
          case measure => simp [intOf]; omega
        · have HRR := Lib.hid hr
          clear hr
          obtain ⟨g, c, rfl, hg1, hg2, e1, e2, e3⟩ := hR.last HRR.out
          have HR := Lib.hid hR
          clear hR
          have hlen := rr_len (stF m.F) 1 k
          rw [HRR.out, List.length_cons] at hlen
          have hab := rr_ok (stF m.F) 1 k
          rw [HRR.out] at hab
          obtain ⟨hab1, hab2, _⟩ := hab
          generalize hT : t.length = T at hlen e1 e2 e3 HR ⊢
          have HT := Lib.hid hT
          clear hT
          by_cases hk2 : a + b = k
          · have hk3 : ((a : Int) + b == k) = true := by simp; omega
            go_wp2_with fail
            have u1 : IntKind.i64.wrap ((a : Int) + (b : Int)) = (a : Int) + (b : Int) := IntWalk.i64_in _ (by omega)
            have u2 : IntKind.i64.wrap ((T : Int) + 1 - 1) = (T : Int) := by rw [show (T : Int) + 1 - 1 = (T : Int) by omega]; exact IntWalk.i64_in _ (by omega)
            have u3 : IntKind.i64.wrap (T : Int) = (T : Int) := IntWalk.i64_in _ (by omega)
            go_quiet (fail)
            have hR2 := HR.out.then (belowN (Below.refl _ _) nq)
            rw [← HT.out] at hR2
            have hR3 := hR2.more HRR.out HSK.out hk2 hg1
            rw [HT.out] at hR3
            have HR3 := Lib.hid hR3
            clear hR2 hR3 u1 u2 u3 hk3
            go_wp2
            go_roundw
            case rel => exact ⟨k + 1, by omega, by go_num, HR3.out⟩
            case measure => simp [intOf]; omega
          · have hk3 : ((a : Int) + b == k) = false := by simp; omega
            have HNE := Lib.hid hk2
            clear hk2
            go_wp2_with fail
            have u1 : IntKind.i64.wrap ((a : Int) + (b : Int)) = (a : Int) + (b : Int) := IntWalk.i64_in _ (by omega)
            have u2 : IntKind.i64.wrap ((T : Int) + 1 - 1) = (T : Int) := by rw [show (T : Int) + 1 - 1 = (T : Int) by omega]; exact IntWalk.i64_in _ (by omega)
            have u3 : IntKind.i64.wrap (T : Int) = (T : Int) := IntWalk.i64_in _ (by omega)
            go_quiet (fail)
            have hR2 := HR.out.then (belowN (Below.refl _ _) nq)
            have hB2 := hR2.bel
            have ho2 := hR2.own
            rw [HRR.out, List.length_cons, HT.out] at ho2
            have HR2 := Lib.hid ho2
            have HB2 := Lib.hid hB2
            obtain ⟨hi, hz0, hz1, hz2⟩ := HI.out
            clear hR2 hB2 ho2 u1 u2 u3 hk3 e1 e2 e3
            go_wp2_with (at_builtin; go_loud (refine wpList_append_own _ rfl _ _ 70 rfl w.heap.size 92 i0 (.agg #[.int .i64 0, .int .i64 0]) 2 16 Tryd.underlying70 hi hz0 hz1 hz2 rfl (by decide) _ _ _ rfl (HR2.out.alloc _) ⟨(wr.drewN nq).heap.size, 0, none⟩ 1 1 [.int .i64 k, .int .i64 1] rfl rfl (cells2_new (wr.drewN nq) _ _ _) (by simp [Value.oneCell']) (by unfold maxLen; omega) (by omega) (by have := HB2.out.size; simp at this ⊢; omega) ?_); intro v' w5 hown' hgrow _; have hB5 : Below w.heap.size w w5 := (HB2.out.alloc HB2.out.size _).grown hgrow (by have := HB2.out.size; simp at this ⊢; omega) (fun k e => (HR2.out.lt k e).1); have HO5 := Lib.hid hown'; have HB5 := Lib.hid hB5; clear hown' hgrow hB5)
            go_roundw
            case rel => exact ⟨k + 1, by omega, by go_num, RunsIn.one (by rw [HRR.out, List.length_cons, HT.out]; exact HO5.out) HB5.out HSK.out (by rw [HRR.out]; intro a' b' t' h; cases h; exact HNE.out)⟩
            case measure => simp [intOf]; omega
      · have hs' : m.F k = false := by simpa using hs
        rw [hs'] at g0
        have HSK := Lib.hid (HF0.out k hs')
        obtain ⟨Ax, cx, rfl⟩ := hR.form
        have HR := Lib.hid hR
        clear hR hs hs'
        go_wp2_with fail
        go_roundw
        case rel => exact ⟨k + 1, by omega, by go_num, HR.out.skip HSK.out⟩
        case measure => simp [intOf]; omega
    · clear hS
      obtain rfl : k = n := by omega
      have HR := Lib.hid hR
      clear hR
      go_wp2
      go_ret
      exact HR.out.done


end Go.Proofs.YtnmejilpifmlnaaDoor
