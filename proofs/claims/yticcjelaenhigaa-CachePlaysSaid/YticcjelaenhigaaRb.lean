/- The document's cache: Want, Objects, Bytes, Over. -/
import Derived.Test.YticcjelaenhigaaWb
import Derived.Test.YticcjelaenhigaaRa
import Derived.Lib.AppendZeros
namespace Go.Proofs.Yticcjelaenhigaa
open Go.RowKit Go.Lib

set_option maxRecDepth 100000 in
set_option maxHeartbeats 2000000 in
theorem dWant_any {O : Nat → Prop} {v : Value} {om : Option Tc} {w : World} {x : Int} (h : TOb true w O v om) : Calls Try.prog 45 #[v, .int .i64 x] w (WtP w om x) := by
  have HH := Lib.hid (dwrong_any x h)
  cases hk : atK om x with
  | none =>
    have HP := Lib.hid (show WtP w om x (.returned (.tuple #[.int .i64 0, .int .i64 (errK om x)])) w from ⟨by rw [show wtV om x = 0 from by unfold wtV; rw [hk]], Below.refl _ _⟩)
    obtain ⟨er, he, e1, e2, _⟩ := errK_ne om x hk
    rw [he] at HH HP
    clear h hk he
    go_enter Try.func45, Try.ntmps45
    go_wp2_with (go_at_call 69; refine HH.out.mono ?_; rintro e w1 ⟨rfl, rfl⟩)
    go_ret2
    exact HP.out
  | some k =>
    cases om with
    | none => cases hk
    | some c =>
      obtain ⟨B, t, l, i, j, ct, cl, ci, cj, V, rfl, h⟩ := h
      obtain ⟨h0, _, hK, _⟩ := h.wf.at hk
      have he : errK (some c) x = 0 := by unfold errK; rw [hk]; rfl
      rw [he] at HH
      have HP := Lib.hid (fun (n : Nat) (w1 : World) (e : n = min k.lim k.b) (hb : Below w.heap.size w w1) => show WtP w (some c) x (.returned (.tuple #[.int .i64 n, .int .i64 0])) w1 from
        ⟨by rw [show wtV (some c) x = ((min k.lim k.b : Nat) : Int) from by unfold wtV; rw [hk], he, e], hb⟩)
      obtain ⟨n, rfl⟩ : ∃ n : Nat, x = (n : Int) := ⟨x.toNat, by omega⟩
      rw [Int.toNat_natCast] at hK
      have hn := (List.getElem?_eq_some_iff.1 hK).1
      obtain ⟨c0, _, _, c3, _⟩ := h.cells
      have c4 := h.limc hK
      have c5 := (h.tab n k hK).2.2
      generalize c.K.length = N at *
      generalize k.lim = m at *
      generalize k.b = b at *
      have hn2 : (n : Int) < (N : Int) := by omega
      have hn0 : (0 : Int) ≤ (n : Int) := by omega
      obtain ⟨r, hr⟩ : ∃ r, min m b = r := ⟨_, rfl⟩
      have HRR := Lib.hid hr
      have hmi : min (m : Int) (b : Int) = (r : Int) := by omega
      clear h hk hK h0 he hr
      go_enter Try.func45, Try.ntmps45
      go_wp2_with (go_at_call 69; refine HH.out.mono ?_; rintro e w1 ⟨rfl, rfl⟩)
      go_region
      go_wp2
      all_goals
        go_ret2
        exact HP.out _ _ HRR.out.symm (belowN (Below.refl _ _) 1)

theorem run_append_zero {P : Program} (w : World) (t ty e : TypeId) (i : TypeInfo) (ht : P.underlying t = some (.slice e)) (hi : P.info? e = some i) (A6 A7 : Option Addr) (q cap c : Nat) (hq : q ≤ cap) : (Builtin.append_ #[t, t] ty #[.slice A6 q cap, .slice A7 0 c]).run P w = .ok (.slice A6 q cap) w := by
  have hf : (Builtin.firstCells i.size 0 (.slice A7 0 c)).run P w = .ok #[] w := by
    cases A7 with
    | none => exact run_firstCells_none w i.size 0 0 c
    | some a => exact run_firstCells_some w i.size 0 a 0 c [] (by simp) (fun j v h => by simp at h)
  cases A6 <;> simp [Builtin.append_, run_underlying ht, sizeOf, typeInfo, hi, Builtin.lenOf, hq, hf, storeCells]

set_option maxRecDepth 100000 in
set_option maxHeartbeats 2000000 in
theorem dObjects_any {O : Nat → Prop} {v : Value} {om : Option Tc} {w : World} {x : Int} (h : TOb true w O v om) : Calls Try.prog 53 #[v, .int .i64 x] w (ObjP w (objT om x)) := by
  have HH := Lib.hid (dhas_any x h)
  cases hk : atK om x with
  | none =>
    rw [hk] at HH
    have HH2 := Lib.hid (show Calls Try.prog 71 #[v, .int .i64 x] w fun e w' => e = .returned (.bool false) ∧ w = w' from HH.out)
    rw [show objT om x = [] from by unfold objT; rw [hk]]
    clear h hk HH
    go_enter Try.func53, Try.ntmps53
    go_wp2_with (go_at_call 71; refine HH2.out.mono ?_; rintro e w1 ⟨rfl, rfl⟩)
    go_ret
    exact ⟨none, 0, rfl, IAt.nil _ _ _, Below.refl _ _⟩
  | some k =>
    rw [hk] at HH
    have HH2 := Lib.hid (show Calls Try.prog 71 #[v, .int .i64 x] w fun e w' => e = .returned (.bool true) ∧ w = w' from HH.out)
    cases om with
    | none => cases hk
    | some c =>
      obtain ⟨i0, hi, hz0, hz1, hz2⟩ := info_parts info3
      obtain ⟨B, t, l, i, j, ct, cl, ci, cj, V, rfl, h⟩ := h
      obtain ⟨h0, _, hK, hkw⟩ := h.wf.at hk
      rw [show objT (some c) x = k.l from by unfold objT; rw [hk]]
      obtain ⟨n, rfl⟩ : ∃ n : Nat, x = (n : Int) := ⟨x.toNat, by omega⟩
      rw [Int.toNat_natCast] at hK
      have hn := (List.getElem?_eq_some_iff.1 hK).1
      have hb0 := bnew w (.cells #[] 3)
      have hlt := h.lt
      have hC2 := ((h.keep (Keep.of (O := fun _ => False) hb0) (fun _ _ h => h)).cells).2.2.1
      obtain ⟨A, cp, c4, _, hcp, hcm, hia⟩ := (h.keep (Keep.of (O := fun _ => False) hb0) (fun _ _ h => h)).listc hK
      obtain ⟨W0, hW0⟩ : ∃ W0, w.alloc (.cells #[] 3) = W0 := ⟨_, rfl⟩
      have hE : W0.ownsRow w.heap.size 3 1 (.slice (some ⟨w.heap.size, 0, none⟩) 0 0) 0 [] := own_empty (Nat.le_refl _) (by rw [← hW0]; exact heap_alloc_new w _)
      rw [hW0] at hC2 c4 hia hb0
      have HB := Lib.hid hb0
      have HE := Lib.hid hE
      have HIA := Lib.hid hia
      have hlen := hkw.len
      generalize c.K.length = N at *
      have hn2 : (n : Int) < (N : Int) := by omega
      have hn0 : (0 : Int) ≤ (n : Int) := by omega
      obtain ⟨m, hm⟩ : ∃ m, k.l.length = m := ⟨_, rfl⟩
      have HM := Lib.hid hm
      rw [hm] at c4 hcp hlen
      clear h hk hK h0 HH hlt hb0 hE hia hkw hm hcm
      rcases Nat.eq_zero_or_pos m with hz | hz
      · subst hz
        have HL := Lib.hid (show k.l = [] from List.length_eq_zero_iff.1 HM.out)
        go_enter Try.func53, Try.ntmps53
        go_wp2_with (first
          | (go_at_call 71; refine HH2.out.mono ?_; rintro e w1 ⟨rfl, rfl⟩)
          | (at_builtin; refine Lib.wpList_append_run _ rfl _ _ _ _ rfl _ _ rfl rfl _ _ (run_append_zero W0 33 33 3 i0 undInts hi (some ⟨w.heap.size, 0, none⟩) A 0 0 cp (Nat.le_refl _)) ?_))
        go_ret
        rw [HL.out]
        exact ⟨some ⟨w.heap.size, 0, none⟩, 0, rfl, IAt.nil _ _ _, HB.out⟩
      · obtain ⟨g', o', rfl, _, _, hc⟩ := HIA.out.some (by rw [HM.out]; exact hz)
        have HS := Lib.hid (And.intro hc HIA.out.inr)
        have HQL := Lib.hid (show (cZ k.l).length = m * 1 from by rw [cZ_len, Nat.mul_one]; exact HM.out)
        clear hc
        go_enter Try.func53, Try.ntmps53
        go_wp2_with (first
          | (go_at_call 71; refine HH2.out.mono ?_; rintro e w1 ⟨rfl, rfl⟩)
          | (at_builtin; refine wpList_append_own _ rfl _ _ 33 rfl w.heap.size 3 i0 (.int .i64 0) 1 8 undInts hi hz0 hz1 hz2 rfl (by decide) _ 0 [] rfl HE.out ⟨g', o', none⟩ m cp (cZ k.l) rfl HQL.out HS.out.1 (cZ_one _) (by unfold maxLen; omega) (by omega) HB.out.size ?_; intro v' w9 hown hgrow _; have HO9 := Lib.hid (And.intro hown hgrow); obtain ⟨A9, c9, rfl⟩ := owns_form hown; clear hown hgrow))
        go_ret
        have hr := HO9.out.1
        rw [Nat.zero_add, List.nil_append] at hr
        rw [← HM.out] at hr
        exact ⟨A9, c9, by rw [HM.out]; simp, (own_off hr).1.iat (own_off hr).2 HS.out.2, HB.out.grown HO9.out.2 HB.out.size (fun k e => (HE.out.lt k e).1)⟩
theorem dBytes_tail {c : Tc} {n : Nat} (hn : n = c.K.length) : bytK (c.K.take n) = byT (some c) := by
  rw [hn, List.take_of_length_le (Nat.le_refl _)]; rfl
set_option maxRecDepth 100000 in
set_option maxHeartbeats 4000000 in
theorem dBytes_any {O : Nat → Prop} {v : Value} {om : Option Tc} {w : World} (h : TOb true w O v om) : Calls Try.prog 54 #[v] w fun e w' => e = .returned (.int .i64 (byT om : Nat)) ∧ Below w.heap.size w w' := by
  cases om with
  | none =>
    obtain rfl := dno h
    have HM := Lib.hid (dmade_no w)
    clear h
    go_enter Try.func54, Try.ntmps54
    go_wp2_with (go_at_call 43; refine HM.out.mono ?_; rintro e w1 ⟨rfl, rfl⟩)
    go_ret
    exact ⟨rfl, Below.refl _ _⟩
  | some c =>
    obtain ⟨B, t, l, i, j, ct, cl, ci, cj, V, rfl, h⟩ := h
    have HM := Lib.hid (dmade_yes h)
    have HR := Lib.hid h
    have HTL := Lib.hid (fun i => bytK_le h.wf.k h.wf.n40 i)
    obtain ⟨N, hN⟩ : ∃ N, c.K.length = N := ⟨_, rfl⟩
    have HN := Lib.hid hN
    have hN40 : N ≤ 40 := by rw [← hN]; exact h.wf.n40
    clear h
    go_enter Try.func54, Try.ntmps54
    go_wp2_with (go_at_call 43; refine HM.out.mono ?_; rintro e w1 ⟨rfl, rfl⟩)
    go_loopw [3, 4] (fun v i wr => ∃ k : Nat, k ≤ N ∧ i = .int .i64 k ∧ v = .int .i64 (bytK (c.K.take k) : Nat) ∧ Below w.heap.size w wr) (fun _ i _ => N - (intOf i).toNat)
    case atStart => exact ⟨0, by omega, rfl, rfl, Below.refl _ _⟩
    case round =>
      obtain ⟨k, hk, rfl, rfl, hB⟩ := hrel
      have hr := HR.out.keep (Keep.of (O := fun _ => False) hB) (fun _ _ h => h)
      obtain ⟨c0, _, c2, _, _⟩ := hr.cells
      rw [HN.out] at c0 c2
      have HB := Lib.hid hB
      by_cases hlt : k < N
      · obtain ⟨kl, hkl⟩ : ∃ kl, c.K[k]? = some kl := ⟨_, List.getElem?_eq_getElem (by rw [HN.out]; exact hlt)⟩
        obtain ⟨A, cp, c4, _, _, _, _⟩ := hr.listc hkl
        have c5 := (hr.tab k kl hkl).1
        have HE := Lib.hid (bytK_take hkl)
        have hb1 := HTL.out k
        have hkw := hr.wf.k kl (List.mem_of_getElem? hkl)
        have hb4 := mul_bd hkw.len hkw.s512
        generalize kl.s = ks at *
        generalize kl.l.length = ll at *
        obtain ⟨tt, htt⟩ : ∃ tt, bytK (c.K.take k) = tt := ⟨_, rfl⟩
        rw [htt] at HE hb1 ⊢
        obtain ⟨pp, hpp⟩ : ∃ pp, ll * ks = pp := ⟨_, rfl⟩
        have HPI := Lib.hid (show ((ll : Int) * (ks : Int)) = (pp : Int) from by rw [← hpp, Int.natCast_mul])
        rw [hpp] at HE hb4
        have hk1 : (k : Int) < (N : Int) := by omega
        have hk0 : (0 : Int) ≤ (k : Int) := by omega
        have HW1 := Lib.hid (w64 (pp : Int) (by omega))
        have HW2 := Lib.hid (w64 ((tt : Int) + (pp : Int)) (by omega))
        clear htt hkl hB hkw hpp hr
        obtain ⟨e1, e2⟩ := HW1.out
        obtain ⟨e3, e4⟩ := HW2.out
        have e5 := HPI.out
        go_wp2_with fail
        go_quiet (fail)
        go_wp2_with fail
        clear e1 e2 e3 e4 e5
        go_roundw
        case rel => exact ⟨k + 1, by omega, by go_num, by rw [HE.out]; simp, belowN HB.out _⟩
        case measure => simp [intOf]; omega
      · obtain rfl : k = N := by omega
        have HT := Lib.hid (dBytes_tail HN.out.symm)
        clear hr
        go_wp2_with fail
        go_ret
        exact ⟨ret_int (by rw [HT.out]), HB.out⟩
end Go.Proofs.Yticcjelaenhigaa
