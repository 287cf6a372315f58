/- Package central: Take, repeats, checkTaken. -/
import Derived.Test.YtejfoefhaphacaaGreatCj
import Derived.Test.YtejfoefhaphacaaGreatMe
namespace Go.Proofs.YtejfoefhaphacaaGreat
open Go.RowKit Go.Sort Go.Shelf Go.Lib

set_option maxRecDepth 100000 in
set_option maxHeartbeats 1000000 in
theorem cTake_any {O : Nat → Prop} {v : Value} {om : Option Ce} {w : World} (h : LOb false w O v om) (n : Int) (hn : InR n) :
    Calls Tryz.prog 14 #[v, .int .i64 n] w (TkP false w O v (tkR om n) (tkEr om n) (tkDr om n)) := by
  cases om with
  | none =>
    have HH := Lib.hid h
    have HM := Lib.hid (cmade_no h.1)
    clear h
    go_enter Tryz.func14, Tryz.ntmps14
    go_wp2_with (go_at_call 21; refine HM.out.mono ?_; rintro e w1 ⟨rfl, rfl⟩)
    go_ret2
    exact ⟨none, 0, rfl, fun i x hi => by simp [tkR] at hi, ⟨(fun x hx => nomatch hx), LShp.same HH.out (Below.refl _ _), fun _ => rfl⟩, LMut.same HH.out (Below.refl _ _)⟩
  | some c =>
    obtain ⟨B, V, X, rfl, h⟩ := h
    by_cases hneg : n < 0
    · have HM := Lib.hid (cmade_any h)
      have HH := Lib.hid h
      rw [show tkR (some c) n = [] from if_pos hneg, show tkEr (some c) n = 1 from if_pos hneg, show tkDr (some c) n = some c from if_pos hneg]
      clear h
      go_enter Tryz.func14, Tryz.ntmps14
      go_wp2_with (go_at_call 21; refine HM.out.mono ?_; rintro e w1 ⟨rfl, rfl⟩)
      go_ret2
      exact ⟨none, 0, rfl, fun i x hi => by simp at hi, ⟨(fun x hx => nomatch hx), LShp.same HH.out.lob (Below.refl _ _), fun _ => rfl⟩, LMut.same HH.out.lob (Below.refl _ _)⟩
    · rw [show tkR (some c) n = (tkL n.toNat c.L).1 from if_neg hneg, show tkEr (some c) n = 0 from if_neg hneg, show tkDr (some c) n = some { c with L := (tkL n.toNat c.L).2 } from if_neg hneg]
      have h2 := cTake_some h n.toNat (by unfold InR at hn; omega)
      rw [show ((n.toNat : Nat) : Int) = n by omega] at h2
      exact h2

/-! Numbers that came in. -/
def ZAt (w : World) (N : Nat) (A : Option Addr) (zs : List Int) : Prop := ∀ (i : Nat) (x : Int), zs[i]? = some x → InR x ∧ ∃ b o : Nat, A = some ⟨b, o, none⟩ ∧ b < N ∧ w.cell? ⟨b, o + i, none⟩ = some (.int .i64 x)
theorem ZAt.below {w w' : World} {N : Nat} {A : Option Addr} {l : List Int} (h : ZAt w N A l) (hb : Below N w w') : ZAt w' N A l := fun k x hk => by
  obtain ⟨hr, b, o, e, hB, h1⟩ := h k x hk
  exact ⟨hr, b, o, e, hB, (hb.cell (p := ⟨b, _, none⟩) hB).trans h1⟩
theorem ZAt.more {w : World} {N N' : Nat} {A : Option Addr} {l : List Int} (h : ZAt w N A l) (hN : N ≤ N') : ZAt w N' A l := fun k x hk => by
  obtain ⟨hr, b, o, e, hB, hh⟩ := h k x hk
  exact ⟨hr, b, o, e, Nat.lt_of_lt_of_le hB hN, hh⟩
/-- .. kept by what keeps the blocks below N. -/
theorem ZAt.keep {w w' : World} {N : Nat} {A : Option Addr} {l : List Int} {O : Nat → Prop} (h : ZAt w N A l) (hk : Keep O w w') (hN : N ≤ w.heap.size) (hO : ∀ k, O k → N ≤ k) : ZAt w' N A l := h.below (hk.below hN hO)

theorem own_empty {W : World} {base b : Nat} {t : TypeId} (hb : base ≤ b) (h : W.heap[b]? = some (.cells #[] t (0, 0))) : W.ownsRow base t 1 (.slice (some ⟨b, 0, none⟩) 0 0) 0 [] :=
  ⟨rfl, .inr ⟨b, 0, #[], rfl, hb, h, Nat.le_refl _, Nat.zero_le _, rfl, rfl⟩⟩
def ClZ (w : World) (e : Ending) (w' : World) : Prop := ∃ A c, e = .returned (.slice A 0 c) ∧ Below w.heap.size w w'
set_option maxRecDepth 100000 in
set_option maxHeartbeats 1000000 in
theorem Clone_zero (A : Option Addr) (c : Nat) (w : World) : Calls Tryz.prog 97 #[.slice A 0 c] w (ClZ w) := by
  rcases A with _ | ⟨b, o, s⟩
  · exact (Tryz.slices_Clone_int_nil 0 c w).mono fun e w' hp => ⟨_, _, hp.1, by rw [hp.2]; exact Below.refl _ _⟩
  · obtain ⟨i0, hi, hz0, hz1, hz2⟩ := info_parts info3
    have HE := Lib.hid (own_empty (W := w.alloc (.cells #[] 3)) (base := w.heap.size) (Nat.le_refl _) (World.alloc_heap_new w _))
    have heq : ∀ W : World, (binOp .eql 34 (.slice (some ⟨b, o, s⟩) 0 c) (.slice none 0 0)).run Tryz.prog W = .ok (.bool false) W := fun W => Lib.run_eql_slice_nil W _ _ _ 0 c 0 0 Tryz.underlying34
    go_enter Tryz.func97, Tryz.ntmps97
    go_wp2_with (at_builtin; refine wpList_append_own _ rfl _ _ 34 rfl w.heap.size 3 i0 (.int .i64 0) 1 8 Tryz.underlying34 hi hz0 hz1 hz2 rfl (by decide) _ _ _ rfl HE.out ⟨b, o, s⟩ 0 c [] rfl rfl (by simp) (by simp) (by unfold maxLen; omega) (by omega) (by simp) ?_; intro v' w4 hown' hgrow _; have HO4 := Lib.hid (And.intro hown' hgrow); obtain ⟨A4, c4, rfl⟩ := owns_form hown'; clear hown' hgrow)
    go_ret
    exact ⟨A4, c4, rfl, ((Below.refl w.heap.size w).alloc (Nat.le_refl _) _).grown HO4.out.2 (by simp) (fun k e => by cases e; exact Nat.le_refl _)⟩

theorem below_put {w : World} {g n : Nat} {d : Array Int} {os : Array Obj} {N : Nat} (hN : N ≤ w.heap.size) (hg : N ≤ g) : Below N w (grow (putRow (Value.int .i64) (Sort.ahead w n) g 0 d) os) := by
  refine ⟨rfl, rfl, rfl, by simp, fun k hk => ?_⟩
  rw [heap_grow_old _ _ (by simp; omega)]
  have : g ≠ k := by omega
  simp [putRow, mapBlock, Sort.ahead, Array.getElem?_modify, this]
theorem below_put0 {w : World} {g n : Nat} {d : Array Int} {N : Nat} (_hN : N ≤ w.heap.size) (hg : N ≤ g) : Below N w (putRow (Value.int .i64) (Sort.ahead w n) g 0 d) := by
  refine ⟨rfl, rfl, rfl, by simp, fun k hk => ?_⟩
  have : g ≠ k := by omega
  simp [putRow, mapBlock, Sort.ahead, Array.getElem?_modify, this]

/-- A sorted list is shorter without repeats just if it has some. -/
theorem compact_lt (zs : List Int) : (Lib.compact (zs.mergeSort fun x y => decide (x ≤ y))).length < (zs.mergeSort fun x y => decide (x ≤ y)).length ↔ ¬ zs.Nodup := by
  have hp := List.mergeSort_perm zs (fun x y => decide (x ≤ y))
  have hs : (zs.mergeSort fun x y => decide (x ≤ y)).Pairwise (fun x y => decide (x ≤ y) = true) := List.pairwise_mergeSort (fun a b c h1 h2 => by simp only [decide_eq_true_eq] at *; omega) (fun a b => by simp only [Bool.or_eq_true, decide_eq_true_eq]; omega) zs
  rw [← hp.nodup_iff]
  generalize (zs.mergeSort fun x y => decide (x ≤ y)) = S at *
  have hlen : (Lib.compact S).length = ((List.range S.length).filter (Lib.keeps S.toArray)).length := by unfold Lib.compact Lib.compactUpTo; rw [List.length_map]
  rw [hlen]
  constructor
  · intro h hnd
    have hall : ∀ j ∈ List.range S.length, Lib.keeps S.toArray j = true := fun j hj => by
      rw [List.mem_range] at hj
      unfold Lib.keeps
      rw [decide_eq_true_eq]
      rcases Nat.eq_zero_or_pos j with rfl | hj0
      · exact .inl rfl
      · have := List.pairwise_iff_getElem.1 hnd (j - 1) j (by omega) hj (by omega)
        have e1 : S.toArray[j]! = S[j] := by simp [hj]
        have e2 : S.toArray[j - 1]! = S[j - 1] := by simp [show j - 1 < S.length by omega]
        rw [e1, e2]
        exact .inr (fun e => this e.symm)
    rw [List.filter_eq_self.2 hall, List.length_range] at h
    omega
  · intro hnd
    rcases Nat.lt_or_ge ((List.range S.length).filter (Lib.keeps S.toArray)).length S.length with h | h
    · exact h
    · exfalso
      apply hnd
      have hle := List.length_filter_le (Lib.keeps S.toArray) (List.range S.length)
      have hall := List.length_filter_eq_length_iff.1 (show ((List.range S.length).filter (Lib.keeps S.toArray)).length = (List.range S.length).length by rw [List.length_range] at hle ⊢; omega)
      refine List.pairwise_iff_getElem.2 fun i j hi hj hij => ?_
      have hk := hall j (List.mem_range.2 hj)
      unfold Lib.keeps at hk
      rw [decide_eq_true_eq] at hk
      have e1 : S.toArray[j]! = S[j] := by simp [hj]
      have e2 : S.toArray[j - 1]! = S[j - 1] := by simp [show j - 1 < S.length by omega]
      rw [e1, e2] at hk
      have h1 : S[j - 1] ≤ S[j] := by
        have := List.pairwise_iff_getElem.1 hs (j - 1) j (by omega) hj (by omega)
        simpa using this
      have h2 : S[i] ≤ S[j - 1] := by
        rcases Nat.lt_or_eq_of_le (show i ≤ j - 1 by omega) with h3 | h3
        · have := List.pairwise_iff_getElem.1 hs i (j - 1) hi (by omega) h3
          simpa using this
        · simp [h3]
      rcases hk with hk | hk
      · omega
      · omega

set_option maxRecDepth 100000 in
set_option maxHeartbeats 2000000 in
theorem repeats_any {N : Nat} (A : Option Addr) (c : Nat) (zs : List Int) (w : World) (hz : zs.length ≤ 60) (hA : ZAt w N A zs) :
    Calls Tryz.prog 85 #[.slice A zs.length c] w fun e w' => e = .returned (.bool (!decide zs.Nodup)) ∧ Below w.heap.size w w' := by
  rcases Nat.eq_zero_or_pos zs.length with h0 | hpos
  · have hzs := List.length_eq_zero_iff.1 h0
    subst hzs
    have HC := Lib.hid (Clone_zero A c w)
    rw [show (!decide ([] : List Int).Nodup) = false from by simp, show ([] : List Int).length = 0 from rfl]
    have HS := Lib.hid (fun p q W => Tryz.slices_Sort_int_none p q W)
    have HP := Lib.hid (fun p q W => Tryz.slices_Compact_int_empty p q W)
    clear hA hz h0
    go_enter Tryz.func85, Tryz.ntmps85
    go_wp2_with (first
      | (go_at_call 97; refine HC.out.mono ?_; rintro e w1 ⟨A1, c1, rfl, hb⟩; have HB := Lib.hid hb; clear hb)
      | (go_at_call 98; refine (HS.out _ _ _).mono ?_; rintro e w2 ⟨rfl, rfl⟩)
      | (go_at_call 99; refine (HP.out _ _ _).mono ?_; rintro e w3 ⟨rfl, rfl⟩))
    go_ret
    exact ⟨rfl, HB.out⟩
  · obtain ⟨z0, hz0⟩ : ∃ z0, zs[0]? = some z0 := ⟨_, List.getElem?_eq_getElem hpos⟩
    obtain ⟨_, b, o, rfl, _, _⟩ := hA 0 z0 hz0
    have hcell : ∀ j, j < zs.length → w.cell? ⟨b, o + j, none⟩ = some (.int .i64 (zs.getD j 0)) := fun j hj => by
      obtain ⟨_, b', o', e, _, h1⟩ := hA j zs[j] (List.getElem?_eq_getElem hj)
      cases e
      rw [h1]
      simp [List.getD, hj]
    have HC := Lib.hid (Tryz.slices_Clone_int b o zs.length c zs w (Nat.le_refl _) (by omega) hcell)
    have hE := compact_lt zs
    have hl : (zs.mergeSort fun x y => decide (x ≤ y)).length = zs.length := List.length_mergeSort ..
    have HS := Lib.hid (fun (W : World) (g cp : Nat) (hH : Holds (Value.int .i64) W g 0 zs.toArray) (hg : g < W.heap.size) => Tryz.slices_Sort_int g 0 cp zs W hH hg (by omega))
    have HP := Lib.hid (fun (W : World) (g cp : Nat) (hH : Holds (Value.int .i64) W g 0 (zs.mergeSort fun x y => decide (x ≤ y)).toArray) (hcap : zs.length ≤ cp) => Tryz.slices_Compact_int g 0 cp (zs.mergeSort fun x y => decide (x ≤ y)) W hH (by rw [hl]; omega) (by rw [hl]; exact hcap))
    have HO := Lib.hid (fun (W : World) (v : Value) (hown : W.ownsRow w.heap.size 3 1 v zs.length ((zs.take zs.length).map (Value.int .i64))) => show ∃ g cp, v = .slice (some ⟨g, 0, none⟩) zs.length cp ∧ w.heap.size ≤ g ∧ g < W.heap.size ∧ zs.length ≤ cp ∧ Holds (Value.int .i64) W g 0 zs.toArray from by
      rcases hown.2 with ⟨_, h0⟩ | ⟨g, cp, cur, hv, hbg, hg, hnc, _, _, ht⟩
      · omega
      · refine ⟨g, cp, hv, hbg, (Array.getElem?_eq_some_iff.1 hg).1, hnc, fun j hj => ?_⟩
        have hj' : j < zs.length := by simpa using hj
        rw [List.take_of_length_le (Nat.le_refl _), Nat.mul_one] at ht
        have h1 : cur[j]? = some (.int .i64 zs[j]) := by
          have h2 : (zs.map (Value.int .i64))[j]? = some (.int .i64 zs[j]) := by rw [List.getElem?_map, List.getElem?_eq_getElem hj']; rfl
          rw [← ht, List.getElem?_take] at h2
          rw [if_pos hj'] at h2
          simpa using h2
        rw [Nat.zero_add]
        refine ⟨?_, by simp [World.frozen?, hg]⟩
        rw [cell_of_cells hg, h1]
        simp [hj'])
    generalize (zs.mergeSort fun x y => decide (x ≤ y)) = S at *
    have HE := Lib.hid hE
    have HL := Lib.hid hl
    rw [hl] at HP
    obtain ⟨n, hn⟩ : ∃ n, zs.length = n := ⟨_, rfl⟩
    rw [hn] at HC HS HP HO hz
    have HN := Lib.hid hn
    rw [hn]
    obtain ⟨r, hr⟩ : ∃ r, (!decide zs.Nodup) = r := ⟨_, rfl⟩
    have HR := Lib.hid hr
    rw [hr]
    clear hA hz0 hcell hE hl hn hr hpos
    generalize (Lib.compact S).length = m at *
    go_enter Tryz.func85, Tryz.ntmps85
    go_wp2_with (first
      | (go_at_call 97; refine HC.out.mono ?_; rintro e w1 ⟨v1, rfl, hown, _, hb⟩; obtain ⟨g, cp, rfl, hg1, hg2, hcp, hH⟩ := HO.out _ _ hown; have HB := Lib.hid hb; have HG := Lib.hid (And.intro hg1 (And.intro hg2 (And.intro hcp hH))); clear hb hown hg1 hg2 hcp hH)
      | (go_at_call 98; refine (HS.out _ _ _ HG.out.2.2.2 HG.out.2.1).mono ?_; rintro e w2 ⟨rfl, k2, os2, hw2⟩; have HW2 := Lib.hid hw2; have HB2 := Lib.hid (show Below w.heap.size w w2 from by rw [HW2.out]; exact HB.out.trans (below_put HB.out.size HG.out.1)); have HH2 := Lib.hid (show Holds (Value.int .i64) w2 g 0 S.toArray from by rw [HW2.out]; exact holds_grow _ _ _ _ _ _ (by simpa using HG.out.2.1) (holds_putRow _ _ _ _ zs.toArray S.toArray (holds_ahead _ _ _ _ _ _ HG.out.2.2.2) (by simp; rw [HL.out]))); clear hw2)
      | (go_at_call 99; refine (HP.out _ _ _ HH2.out HG.out.2.2.1).mono ?_; rintro e w3 ⟨rfl, q3, hw3⟩; have HB3 := Lib.hid (show Below w.heap.size w w3 from by rw [hw3]; exact HB2.out.trans (below_put0 HB2.out.size HG.out.1)); clear hw3))
    go_ret
    refine ⟨ret_bool ?_, HB3.out⟩
    rw [← HR.out]
    have h1 := HE.out
    rw [HL.out, HN.out] at h1
    by_cases hnd : zs.Nodup
    · simp [hnd]
      simp [hnd] at h1
      exact h1
    · simp [hnd]
      exact h1.2 hnd

end Go.Proofs.YtejfoefhaphacaaGreat
