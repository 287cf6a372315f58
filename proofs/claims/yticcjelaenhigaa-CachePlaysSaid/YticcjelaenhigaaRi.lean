/- The document's cache: Put, as long as there are few. -/
import Derived.Test.YticcjelaenhigaaRh
namespace Go.Proofs.Yticcjelaenhigaa
open Go.RowKit Go.Lib

set_option linter.unusedSimpArgs false in
set_option maxRecDepth 100000 in
set_option maxHeartbeats 8000000 in
theorem dPut_few {O : Nat → Prop} {B t l i j ct cl ci cj : Nat} {V : Nat → Value} {c : Tc} {w : World} {x : Nat} {a : Int} {k : Kl} (h : RcA w O B t l i j ct cl ci cj V c) (hK : c.K[x]? = some k) (ha : InR a) (h256 : ¬ 256 < k.l.length + 1) (hle : k.l.length + 1 ≤ k.lim) :
    Calls Try.prog 47 #[.pointer (some ⟨B, 0, none⟩), .int .i64 x, .int .i64 a] w (PtP true w O (.pointer (some ⟨B, 0, none⟩)) (some c) x a) := by
  have hat : atK (some c) (x : Int) = some k := atK_at hK
  have HH := Lib.hid (dwrong_any (om := some c) (x : Int) ⟨B, t, l, i, j, ct, cl, ci, cj, V, rfl, h⟩)
  rw [show errK (some c) x = 0 from by unfold errK; rw [hat]; rfl] at HH
  have hkw := h.wf.k k (List.mem_of_getElem? hK)
  obtain ⟨n1, n2, n3, n4, n5, n6, n7, n8, n9, n10⟩ := h.ne
  obtain ⟨oB, ot, ol, oi, oj⟩ := h.ob
  have lB := h.lt B oB
  have ll := h.lt l ol
  have li := h.lt i oi
  obtain ⟨A, cp, c7, hVV, hcp, hcm, hia⟩ := h.listc hK
  have hx := (List.getElem?_eq_some_iff.1 hK).1
  obtain ⟨_, _, c2, c3, _⟩ := h.cells
  have c5 := h.limc hK
  obtain ⟨N, hN⟩ : ∃ N, k.l.length = N := ⟨_, rfl⟩
  have hlen := hkw.len
  have hlim := hkw.m128
  rw [hN] at c7 hcp hlen h256 hle
  have HC2 := Lib.hid (fun (W : World) (hb : Below w.heap.size w W) => (hb.cell (p := ⟨B, 2, none⟩) lB).trans c2)
  have HC7 := Lib.hid (fun (W : World) (hb : Below w.heap.size w W) => (hb.cell (p := ⟨l, x, none⟩) ll).trans c7)
  have HIA := Lib.hid (fun (W : World) (hb : Below w.heap.size w W) => hia.below hb)
  have HF := Lib.hid (fun (W : World) (hb : Below w.heap.size w W) => (h.ll.of_block (hb.block l ll)).free x hx)
  have HKN := Lib.hid hN
  have HFAR := Lib.hid (fun (W : World) {SL : Value} (hb : Below w.heap.size w W) => show (W.setCell ⟨l, x, none⟩ SL).cell? ⟨B, 3, none⟩ = some (.slice (some ⟨i, 0, none⟩) c.K.length ci) ∧ (W.setCell ⟨l, x, none⟩ SL).cell? ⟨i, x, none⟩ = some (.int .i64 k.lim) ∧ True from
    ⟨(World.cell?_setCell_other W _ _ _ (fun e => n2 (by injection e))).trans ((hb.cell (p := ⟨B, 3, none⟩) lB).trans c3), (World.cell?_setCell_other W _ _ _ (fun e => n8 (by injection e))).trans ((hb.cell (p := ⟨i, x, none⟩) li).trans c5), trivial⟩)
  have HP := Lib.hid (fun (w5 : World) (g5 cap5 q : Nat) (h5 : AdF w (k.l ++ [a]) w5 g5 (N + 1) cap5) => show PtP true w O (.pointer (some ⟨B, 0, none⟩)) (some c) x a (.returned (.tuple #[.slice none 0 0, .int .i64 0])) ((w5.setCell ⟨l, x, none⟩ (.slice (some ⟨g5, 0, none⟩) (N + 1) cap5)).drewN q) from by
    have hb : ¬ 256 < k.l.length + 1 := by omega
    have e2 : ptE (some c) x = 0 := by unfold ptE; rw [hat]; exact if_neg hb
    have e3 : ptD (some c) x a = some { c with K := c.K.set x (addK k [a]) } := by
      unfold ptD; rw [hat]; dsimp only; rw [if_neg hb]; unfold ptK; rw [if_pos (by omega)]; rfl
    have e1 : ptV (some c) x a = [] := by unfold ptV; rw [hat]; dsimp only; rw [if_neg hb]; unfold ptL; rw [if_pos (by omega)]
    obtain ⟨⟨V', hr⟩, hkp, q1, q2⟩ := h.add1 hK hN h256 ha hia.inr h5
    have hbq : Below (w5.setCell ⟨l, x, none⟩ (.slice (some ⟨g5, 0, none⟩) (N + 1) cap5)).heap.size (w5.setCell ⟨l, x, none⟩ (.slice (some ⟨g5, 0, none⟩) (N + 1) cap5)) ((w5.setCell ⟨l, x, none⟩ (.slice (some ⟨g5, 0, none⟩) (N + 1) cap5)).drewN q) := belowN (Below.refl _ _) q
    refine ⟨none, 0, by rw [e1, e2]; rfl, _, by rw [e3]; exact TOb.below ⟨B, t, l, i, j, ct, cl, ci, cj, V', rfl, hr⟩ hbq, fun g hg => ?_, (hkp.mono fun g _ e => by rw [e]; exact ol).trans (Keep.of hbq), by rw [e1]; exact IAt.nil _ _ _⟩
    rcases hg with hg | hg
    · exact .inl hg
    · refine .inr ⟨by omega, ?_⟩
      rw [hg]
      exact Nat.lt_of_lt_of_le (by rw [World.size_setCell]; exact q2) hbq.size)
  -- the worlds
  have hbd : Below w.heap.size w w.drew := belowN (Below.refl _ w) 1
  obtain ⟨Wa, hWa⟩ : ∃ Wa, w.drew.alloc (.cells #[] 3) = Wa := ⟨_, rfl⟩
  obtain ⟨Wb, hWb⟩ : ∃ Wb, Wa.alloc (.cells #[.int .i64 a] 3) = Wb := ⟨_, rfl⟩
  obtain ⟨Wc, hWc⟩ : ∃ Wc, w.drew.alloc (.cells #[.int .i64 a] 3) = Wc := ⟨_, rfl⟩
  obtain ⟨Wd, hWd⟩ : ∃ Wd, Wc.alloc (.cells #[] 3) = Wd := ⟨_, rfl⟩
  have sA : Wa.heap.size = w.heap.size + 1 := by rw [← hWa]; simp
  have sC : Wc.heap.size = w.heap.size + 1 := by rw [← hWc]; simp
  have hbA : Below w.heap.size w Wa := by rw [← hWa]; exact hbd.alloc hbd.size _
  have hbB : Below w.heap.size w Wb := by rw [← hWb]; exact hbA.alloc hbA.size _
  have hbC : Below w.heap.size w Wc := by rw [← hWc]; exact hbd.alloc hbd.size _
  have hbD : Below w.heap.size w Wd := by rw [← hWd]; exact hbC.alloc hbC.size _
  have eA : Wa.heap[w.heap.size]? = some (.cells #[] 3 (0, 0)) := by rw [← hWa]; exact World.alloc_heap_new w.drew _
  have eB : Wb.heap[w.heap.size]? = some (.cells #[] 3 (0, 0)) := by rw [← hWb]; exact (Below.heap_alloc (w := Wa) _ _ (by omega)).trans eA
  have eD : Wd.heap[Wc.heap.size]? = some (.cells #[] 3 (0, 0)) := by rw [← hWd]; exact World.alloc_heap_new Wc _
  have oB1 : Wb.cell? ⟨Wa.heap.size, 0, none⟩ = some (.int .i64 a) := by rw [← hWb]; exact cell_block (heap_alloc_new Wa _) rfl
  have oD1 : Wd.cell? ⟨w.heap.size, 0, none⟩ = some (.int .i64 a) := by
    have : Wc.cell? ⟨w.heap.size, 0, none⟩ = some (.int .i64 a) := by rw [← hWc]; exact cell_block (World.alloc_heap_new w.drew _) rfl
    exact (World.cell?_of_block (a := ⟨w.heap.size, 0, none⟩) (by rw [← hWd]; exact Below.heap_alloc (w := Wc) _ _ (by show w.heap.size < _; omega))).trans this
  have sB : Wb.heap.size = w.heap.size + 2 := by rw [← hWb]; simp [sA]
  have sD : Wd.heap.size = w.heap.size + 2 := by rw [← hWd]; simp [sC]
  have HOB := Lib.hid (fun (w4 : World) (e : ∀ k, k < Wb.heap.size → k ≠ w.heap.size → w4.heap[k]? = Wb.heap[k]?) => show w4.cell? ⟨Wa.heap.size, 0, none⟩ = some (.int .i64 a) from (World.cell?_of_block (a := ⟨Wa.heap.size, 0, none⟩) (e Wa.heap.size (by omega) (by omega))).trans oB1)
  have HOD := Lib.hid (fun (w4 : World) (e : ∀ k, k < Wd.heap.size → k ≠ Wc.heap.size → w4.heap[k]? = Wd.heap[k]?) => show w4.cell? ⟨w.heap.size, 0, none⟩ = some (.int .i64 a) from (World.cell?_of_block (a := ⟨w.heap.size, 0, none⟩) (e w.heap.size (by omega) (by omega))).trans oD1)
  have HW := Lib.hid (And.intro hbd (And.intro hbA (And.intro hbB (And.intro hbC hbD))))
  have HE := Lib.hid (And.intro eA (And.intro eB eD))
  have HOA := Lib.hid (fun (W : World) => show (W.alloc (.cells #[.int .i64 a] 3)).cell? ⟨W.heap.size, 0, none⟩ = some (.int .i64 a) from cell_block (heap_alloc_new W _) rfl)
  generalize c.K.length = L at *
  have hn2 : (x : Int) < (L : Int) := by omega
  have hn0 : (0 : Int) ≤ (x : Int) := by omega
  have d1 : decide ((N : Int) ≥ 256) = false := decide_eq_false (by omega)
  have d2 : decide ((256 : Int) ≤ (N : Int)) = false := decide_eq_false (by omega)
  have hle2 : ((N + 1 : Nat) : Int) ≤ (k.lim : Int) := by omega
  have d3 : decide (((N + 1 : Nat) : Int) ≤ (k.lim : Int)) = true := decide_eq_true (by omega)
  have d4 : decide (N + 1 ≤ k.lim) = true := decide_eq_true (by omega)
  have d5 : decide ((N : Int) + 1 ≤ (k.lim : Int)) = true := decide_eq_true (by omega)
  have N1 := Lib.hid (And.intro n2 (And.intro n4 n9))
  have HK2 := Lib.hid (fun (W : World) v (e : W.cell? ⟨B, 2, none⟩ = some (.slice (some ⟨l, 0, none⟩) L cl)) => (World.cell?_setCell_other W ⟨l, x, none⟩ ⟨B, 2, none⟩ v (fun e => n2 (by injection e))).trans e)
  clear h hK hat hkw hia hVV hbd hbA hbB hbC hbD eA eB eD oB1 oD1 sA sC sB sD n1 n2 n3 n4 n5 n6 n7 n8 n9 n10 oB ot ol oi oj hN
  have y1 := HC7.out _ HW.out.2.1
  have y2 := HC7.out _ HW.out.2.2.1
  have y3 := HC7.out _ HW.out.2.2.2.1
  have y4 := HC7.out _ HW.out.2.2.2.2
  go_enter Try.func47, Try.ntmps47
  go_wp2_with (go_at_call 69; refine HH.out.mono ?_; rintro e w1 ⟨rfl, rfl⟩)
  clear c2
  refine wp_region_noPanic ?_
  refine wp_region_held_drew (S := fun w' => w'.cell? ⟨B, 2, none⟩ = some (.slice (some ⟨l, 0, none⟩) L cl)) (by kernel_rfl) ?_ ?_
  · first | exact HC2.out _ HW.out.1 | exact HC2.out _ HW.out.2.1 | exact HC2.out _ HW.out.2.2.1 | exact HC2.out _ HW.out.2.2.2.1 | exact HC2.out _ HW.out.2.2.2.2 | exact HC2.out _ H4.out.1.2 | exact HC2.out _ (H4.out.1.alloc _).2 | exact HC2.out _ H5.out.2 | exact HK2.out _ _ (HC2.out _ H5.out.2)
  intro hHeld
  refine wpAnyH_take (i := 0) (v := ?_) rfl (by kernel_rfl) (by kernel_rfl) (by kernel_rfl) (fun _ _ _ h => h) (Or.inl ⟨by rfl, ?_⟩) (by assumption) ?_
  rotate_left
  · (intro W hSW; (try dsimp only at hSW); go_simp; try with_reducible rfl)
  (try simp only [Act.put, List.setIfInBounds_toArray, List.set_cons_zero, List.set_cons_succ])
  refine wpAnyH_take (i := 1) (v := ?_) rfl (by kernel_rfl) (by kernel_rfl) (by kernel_rfl) (fun _ _ _ h => h) (Or.inl ⟨by rfl, ?_⟩) (by assumption) ?_
  rotate_left
  · (intro W hSW; (try dsimp only at hSW); go_simp; try with_reducible rfl)
  (try simp only [Act.put, List.setIfInBounds_toArray, List.set_cons_zero, List.set_cons_succ])
  refine wpAnyH_take (i := 2) (v := ?_) rfl (by kernel_rfl) (by kernel_rfl) (by kernel_rfl) (fun _ _ _ h => h) (Or.inl ⟨by rfl, ?_⟩) (by assumption) ?_
  rotate_left
  · (intro W hSW; (try dsimp only at hSW); go_simp; try with_reducible rfl)
  (try simp only [Act.put, List.setIfInBounds_toArray, List.set_cons_zero, List.set_cons_succ])
  refine wpAnyH_take (i := 3) (v := ?_) rfl (by kernel_rfl) (by kernel_rfl) (by kernel_rfl) (fun _ _ _ h => h) (Or.inl ⟨by rfl, ?_⟩) (by assumption) ?_
  rotate_left
  · (intro W hSW; (try dsimp only at hSW); go_simp; try with_reducible rfl)
  (try simp only [Act.put, List.setIfInBounds_toArray, List.set_cons_zero, List.set_cons_succ])
  refine wpAnyH_take (i := 4) (v := ?_) rfl (by kernel_rfl) (by kernel_rfl) (by kernel_rfl) (fun _ _ _ h => h) (Or.inl ⟨by rfl, ?_⟩) (by assumption) ?_
  rotate_left
  · (intro W hSW; (try dsimp only at hSW); go_simp; try with_reducible rfl)
  (try simp only [Act.put, List.setIfInBounds_toArray, List.set_cons_zero, List.set_cons_succ])
  refine wpAnyH_take (i := 6) (v := ?_) rfl (by kernel_rfl) (by kernel_rfl) (by kernel_rfl) (fun _ _ _ h => h) (Or.inl ⟨by rfl, ?_⟩) (by assumption) ?_
  rotate_left
  · (intro W hSW; (try dsimp only at hSW); go_simp; try with_reducible rfl)
  (try simp only [Act.put, List.setIfInBounds_toArray, List.set_cons_zero, List.set_cons_succ])
  refine wpAnyH_take (i := 7) (v := ?_) rfl (by kernel_rfl) (by kernel_rfl) (by kernel_rfl) (fun _ _ _ h => h) (Or.inl ⟨by rfl, ?_⟩) (by assumption) ?_
  rotate_left
  · (intro W hSW; (try dsimp only at hSW); go_simp; try with_reducible rfl)
  (try simp only [Act.put, List.setIfInBounds_toArray, List.set_cons_zero, List.set_cons_succ])
  refine wpAnyH_take (i := 8) (v := ?_) rfl (by kernel_rfl) (by kernel_rfl) (by kernel_rfl) (fun _ _ _ h => h) (Or.inl ⟨by rfl, ?_⟩) (by assumption) ?_
  rotate_left
  · (intro W hSW; (try dsimp only at hSW); go_simp; try with_reducible rfl)
  (try simp only [Act.put, List.setIfInBounds_toArray, List.set_cons_zero, List.set_cons_succ])
  refine wpAnyH_take (i := 9) (v := ?_) rfl (by kernel_rfl) (by kernel_rfl) (by kernel_rfl) (fun _ _ _ h => h) (Or.inl ⟨by rfl, ?_⟩) (by assumption) ?_
  rotate_left
  · (intro W hSW; (try dsimp only at hSW); go_simp; try with_reducible rfl)
  (try simp only [Act.put, List.setIfInBounds_toArray, List.set_cons_zero, List.set_cons_succ])
  refine wpAnyH_take (i := 10) (v := ?_) rfl (by kernel_rfl) (by kernel_rfl) (by kernel_rfl) (fun _ _ _ h => h) (Or.inl ⟨by rfl, ?_⟩) (by assumption) ?_
  rotate_left
  · (intro W hSW; (try dsimp only at hSW); go_simp; try with_reducible rfl)
  (try simp only [Act.put, List.setIfInBounds_toArray, List.set_cons_zero, List.set_cons_succ])
  refine wpAnyH_take (i := 11) (v := ?_) rfl (by kernel_rfl) (by kernel_rfl) (by kernel_rfl) (fun _ _ _ h => h) (Or.inl ⟨by rfl, ?_⟩) (by assumption) ?_
  rotate_left
  · (intro W hSW; (try dsimp only at hSW); go_simp; try with_reducible rfl)
  (try simp only [Act.put, List.setIfInBounds_toArray, List.set_cons_zero, List.set_cons_succ])
  refine wpAnyH_take (i := 14) (v := ?_) rfl (by kernel_rfl) (by kernel_rfl) (by kernel_rfl) (fun _ _ _ h => h) (Or.inl ⟨by rfl, ?_⟩) (by assumption) ?_
  rotate_left
  · (intro W hSW; (try dsimp only at hSW); go_simp; try with_reducible rfl)
  (try simp only [Act.put, List.setIfInBounds_toArray, List.set_cons_zero, List.set_cons_succ])
  refine wpAnyH_ready (rs := [5, 12, 15]) (by kernel_rfl) (by simp) ?_
  refine AllReadyH.cons rfl (fun K hK => ?_) ?_
  · go_simp
    refine hK.out _ _ ?_ ?_
    · ((try dsimp only); first | exact HC2.out _ HW.out.1 | exact HC2.out _ HW.out.2.1 | exact HC2.out _ HW.out.2.2.1 | exact HC2.out _ HW.out.2.2.2.1 | exact HC2.out _ HW.out.2.2.2.2 | exact HC2.out _ H4.out.1.2 | exact HC2.out _ (H4.out.1.alloc _).2 | exact HC2.out _ H5.out.2 | exact HK2.out _ _ (HC2.out _ H5.out.2))
    clear hK K hHeld
    intro hHeld
    (try simp only [Act.put, List.setIfInBounds_toArray, List.set_cons_zero, List.set_cons_succ])
    refine wpAnyH_ready (rs := [12, 15]) (by kernel_rfl) (by simp) ?_
    refine AllReadyH.cons rfl (fun K hK => ?_) ?_
    · go_simp
      refine hK.out _ _ ?_ ?_
      · ((try dsimp only); first | exact HC2.out _ HW.out.1 | exact HC2.out _ HW.out.2.1 | exact HC2.out _ HW.out.2.2.1 | exact HC2.out _ HW.out.2.2.2.1 | exact HC2.out _ HW.out.2.2.2.2 | exact HC2.out _ H4.out.1.2 | exact HC2.out _ (H4.out.1.alloc _).2 | exact HC2.out _ H5.out.2 | exact HK2.out _ _ (HC2.out _ H5.out.2))
      clear hK K hHeld
      intro hHeld
      (try simp only [Act.put, List.setIfInBounds_toArray, List.set_cons_zero, List.set_cons_succ])
      refine wpAnyH_ready (rs := [13, 15]) (by kernel_rfl) (by simp) ?_
      refine AllReadyH.cons rfl (fun K hK => ?_) ?_
      · first | (refine step_copy (w := w) (W := Wa) (by rfl) (.tmp 30) (.tmp 37) (by rfl) (by rfl) A N cp w.heap.size (by rfl) (by rfl) HE.out.1 (Nat.le_refl _) HW.out.2.1 k.l HKN.out (HIA.out _ HW.out.2.1) (by omega) ?_; intro g4 cap4 w4 h41 h42 h43; have H4 := Lib.hid (And.intro h41 (And.intro h42 h43)); have z7 := HC7.out _ h41.2; clear h41 h42 h43) | (refine step_copy (w := w) (W := Wb) (by rfl) (.tmp 30) (.tmp 37) (by rfl) (by rfl) A N cp w.heap.size (by rfl) (by rfl) HE.out.2.1 (Nat.le_refl _) HW.out.2.2.1 k.l HKN.out (HIA.out _ HW.out.2.2.1) (by omega) ?_; intro g4 cap4 w4 h41 h42 h43; have H4 := Lib.hid (And.intro h41 (And.intro h42 h43)); have z7 := HC7.out _ h41.2; clear h41 h42 h43) | (refine step_copy (w := w) (W := Wd) (by rfl) (.tmp 30) (.tmp 37) (by rfl) (by rfl) A N cp Wc.heap.size (by rfl) (by rfl) HE.out.2.2 HW.out.2.2.2.1.size HW.out.2.2.2.2 k.l HKN.out (HIA.out _ HW.out.2.2.2.2) (by omega) ?_; intro g4 cap4 w4 h41 h42 h43; have H4 := Lib.hid (And.intro h41 (And.intro h42 h43)); have z7 := HC7.out _ h41.2; clear h41 h42 h43) | (refine step_one (w := w) (W := w4.alloc (.cells #[.int .i64 a] 3)) (by rfl) (.tmp 38) (.tmp 40) (by rfl) (by rfl) g4 N cap4 w4.heap.size (by rfl) (by rfl) k.l (H4.out.1.alloc _) a (HOA.out w4) (by omega) ?_; intro g5 cap5 w5 h5; have H5 := Lib.hid h5; have z2 := HC2.out _ h5.2; have z8 := HC7.out _ h5.2; have f8 := HF.out _ h5.2; clear h5) | (refine step_one (w := w) (W := w4) (by rfl) (.tmp 38) (.tmp 40) (by rfl) (by rfl) g4 N cap4 Wa.heap.size (by rfl) (by rfl) k.l H4.out.1 a (HOB.out _ H4.out.2.1) (by omega) ?_; intro g5 cap5 w5 h5; have H5 := Lib.hid h5; have z2 := HC2.out _ h5.2; have z8 := HC7.out _ h5.2; have f8 := HF.out _ h5.2; clear h5) | (refine step_one (w := w) (W := w4) (by rfl) (.tmp 38) (.tmp 40) (by rfl) (by rfl) g4 N cap4 w.heap.size (by rfl) (by rfl) k.l H4.out.1 a (HOD.out _ H4.out.2.1) (by omega) ?_; intro g5 cap5 w5 h5; have H5 := Lib.hid h5; have z2 := HC2.out _ h5.2; have z8 := HC7.out _ h5.2; have f8 := HF.out _ h5.2; clear h5)
        refine hK.out _ _ ?_ ?_
        · ((try dsimp only); first | exact HC2.out _ HW.out.1 | exact HC2.out _ HW.out.2.1 | exact HC2.out _ HW.out.2.2.1 | exact HC2.out _ HW.out.2.2.2.1 | exact HC2.out _ HW.out.2.2.2.2 | exact HC2.out _ H4.out.1.2 | exact HC2.out _ (H4.out.1.alloc _).2 | exact HC2.out _ H5.out.2 | exact HK2.out _ _ (HC2.out _ H5.out.2))
        clear hK K hHeld
        intro hHeld
        (try simp only [Act.put, List.setIfInBounds_toArray, List.set_cons_zero, List.set_cons_succ])
        refine wpAnyH_ready (rs := [15]) (by kernel_rfl) (by simp) ?_
        refine AllReadyH.cons rfl (fun K hK => ?_) ?_
        · go_simp
          refine hK.out _ _ ?_ ?_
          · ((try dsimp only); first | exact HC2.out _ HW.out.1 | exact HC2.out _ HW.out.2.1 | exact HC2.out _ HW.out.2.2.1 | exact HC2.out _ HW.out.2.2.2.1 | exact HC2.out _ HW.out.2.2.2.2 | exact HC2.out _ H4.out.1.2 | exact HC2.out _ (H4.out.1.alloc _).2 | exact HC2.out _ H5.out.2 | exact HK2.out _ _ (HC2.out _ H5.out.2))
          clear hK K hHeld
          intro hHeld
          (try simp only [Act.put, List.setIfInBounds_toArray, List.set_cons_zero, List.set_cons_succ])
          refine wpAnyH_ready (rs := [16]) (by kernel_rfl) (by simp) ?_
          refine AllReadyH.cons rfl (fun K hK => ?_) ?_
          · first | (refine step_copy (w := w) (W := Wa) (by rfl) (.tmp 30) (.tmp 37) (by rfl) (by rfl) A N cp w.heap.size (by rfl) (by rfl) HE.out.1 (Nat.le_refl _) HW.out.2.1 k.l HKN.out (HIA.out _ HW.out.2.1) (by omega) ?_; intro g4 cap4 w4 h41 h42 h43; have H4 := Lib.hid (And.intro h41 (And.intro h42 h43)); have z7 := HC7.out _ h41.2; clear h41 h42 h43) | (refine step_copy (w := w) (W := Wb) (by rfl) (.tmp 30) (.tmp 37) (by rfl) (by rfl) A N cp w.heap.size (by rfl) (by rfl) HE.out.2.1 (Nat.le_refl _) HW.out.2.2.1 k.l HKN.out (HIA.out _ HW.out.2.2.1) (by omega) ?_; intro g4 cap4 w4 h41 h42 h43; have H4 := Lib.hid (And.intro h41 (And.intro h42 h43)); have z7 := HC7.out _ h41.2; clear h41 h42 h43) | (refine step_copy (w := w) (W := Wd) (by rfl) (.tmp 30) (.tmp 37) (by rfl) (by rfl) A N cp Wc.heap.size (by rfl) (by rfl) HE.out.2.2 HW.out.2.2.2.1.size HW.out.2.2.2.2 k.l HKN.out (HIA.out _ HW.out.2.2.2.2) (by omega) ?_; intro g4 cap4 w4 h41 h42 h43; have H4 := Lib.hid (And.intro h41 (And.intro h42 h43)); have z7 := HC7.out _ h41.2; clear h41 h42 h43) | (refine step_one (w := w) (W := w4.alloc (.cells #[.int .i64 a] 3)) (by rfl) (.tmp 38) (.tmp 40) (by rfl) (by rfl) g4 N cap4 w4.heap.size (by rfl) (by rfl) k.l (H4.out.1.alloc _) a (HOA.out w4) (by omega) ?_; intro g5 cap5 w5 h5; have H5 := Lib.hid h5; have z2 := HC2.out _ h5.2; have z8 := HC7.out _ h5.2; have f8 := HF.out _ h5.2; clear h5) | (refine step_one (w := w) (W := w4) (by rfl) (.tmp 38) (.tmp 40) (by rfl) (by rfl) g4 N cap4 Wa.heap.size (by rfl) (by rfl) k.l H4.out.1 a (HOB.out _ H4.out.2.1) (by omega) ?_; intro g5 cap5 w5 h5; have H5 := Lib.hid h5; have z2 := HC2.out _ h5.2; have z8 := HC7.out _ h5.2; have f8 := HF.out _ h5.2; clear h5) | (refine step_one (w := w) (W := w4) (by rfl) (.tmp 38) (.tmp 40) (by rfl) (by rfl) g4 N cap4 w.heap.size (by rfl) (by rfl) k.l H4.out.1 a (HOD.out _ H4.out.2.1) (by omega) ?_; intro g5 cap5 w5 h5; have H5 := Lib.hid h5; have z2 := HC2.out _ h5.2; have z8 := HC7.out _ h5.2; have f8 := HF.out _ h5.2; clear h5)
            refine hK.out _ _ ?_ ?_
            · ((try dsimp only); first | exact HC2.out _ HW.out.1 | exact HC2.out _ HW.out.2.1 | exact HC2.out _ HW.out.2.2.1 | exact HC2.out _ HW.out.2.2.2.1 | exact HC2.out _ HW.out.2.2.2.2 | exact HC2.out _ H4.out.1.2 | exact HC2.out _ (H4.out.1.alloc _).2 | exact HC2.out _ H5.out.2 | exact HK2.out _ _ (HC2.out _ H5.out.2))
            clear hK K hHeld
            intro hHeld
            (try simp only [Act.put, List.setIfInBounds_toArray, List.set_cons_zero, List.set_cons_succ])
            refine wpAnyH_take (i := 17) (v := ?_) rfl (by kernel_rfl) (by kernel_rfl) (by kernel_rfl) (fun _ _ _ h => h) (Or.inl ⟨by rfl, ?_⟩) (by assumption) ?_
            rotate_left
            · (intro W hSW; (try dsimp only at hSW); go_simp; try with_reducible rfl)
            (try simp only [Act.put, List.setIfInBounds_toArray, List.set_cons_zero, List.set_cons_succ])
            refine wpAnyH_ready (rs := [18]) (by kernel_rfl) (by simp) ?_
            refine AllReadyH.cons rfl (fun K hK => ?_) ?_
            · go_simp
              refine hK.out _ _ ?_ ?_
              · ((try dsimp only); first | exact HC2.out _ HW.out.1 | exact HC2.out _ HW.out.2.1 | exact HC2.out _ HW.out.2.2.1 | exact HC2.out _ HW.out.2.2.2.1 | exact HC2.out _ HW.out.2.2.2.2 | exact HC2.out _ H4.out.1.2 | exact HC2.out _ (H4.out.1.alloc _).2 | exact HC2.out _ H5.out.2 | exact HK2.out _ _ (HC2.out _ H5.out.2))
              clear hK K hHeld
              intro hHeld
              (try simp only [Act.put, List.setIfInBounds_toArray, List.set_cons_zero, List.set_cons_succ])
              refine wpAnyH_done (by kernel_rfl) ?_ _
              refine NoPanic.normal ?_
              clear hHeld
              go_wp2
              obtain ⟨wa, hwa⟩ : ∃ wa, wa = w5.setCell ⟨l, x, none⟩ (.slice (some ⟨g5, 0, none⟩) (N + 1) cap5) := ⟨_, rfl⟩
              have e2 : wa.cell? ⟨B, 2, none⟩ = some (.slice (some ⟨l, 0, none⟩) L cl) := by rw [hwa]; exact HK2.out _ _ z2
              have e7 : wa.cell? ⟨l, x, none⟩ = some (.slice (some ⟨g5, 0, none⟩) (N + 1) cap5) := by rw [hwa]; exact World.cell?_setCell_same _ _ _ z8
              have e3 : wa.cell? ⟨B, 3, none⟩ = some (.slice (some ⟨i, 0, none⟩) L ci) := by rw [hwa]; exact (HFAR.out _ H5.out.2).1
              have e5 : wa.cell? ⟨i, x, none⟩ = some (.int .i64 k.lim) := by rw [hwa]; exact (HFAR.out _ H5.out.2).2.1
              have HWA := Lib.hid hwa
              rw [← hwa]
              clear hwa z2 z8 f8 z7 y1 y2 y3 y4 c3 c5 c7
              go_quiet (fail)
              go_wp2
              go_ret2
              rw [HWA.out]
              exact HP.out _ _ _ _ H5.out
            exact AllReadyH.nil
          exact AllReadyH.nil
        exact AllReadyH.nil
      refine AllReadyH.cons rfl (fun K hK => ?_) ?_
      · go_simp
        refine hK.out _ _ ?_ ?_
        · ((try dsimp only); first | exact HC2.out _ HW.out.1 | exact HC2.out _ HW.out.2.1 | exact HC2.out _ HW.out.2.2.1 | exact HC2.out _ HW.out.2.2.2.1 | exact HC2.out _ HW.out.2.2.2.2 | exact HC2.out _ H4.out.1.2 | exact HC2.out _ (H4.out.1.alloc _).2 | exact HC2.out _ H5.out.2 | exact HK2.out _ _ (HC2.out _ H5.out.2))
        clear hK K hHeld
        intro hHeld
        (try simp only [Act.put, List.setIfInBounds_toArray, List.set_cons_zero, List.set_cons_succ])
        refine wpAnyH_ready (rs := [13]) (by kernel_rfl) (by simp) ?_
        refine AllReadyH.cons rfl (fun K hK => ?_) ?_
        · first | (refine step_copy (w := w) (W := Wa) (by rfl) (.tmp 30) (.tmp 37) (by rfl) (by rfl) A N cp w.heap.size (by rfl) (by rfl) HE.out.1 (Nat.le_refl _) HW.out.2.1 k.l HKN.out (HIA.out _ HW.out.2.1) (by omega) ?_; intro g4 cap4 w4 h41 h42 h43; have H4 := Lib.hid (And.intro h41 (And.intro h42 h43)); have z7 := HC7.out _ h41.2; clear h41 h42 h43) | (refine step_copy (w := w) (W := Wb) (by rfl) (.tmp 30) (.tmp 37) (by rfl) (by rfl) A N cp w.heap.size (by rfl) (by rfl) HE.out.2.1 (Nat.le_refl _) HW.out.2.2.1 k.l HKN.out (HIA.out _ HW.out.2.2.1) (by omega) ?_; intro g4 cap4 w4 h41 h42 h43; have H4 := Lib.hid (And.intro h41 (And.intro h42 h43)); have z7 := HC7.out _ h41.2; clear h41 h42 h43) | (refine step_copy (w := w) (W := Wd) (by rfl) (.tmp 30) (.tmp 37) (by rfl) (by rfl) A N cp Wc.heap.size (by rfl) (by rfl) HE.out.2.2 HW.out.2.2.2.1.size HW.out.2.2.2.2 k.l HKN.out (HIA.out _ HW.out.2.2.2.2) (by omega) ?_; intro g4 cap4 w4 h41 h42 h43; have H4 := Lib.hid (And.intro h41 (And.intro h42 h43)); have z7 := HC7.out _ h41.2; clear h41 h42 h43) | (refine step_one (w := w) (W := w4.alloc (.cells #[.int .i64 a] 3)) (by rfl) (.tmp 38) (.tmp 40) (by rfl) (by rfl) g4 N cap4 w4.heap.size (by rfl) (by rfl) k.l (H4.out.1.alloc _) a (HOA.out w4) (by omega) ?_; intro g5 cap5 w5 h5; have H5 := Lib.hid h5; have z2 := HC2.out _ h5.2; have z8 := HC7.out _ h5.2; have f8 := HF.out _ h5.2; clear h5) | (refine step_one (w := w) (W := w4) (by rfl) (.tmp 38) (.tmp 40) (by rfl) (by rfl) g4 N cap4 Wa.heap.size (by rfl) (by rfl) k.l H4.out.1 a (HOB.out _ H4.out.2.1) (by omega) ?_; intro g5 cap5 w5 h5; have H5 := Lib.hid h5; have z2 := HC2.out _ h5.2; have z8 := HC7.out _ h5.2; have f8 := HF.out _ h5.2; clear h5) | (refine step_one (w := w) (W := w4) (by rfl) (.tmp 38) (.tmp 40) (by rfl) (by rfl) g4 N cap4 w.heap.size (by rfl) (by rfl) k.l H4.out.1 a (HOD.out _ H4.out.2.1) (by omega) ?_; intro g5 cap5 w5 h5; have H5 := Lib.hid h5; have z2 := HC2.out _ h5.2; have z8 := HC7.out _ h5.2; have f8 := HF.out _ h5.2; clear h5)
          refine hK.out _ _ ?_ ?_
          · ((try dsimp only); first | exact HC2.out _ HW.out.1 | exact HC2.out _ HW.out.2.1 | exact HC2.out _ HW.out.2.2.1 | exact HC2.out _ HW.out.2.2.2.1 | exact HC2.out _ HW.out.2.2.2.2 | exact HC2.out _ H4.out.1.2 | exact HC2.out _ (H4.out.1.alloc _).2 | exact HC2.out _ H5.out.2 | exact HK2.out _ _ (HC2.out _ H5.out.2))
          clear hK K hHeld
          intro hHeld
          (try simp only [Act.put, List.setIfInBounds_toArray, List.set_cons_zero, List.set_cons_succ])
          refine wpAnyH_ready (rs := [16]) (by kernel_rfl) (by simp) ?_
          refine AllReadyH.cons rfl (fun K hK => ?_) ?_
          · first | (refine step_copy (w := w) (W := Wa) (by rfl) (.tmp 30) (.tmp 37) (by rfl) (by rfl) A N cp w.heap.size (by rfl) (by rfl) HE.out.1 (Nat.le_refl _) HW.out.2.1 k.l HKN.out (HIA.out _ HW.out.2.1) (by omega) ?_; intro g4 cap4 w4 h41 h42 h43; have H4 := Lib.hid (And.intro h41 (And.intro h42 h43)); have z7 := HC7.out _ h41.2; clear h41 h42 h43) | (refine step_copy (w := w) (W := Wb) (by rfl) (.tmp 30) (.tmp 37) (by rfl) (by rfl) A N cp w.heap.size (by rfl) (by rfl) HE.out.2.1 (Nat.le_refl _) HW.out.2.2.1 k.l HKN.out (HIA.out _ HW.out.2.2.1) (by omega) ?_; intro g4 cap4 w4 h41 h42 h43; have H4 := Lib.hid (And.intro h41 (And.intro h42 h43)); have z7 := HC7.out _ h41.2; clear h41 h42 h43) | (refine step_copy (w := w) (W := Wd) (by rfl) (.tmp 30) (.tmp 37) (by rfl) (by rfl) A N cp Wc.heap.size (by rfl) (by rfl) HE.out.2.2 HW.out.2.2.2.1.size HW.out.2.2.2.2 k.l HKN.out (HIA.out _ HW.out.2.2.2.2) (by omega) ?_; intro g4 cap4 w4 h41 h42 h43; have H4 := Lib.hid (And.intro h41 (And.intro h42 h43)); have z7 := HC7.out _ h41.2; clear h41 h42 h43) | (refine step_one (w := w) (W := w4.alloc (.cells #[.int .i64 a] 3)) (by rfl) (.tmp 38) (.tmp 40) (by rfl) (by rfl) g4 N cap4 w4.heap.size (by rfl) (by rfl) k.l (H4.out.1.alloc _) a (HOA.out w4) (by omega) ?_; intro g5 cap5 w5 h5; have H5 := Lib.hid h5; have z2 := HC2.out _ h5.2; have z8 := HC7.out _ h5.2; have f8 := HF.out _ h5.2; clear h5) | (refine step_one (w := w) (W := w4) (by rfl) (.tmp 38) (.tmp 40) (by rfl) (by rfl) g4 N cap4 Wa.heap.size (by rfl) (by rfl) k.l H4.out.1 a (HOB.out _ H4.out.2.1) (by omega) ?_; intro g5 cap5 w5 h5; have H5 := Lib.hid h5; have z2 := HC2.out _ h5.2; have z8 := HC7.out _ h5.2; have f8 := HF.out _ h5.2; clear h5) | (refine step_one (w := w) (W := w4) (by rfl) (.tmp 38) (.tmp 40) (by rfl) (by rfl) g4 N cap4 w.heap.size (by rfl) (by rfl) k.l H4.out.1 a (HOD.out _ H4.out.2.1) (by omega) ?_; intro g5 cap5 w5 h5; have H5 := Lib.hid h5; have z2 := HC2.out _ h5.2; have z8 := HC7.out _ h5.2; have f8 := HF.out _ h5.2; clear h5)
            refine hK.out _ _ ?_ ?_
            · ((try dsimp only); first | exact HC2.out _ HW.out.1 | exact HC2.out _ HW.out.2.1 | exact HC2.out _ HW.out.2.2.1 | exact HC2.out _ HW.out.2.2.2.1 | exact HC2.out _ HW.out.2.2.2.2 | exact HC2.out _ H4.out.1.2 | exact HC2.out _ (H4.out.1.alloc _).2 | exact HC2.out _ H5.out.2 | exact HK2.out _ _ (HC2.out _ H5.out.2))
            clear hK K hHeld
            intro hHeld
            (try simp only [Act.put, List.setIfInBounds_toArray, List.set_cons_zero, List.set_cons_succ])
            refine wpAnyH_take (i := 17) (v := ?_) rfl (by kernel_rfl) (by kernel_rfl) (by kernel_rfl) (fun _ _ _ h => h) (Or.inl ⟨by rfl, ?_⟩) (by assumption) ?_
            rotate_left
            · (intro W hSW; (try dsimp only at hSW); go_simp; try with_reducible rfl)
            (try simp only [Act.put, List.setIfInBounds_toArray, List.set_cons_zero, List.set_cons_succ])
            refine wpAnyH_ready (rs := [18]) (by kernel_rfl) (by simp) ?_
            refine AllReadyH.cons rfl (fun K hK => ?_) ?_
            · go_simp
              refine hK.out _ _ ?_ ?_
              · ((try dsimp only); first | exact HC2.out _ HW.out.1 | exact HC2.out _ HW.out.2.1 | exact HC2.out _ HW.out.2.2.1 | exact HC2.out _ HW.out.2.2.2.1 | exact HC2.out _ HW.out.2.2.2.2 | exact HC2.out _ H4.out.1.2 | exact HC2.out _ (H4.out.1.alloc _).2 | exact HC2.out _ H5.out.2 | exact HK2.out _ _ (HC2.out _ H5.out.2))
              clear hK K hHeld
              intro hHeld
              (try simp only [Act.put, List.setIfInBounds_toArray, List.set_cons_zero, List.set_cons_succ])
              refine wpAnyH_done (by kernel_rfl) ?_ _
              refine NoPanic.normal ?_
              clear hHeld
              go_wp2
              obtain ⟨wa, hwa⟩ : ∃ wa, wa = w5.setCell ⟨l, x, none⟩ (.slice (some ⟨g5, 0, none⟩) (N + 1) cap5) := ⟨_, rfl⟩
              have e2 : wa.cell? ⟨B, 2, none⟩ = some (.slice (some ⟨l, 0, none⟩) L cl) := by rw [hwa]; exact HK2.out _ _ z2
              have e7 : wa.cell? ⟨l, x, none⟩ = some (.slice (some ⟨g5, 0, none⟩) (N + 1) cap5) := by rw [hwa]; exact World.cell?_setCell_same _ _ _ z8
              have e3 : wa.cell? ⟨B, 3, none⟩ = some (.slice (some ⟨i, 0, none⟩) L ci) := by rw [hwa]; exact (HFAR.out _ H5.out.2).1
              have e5 : wa.cell? ⟨i, x, none⟩ = some (.int .i64 k.lim) := by rw [hwa]; exact (HFAR.out _ H5.out.2).2.1
              have HWA := Lib.hid hwa
              rw [← hwa]
              clear hwa z2 z8 f8 z7 y1 y2 y3 y4 c3 c5 c7
              go_quiet (fail)
              go_wp2
              go_ret2
              rw [HWA.out]
              exact HP.out _ _ _ _ H5.out
            exact AllReadyH.nil
          exact AllReadyH.nil
        exact AllReadyH.nil
      exact AllReadyH.nil
    refine AllReadyH.cons rfl (fun K hK => ?_) ?_
    · go_simp
      refine hK.out _ _ ?_ ?_
      · ((try dsimp only); first | exact HC2.out _ HW.out.1 | exact HC2.out _ HW.out.2.1 | exact HC2.out _ HW.out.2.2.1 | exact HC2.out _ HW.out.2.2.2.1 | exact HC2.out _ HW.out.2.2.2.2 | exact HC2.out _ H4.out.1.2 | exact HC2.out _ (H4.out.1.alloc _).2 | exact HC2.out _ H5.out.2 | exact HK2.out _ _ (HC2.out _ H5.out.2))
      clear hK K hHeld
      intro hHeld
      (try simp only [Act.put, List.setIfInBounds_toArray, List.set_cons_zero, List.set_cons_succ])
      refine wpAnyH_ready (rs := [12]) (by kernel_rfl) (by simp) ?_
      refine AllReadyH.cons rfl (fun K hK => ?_) ?_
      · go_simp
        refine hK.out _ _ ?_ ?_
        · ((try dsimp only); first | exact HC2.out _ HW.out.1 | exact HC2.out _ HW.out.2.1 | exact HC2.out _ HW.out.2.2.1 | exact HC2.out _ HW.out.2.2.2.1 | exact HC2.out _ HW.out.2.2.2.2 | exact HC2.out _ H4.out.1.2 | exact HC2.out _ (H4.out.1.alloc _).2 | exact HC2.out _ H5.out.2 | exact HK2.out _ _ (HC2.out _ H5.out.2))
        clear hK K hHeld
        intro hHeld
        (try simp only [Act.put, List.setIfInBounds_toArray, List.set_cons_zero, List.set_cons_succ])
        refine wpAnyH_ready (rs := [13]) (by kernel_rfl) (by simp) ?_
        refine AllReadyH.cons rfl (fun K hK => ?_) ?_
        · first | (refine step_copy (w := w) (W := Wa) (by rfl) (.tmp 30) (.tmp 37) (by rfl) (by rfl) A N cp w.heap.size (by rfl) (by rfl) HE.out.1 (Nat.le_refl _) HW.out.2.1 k.l HKN.out (HIA.out _ HW.out.2.1) (by omega) ?_; intro g4 cap4 w4 h41 h42 h43; have H4 := Lib.hid (And.intro h41 (And.intro h42 h43)); have z7 := HC7.out _ h41.2; clear h41 h42 h43) | (refine step_copy (w := w) (W := Wb) (by rfl) (.tmp 30) (.tmp 37) (by rfl) (by rfl) A N cp w.heap.size (by rfl) (by rfl) HE.out.2.1 (Nat.le_refl _) HW.out.2.2.1 k.l HKN.out (HIA.out _ HW.out.2.2.1) (by omega) ?_; intro g4 cap4 w4 h41 h42 h43; have H4 := Lib.hid (And.intro h41 (And.intro h42 h43)); have z7 := HC7.out _ h41.2; clear h41 h42 h43) | (refine step_copy (w := w) (W := Wd) (by rfl) (.tmp 30) (.tmp 37) (by rfl) (by rfl) A N cp Wc.heap.size (by rfl) (by rfl) HE.out.2.2 HW.out.2.2.2.1.size HW.out.2.2.2.2 k.l HKN.out (HIA.out _ HW.out.2.2.2.2) (by omega) ?_; intro g4 cap4 w4 h41 h42 h43; have H4 := Lib.hid (And.intro h41 (And.intro h42 h43)); have z7 := HC7.out _ h41.2; clear h41 h42 h43) | (refine step_one (w := w) (W := w4.alloc (.cells #[.int .i64 a] 3)) (by rfl) (.tmp 38) (.tmp 40) (by rfl) (by rfl) g4 N cap4 w4.heap.size (by rfl) (by rfl) k.l (H4.out.1.alloc _) a (HOA.out w4) (by omega) ?_; intro g5 cap5 w5 h5; have H5 := Lib.hid h5; have z2 := HC2.out _ h5.2; have z8 := HC7.out _ h5.2; have f8 := HF.out _ h5.2; clear h5) | (refine step_one (w := w) (W := w4) (by rfl) (.tmp 38) (.tmp 40) (by rfl) (by rfl) g4 N cap4 Wa.heap.size (by rfl) (by rfl) k.l H4.out.1 a (HOB.out _ H4.out.2.1) (by omega) ?_; intro g5 cap5 w5 h5; have H5 := Lib.hid h5; have z2 := HC2.out _ h5.2; have z8 := HC7.out _ h5.2; have f8 := HF.out _ h5.2; clear h5) | (refine step_one (w := w) (W := w4) (by rfl) (.tmp 38) (.tmp 40) (by rfl) (by rfl) g4 N cap4 w.heap.size (by rfl) (by rfl) k.l H4.out.1 a (HOD.out _ H4.out.2.1) (by omega) ?_; intro g5 cap5 w5 h5; have H5 := Lib.hid h5; have z2 := HC2.out _ h5.2; have z8 := HC7.out _ h5.2; have f8 := HF.out _ h5.2; clear h5)
          refine hK.out _ _ ?_ ?_
          · ((try dsimp only); first | exact HC2.out _ HW.out.1 | exact HC2.out _ HW.out.2.1 | exact HC2.out _ HW.out.2.2.1 | exact HC2.out _ HW.out.2.2.2.1 | exact HC2.out _ HW.out.2.2.2.2 | exact HC2.out _ H4.out.1.2 | exact HC2.out _ (H4.out.1.alloc _).2 | exact HC2.out _ H5.out.2 | exact HK2.out _ _ (HC2.out _ H5.out.2))
          clear hK K hHeld
          intro hHeld
          (try simp only [Act.put, List.setIfInBounds_toArray, List.set_cons_zero, List.set_cons_succ])
          refine wpAnyH_ready (rs := [16]) (by kernel_rfl) (by simp) ?_
          refine AllReadyH.cons rfl (fun K hK => ?_) ?_
          · first | (refine step_copy (w := w) (W := Wa) (by rfl) (.tmp 30) (.tmp 37) (by rfl) (by rfl) A N cp w.heap.size (by rfl) (by rfl) HE.out.1 (Nat.le_refl _) HW.out.2.1 k.l HKN.out (HIA.out _ HW.out.2.1) (by omega) ?_; intro g4 cap4 w4 h41 h42 h43; have H4 := Lib.hid (And.intro h41 (And.intro h42 h43)); have z7 := HC7.out _ h41.2; clear h41 h42 h43) | (refine step_copy (w := w) (W := Wb) (by rfl) (.tmp 30) (.tmp 37) (by rfl) (by rfl) A N cp w.heap.size (by rfl) (by rfl) HE.out.2.1 (Nat.le_refl _) HW.out.2.2.1 k.l HKN.out (HIA.out _ HW.out.2.2.1) (by omega) ?_; intro g4 cap4 w4 h41 h42 h43; have H4 := Lib.hid (And.intro h41 (And.intro h42 h43)); have z7 := HC7.out _ h41.2; clear h41 h42 h43) | (refine step_copy (w := w) (W := Wd) (by rfl) (.tmp 30) (.tmp 37) (by rfl) (by rfl) A N cp Wc.heap.size (by rfl) (by rfl) HE.out.2.2 HW.out.2.2.2.1.size HW.out.2.2.2.2 k.l HKN.out (HIA.out _ HW.out.2.2.2.2) (by omega) ?_; intro g4 cap4 w4 h41 h42 h43; have H4 := Lib.hid (And.intro h41 (And.intro h42 h43)); have z7 := HC7.out _ h41.2; clear h41 h42 h43) | (refine step_one (w := w) (W := w4.alloc (.cells #[.int .i64 a] 3)) (by rfl) (.tmp 38) (.tmp 40) (by rfl) (by rfl) g4 N cap4 w4.heap.size (by rfl) (by rfl) k.l (H4.out.1.alloc _) a (HOA.out w4) (by omega) ?_; intro g5 cap5 w5 h5; have H5 := Lib.hid h5; have z2 := HC2.out _ h5.2; have z8 := HC7.out _ h5.2; have f8 := HF.out _ h5.2; clear h5) | (refine step_one (w := w) (W := w4) (by rfl) (.tmp 38) (.tmp 40) (by rfl) (by rfl) g4 N cap4 Wa.heap.size (by rfl) (by rfl) k.l H4.out.1 a (HOB.out _ H4.out.2.1) (by omega) ?_; intro g5 cap5 w5 h5; have H5 := Lib.hid h5; have z2 := HC2.out _ h5.2; have z8 := HC7.out _ h5.2; have f8 := HF.out _ h5.2; clear h5) | (refine step_one (w := w) (W := w4) (by rfl) (.tmp 38) (.tmp 40) (by rfl) (by rfl) g4 N cap4 w.heap.size (by rfl) (by rfl) k.l H4.out.1 a (HOD.out _ H4.out.2.1) (by omega) ?_; intro g5 cap5 w5 h5; have H5 := Lib.hid h5; have z2 := HC2.out _ h5.2; have z8 := HC7.out _ h5.2; have f8 := HF.out _ h5.2; clear h5)
            refine hK.out _ _ ?_ ?_
            · ((try dsimp only); first | exact HC2.out _ HW.out.1 | exact HC2.out _ HW.out.2.1 | exact HC2.out _ HW.out.2.2.1 | exact HC2.out _ HW.out.2.2.2.1 | exact HC2.out _ HW.out.2.2.2.2 | exact HC2.out _ H4.out.1.2 | exact HC2.out _ (H4.out.1.alloc _).2 | exact HC2.out _ H5.out.2 | exact HK2.out _ _ (HC2.out _ H5.out.2))
            clear hK K hHeld
            intro hHeld
            (try simp only [Act.put, List.setIfInBounds_toArray, List.set_cons_zero, List.set_cons_succ])
            refine wpAnyH_take (i := 17) (v := ?_) rfl (by kernel_rfl) (by kernel_rfl) (by kernel_rfl) (fun _ _ _ h => h) (Or.inl ⟨by rfl, ?_⟩) (by assumption) ?_
            rotate_left
            · (intro W hSW; (try dsimp only at hSW); go_simp; try with_reducible rfl)
            (try simp only [Act.put, List.setIfInBounds_toArray, List.set_cons_zero, List.set_cons_succ])
            refine wpAnyH_ready (rs := [18]) (by kernel_rfl) (by simp) ?_
            refine AllReadyH.cons rfl (fun K hK => ?_) ?_
            · go_simp
              refine hK.out _ _ ?_ ?_
              · ((try dsimp only); first | exact HC2.out _ HW.out.1 | exact HC2.out _ HW.out.2.1 | exact HC2.out _ HW.out.2.2.1 | exact HC2.out _ HW.out.2.2.2.1 | exact HC2.out _ HW.out.2.2.2.2 | exact HC2.out _ H4.out.1.2 | exact HC2.out _ (H4.out.1.alloc _).2 | exact HC2.out _ H5.out.2 | exact HK2.out _ _ (HC2.out _ H5.out.2))
              clear hK K hHeld
              intro hHeld
              (try simp only [Act.put, List.setIfInBounds_toArray, List.set_cons_zero, List.set_cons_succ])
              refine wpAnyH_done (by kernel_rfl) ?_ _
              refine NoPanic.normal ?_
              clear hHeld
              go_wp2
              obtain ⟨wa, hwa⟩ : ∃ wa, wa = w5.setCell ⟨l, x, none⟩ (.slice (some ⟨g5, 0, none⟩) (N + 1) cap5) := ⟨_, rfl⟩
              have e2 : wa.cell? ⟨B, 2, none⟩ = some (.slice (some ⟨l, 0, none⟩) L cl) := by rw [hwa]; exact HK2.out _ _ z2
              have e7 : wa.cell? ⟨l, x, none⟩ = some (.slice (some ⟨g5, 0, none⟩) (N + 1) cap5) := by rw [hwa]; exact World.cell?_setCell_same _ _ _ z8
              have e3 : wa.cell? ⟨B, 3, none⟩ = some (.slice (some ⟨i, 0, none⟩) L ci) := by rw [hwa]; exact (HFAR.out _ H5.out.2).1
              have e5 : wa.cell? ⟨i, x, none⟩ = some (.int .i64 k.lim) := by rw [hwa]; exact (HFAR.out _ H5.out.2).2.1
              have HWA := Lib.hid hwa
              rw [← hwa]
              clear hwa z2 z8 f8 z7 y1 y2 y3 y4 c3 c5 c7
              go_quiet (fail)
              go_wp2
              go_ret2
              rw [HWA.out]
              exact HP.out _ _ _ _ H5.out
            exact AllReadyH.nil
          exact AllReadyH.nil
        exact AllReadyH.nil
      exact AllReadyH.nil
    exact AllReadyH.nil
  refine AllReadyH.cons rfl (fun K hK => ?_) ?_
  · go_simp
    refine hK.out _ _ ?_ ?_
    · ((try dsimp only); first | exact HC2.out _ HW.out.1 | exact HC2.out _ HW.out.2.1 | exact HC2.out _ HW.out.2.2.1 | exact HC2.out _ HW.out.2.2.2.1 | exact HC2.out _ HW.out.2.2.2.2 | exact HC2.out _ H4.out.1.2 | exact HC2.out _ (H4.out.1.alloc _).2 | exact HC2.out _ H5.out.2 | exact HK2.out _ _ (HC2.out _ H5.out.2))
    clear hK K hHeld
    intro hHeld
    (try simp only [Act.put, List.setIfInBounds_toArray, List.set_cons_zero, List.set_cons_succ])
    refine wpAnyH_ready (rs := [5, 15]) (by kernel_rfl) (by simp) ?_
    refine AllReadyH.cons rfl (fun K hK => ?_) ?_
    · go_simp
      refine hK.out _ _ ?_ ?_
      · ((try dsimp only); first | exact HC2.out _ HW.out.1 | exact HC2.out _ HW.out.2.1 | exact HC2.out _ HW.out.2.2.1 | exact HC2.out _ HW.out.2.2.2.1 | exact HC2.out _ HW.out.2.2.2.2 | exact HC2.out _ H4.out.1.2 | exact HC2.out _ (H4.out.1.alloc _).2 | exact HC2.out _ H5.out.2 | exact HK2.out _ _ (HC2.out _ H5.out.2))
      clear hK K hHeld
      intro hHeld
      (try simp only [Act.put, List.setIfInBounds_toArray, List.set_cons_zero, List.set_cons_succ])
      refine wpAnyH_ready (rs := [13, 15]) (by kernel_rfl) (by simp) ?_
      refine AllReadyH.cons rfl (fun K hK => ?_) ?_
      · first | (refine step_copy (w := w) (W := Wa) (by rfl) (.tmp 30) (.tmp 37) (by rfl) (by rfl) A N cp w.heap.size (by rfl) (by rfl) HE.out.1 (Nat.le_refl _) HW.out.2.1 k.l HKN.out (HIA.out _ HW.out.2.1) (by omega) ?_; intro g4 cap4 w4 h41 h42 h43; have H4 := Lib.hid (And.intro h41 (And.intro h42 h43)); have z7 := HC7.out _ h41.2; clear h41 h42 h43) | (refine step_copy (w := w) (W := Wb) (by rfl) (.tmp 30) (.tmp 37) (by rfl) (by rfl) A N cp w.heap.size (by rfl) (by rfl) HE.out.2.1 (Nat.le_refl _) HW.out.2.2.1 k.l HKN.out (HIA.out _ HW.out.2.2.1) (by omega) ?_; intro g4 cap4 w4 h41 h42 h43; have H4 := Lib.hid (And.intro h41 (And.intro h42 h43)); have z7 := HC7.out _ h41.2; clear h41 h42 h43) | (refine step_copy (w := w) (W := Wd) (by rfl) (.tmp 30) (.tmp 37) (by rfl) (by rfl) A N cp Wc.heap.size (by rfl) (by rfl) HE.out.2.2 HW.out.2.2.2.1.size HW.out.2.2.2.2 k.l HKN.out (HIA.out _ HW.out.2.2.2.2) (by omega) ?_; intro g4 cap4 w4 h41 h42 h43; have H4 := Lib.hid (And.intro h41 (And.intro h42 h43)); have z7 := HC7.out _ h41.2; clear h41 h42 h43) | (refine step_one (w := w) (W := w4.alloc (.cells #[.int .i64 a] 3)) (by rfl) (.tmp 38) (.tmp 40) (by rfl) (by rfl) g4 N cap4 w4.heap.size (by rfl) (by rfl) k.l (H4.out.1.alloc _) a (HOA.out w4) (by omega) ?_; intro g5 cap5 w5 h5; have H5 := Lib.hid h5; have z2 := HC2.out _ h5.2; have z8 := HC7.out _ h5.2; have f8 := HF.out _ h5.2; clear h5) | (refine step_one (w := w) (W := w4) (by rfl) (.tmp 38) (.tmp 40) (by rfl) (by rfl) g4 N cap4 Wa.heap.size (by rfl) (by rfl) k.l H4.out.1 a (HOB.out _ H4.out.2.1) (by omega) ?_; intro g5 cap5 w5 h5; have H5 := Lib.hid h5; have z2 := HC2.out _ h5.2; have z8 := HC7.out _ h5.2; have f8 := HF.out _ h5.2; clear h5) | (refine step_one (w := w) (W := w4) (by rfl) (.tmp 38) (.tmp 40) (by rfl) (by rfl) g4 N cap4 w.heap.size (by rfl) (by rfl) k.l H4.out.1 a (HOD.out _ H4.out.2.1) (by omega) ?_; intro g5 cap5 w5 h5; have H5 := Lib.hid h5; have z2 := HC2.out _ h5.2; have z8 := HC7.out _ h5.2; have f8 := HF.out _ h5.2; clear h5)
        refine hK.out _ _ ?_ ?_
        · ((try dsimp only); first | exact HC2.out _ HW.out.1 | exact HC2.out _ HW.out.2.1 | exact HC2.out _ HW.out.2.2.1 | exact HC2.out _ HW.out.2.2.2.1 | exact HC2.out _ HW.out.2.2.2.2 | exact HC2.out _ H4.out.1.2 | exact HC2.out _ (H4.out.1.alloc _).2 | exact HC2.out _ H5.out.2 | exact HK2.out _ _ (HC2.out _ H5.out.2))
        clear hK K hHeld
        intro hHeld
        (try simp only [Act.put, List.setIfInBounds_toArray, List.set_cons_zero, List.set_cons_succ])
        refine wpAnyH_ready (rs := [15]) (by kernel_rfl) (by simp) ?_
        refine AllReadyH.cons rfl (fun K hK => ?_) ?_
        · go_simp
          refine hK.out _ _ ?_ ?_
          · ((try dsimp only); first | exact HC2.out _ HW.out.1 | exact HC2.out _ HW.out.2.1 | exact HC2.out _ HW.out.2.2.1 | exact HC2.out _ HW.out.2.2.2.1 | exact HC2.out _ HW.out.2.2.2.2 | exact HC2.out _ H4.out.1.2 | exact HC2.out _ (H4.out.1.alloc _).2 | exact HC2.out _ H5.out.2 | exact HK2.out _ _ (HC2.out _ H5.out.2))
          clear hK K hHeld
          intro hHeld
          (try simp only [Act.put, List.setIfInBounds_toArray, List.set_cons_zero, List.set_cons_succ])
          refine wpAnyH_ready (rs := [16]) (by kernel_rfl) (by simp) ?_
          refine AllReadyH.cons rfl (fun K hK => ?_) ?_
          · first | (refine step_copy (w := w) (W := Wa) (by rfl) (.tmp 30) (.tmp 37) (by rfl) (by rfl) A N cp w.heap.size (by rfl) (by rfl) HE.out.1 (Nat.le_refl _) HW.out.2.1 k.l HKN.out (HIA.out _ HW.out.2.1) (by omega) ?_; intro g4 cap4 w4 h41 h42 h43; have H4 := Lib.hid (And.intro h41 (And.intro h42 h43)); have z7 := HC7.out _ h41.2; clear h41 h42 h43) | (refine step_copy (w := w) (W := Wb) (by rfl) (.tmp 30) (.tmp 37) (by rfl) (by rfl) A N cp w.heap.size (by rfl) (by rfl) HE.out.2.1 (Nat.le_refl _) HW.out.2.2.1 k.l HKN.out (HIA.out _ HW.out.2.2.1) (by omega) ?_; intro g4 cap4 w4 h41 h42 h43; have H4 := Lib.hid (And.intro h41 (And.intro h42 h43)); have z7 := HC7.out _ h41.2; clear h41 h42 h43) | (refine step_copy (w := w) (W := Wd) (by rfl) (.tmp 30) (.tmp 37) (by rfl) (by rfl) A N cp Wc.heap.size (by rfl) (by rfl) HE.out.2.2 HW.out.2.2.2.1.size HW.out.2.2.2.2 k.l HKN.out (HIA.out _ HW.out.2.2.2.2) (by omega) ?_; intro g4 cap4 w4 h41 h42 h43; have H4 := Lib.hid (And.intro h41 (And.intro h42 h43)); have z7 := HC7.out _ h41.2; clear h41 h42 h43) | (refine step_one (w := w) (W := w4.alloc (.cells #[.int .i64 a] 3)) (by rfl) (.tmp 38) (.tmp 40) (by rfl) (by rfl) g4 N cap4 w4.heap.size (by rfl) (by rfl) k.l (H4.out.1.alloc _) a (HOA.out w4) (by omega) ?_; intro g5 cap5 w5 h5; have H5 := Lib.hid h5; have z2 := HC2.out _ h5.2; have z8 := HC7.out _ h5.2; have f8 := HF.out _ h5.2; clear h5) | (refine step_one (w := w) (W := w4) (by rfl) (.tmp 38) (.tmp 40) (by rfl) (by rfl) g4 N cap4 Wa.heap.size (by rfl) (by rfl) k.l H4.out.1 a (HOB.out _ H4.out.2.1) (by omega) ?_; intro g5 cap5 w5 h5; have H5 := Lib.hid h5; have z2 := HC2.out _ h5.2; have z8 := HC7.out _ h5.2; have f8 := HF.out _ h5.2; clear h5) | (refine step_one (w := w) (W := w4) (by rfl) (.tmp 38) (.tmp 40) (by rfl) (by rfl) g4 N cap4 w.heap.size (by rfl) (by rfl) k.l H4.out.1 a (HOD.out _ H4.out.2.1) (by omega) ?_; intro g5 cap5 w5 h5; have H5 := Lib.hid h5; have z2 := HC2.out _ h5.2; have z8 := HC7.out _ h5.2; have f8 := HF.out _ h5.2; clear h5)
            refine hK.out _ _ ?_ ?_
            · ((try dsimp only); first | exact HC2.out _ HW.out.1 | exact HC2.out _ HW.out.2.1 | exact HC2.out _ HW.out.2.2.1 | exact HC2.out _ HW.out.2.2.2.1 | exact HC2.out _ HW.out.2.2.2.2 | exact HC2.out _ H4.out.1.2 | exact HC2.out _ (H4.out.1.alloc _).2 | exact HC2.out _ H5.out.2 | exact HK2.out _ _ (HC2.out _ H5.out.2))
            clear hK K hHeld
            intro hHeld
            (try simp only [Act.put, List.setIfInBounds_toArray, List.set_cons_zero, List.set_cons_succ])
            refine wpAnyH_take (i := 17) (v := ?_) rfl (by kernel_rfl) (by kernel_rfl) (by kernel_rfl) (fun _ _ _ h => h) (Or.inl ⟨by rfl, ?_⟩) (by assumption) ?_
            rotate_left
            · (intro W hSW; (try dsimp only at hSW); go_simp; try with_reducible rfl)
            (try simp only [Act.put, List.setIfInBounds_toArray, List.set_cons_zero, List.set_cons_succ])
            refine wpAnyH_ready (rs := [18]) (by kernel_rfl) (by simp) ?_
            refine AllReadyH.cons rfl (fun K hK => ?_) ?_
            · go_simp
              refine hK.out _ _ ?_ ?_
              · ((try dsimp only); first | exact HC2.out _ HW.out.1 | exact HC2.out _ HW.out.2.1 | exact HC2.out _ HW.out.2.2.1 | exact HC2.out _ HW.out.2.2.2.1 | exact HC2.out _ HW.out.2.2.2.2 | exact HC2.out _ H4.out.1.2 | exact HC2.out _ (H4.out.1.alloc _).2 | exact HC2.out _ H5.out.2 | exact HK2.out _ _ (HC2.out _ H5.out.2))
              clear hK K hHeld
              intro hHeld
              (try simp only [Act.put, List.setIfInBounds_toArray, List.set_cons_zero, List.set_cons_succ])
              refine wpAnyH_done (by kernel_rfl) ?_ _
              refine NoPanic.normal ?_
              clear hHeld
              go_wp2
              obtain ⟨wa, hwa⟩ : ∃ wa, wa = w5.setCell ⟨l, x, none⟩ (.slice (some ⟨g5, 0, none⟩) (N + 1) cap5) := ⟨_, rfl⟩
              have e2 : wa.cell? ⟨B, 2, none⟩ = some (.slice (some ⟨l, 0, none⟩) L cl) := by rw [hwa]; exact HK2.out _ _ z2
              have e7 : wa.cell? ⟨l, x, none⟩ = some (.slice (some ⟨g5, 0, none⟩) (N + 1) cap5) := by rw [hwa]; exact World.cell?_setCell_same _ _ _ z8
              have e3 : wa.cell? ⟨B, 3, none⟩ = some (.slice (some ⟨i, 0, none⟩) L ci) := by rw [hwa]; exact (HFAR.out _ H5.out.2).1
              have e5 : wa.cell? ⟨i, x, none⟩ = some (.int .i64 k.lim) := by rw [hwa]; exact (HFAR.out _ H5.out.2).2.1
              have HWA := Lib.hid hwa
              rw [← hwa]
              clear hwa z2 z8 f8 z7 y1 y2 y3 y4 c3 c5 c7
              go_quiet (fail)
              go_wp2
              go_ret2
              rw [HWA.out]
              exact HP.out _ _ _ _ H5.out
            exact AllReadyH.nil
          exact AllReadyH.nil
        exact AllReadyH.nil
      refine AllReadyH.cons rfl (fun K hK => ?_) ?_
      · go_simp
        refine hK.out _ _ ?_ ?_
        · ((try dsimp only); first | exact HC2.out _ HW.out.1 | exact HC2.out _ HW.out.2.1 | exact HC2.out _ HW.out.2.2.1 | exact HC2.out _ HW.out.2.2.2.1 | exact HC2.out _ HW.out.2.2.2.2 | exact HC2.out _ H4.out.1.2 | exact HC2.out _ (H4.out.1.alloc _).2 | exact HC2.out _ H5.out.2 | exact HK2.out _ _ (HC2.out _ H5.out.2))
        clear hK K hHeld
        intro hHeld
        (try simp only [Act.put, List.setIfInBounds_toArray, List.set_cons_zero, List.set_cons_succ])
        refine wpAnyH_ready (rs := [13]) (by kernel_rfl) (by simp) ?_
        refine AllReadyH.cons rfl (fun K hK => ?_) ?_
        · first | (refine step_copy (w := w) (W := Wa) (by rfl) (.tmp 30) (.tmp 37) (by rfl) (by rfl) A N cp w.heap.size (by rfl) (by rfl) HE.out.1 (Nat.le_refl _) HW.out.2.1 k.l HKN.out (HIA.out _ HW.out.2.1) (by omega) ?_; intro g4 cap4 w4 h41 h42 h43; have H4 := Lib.hid (And.intro h41 (And.intro h42 h43)); have z7 := HC7.out _ h41.2; clear h41 h42 h43) | (refine step_copy (w := w) (W := Wb) (by rfl) (.tmp 30) (.tmp 37) (by rfl) (by rfl) A N cp w.heap.size (by rfl) (by rfl) HE.out.2.1 (Nat.le_refl _) HW.out.2.2.1 k.l HKN.out (HIA.out _ HW.out.2.2.1) (by omega) ?_; intro g4 cap4 w4 h41 h42 h43; have H4 := Lib.hid (And.intro h41 (And.intro h42 h43)); have z7 := HC7.out _ h41.2; clear h41 h42 h43) | (refine step_copy (w := w) (W := Wd) (by rfl) (.tmp 30) (.tmp 37) (by rfl) (by rfl) A N cp Wc.heap.size (by rfl) (by rfl) HE.out.2.2 HW.out.2.2.2.1.size HW.out.2.2.2.2 k.l HKN.out (HIA.out _ HW.out.2.2.2.2) (by omega) ?_; intro g4 cap4 w4 h41 h42 h43; have H4 := Lib.hid (And.intro h41 (And.intro h42 h43)); have z7 := HC7.out _ h41.2; clear h41 h42 h43) | (refine step_one (w := w) (W := w4.alloc (.cells #[.int .i64 a] 3)) (by rfl) (.tmp 38) (.tmp 40) (by rfl) (by rfl) g4 N cap4 w4.heap.size (by rfl) (by rfl) k.l (H4.out.1.alloc _) a (HOA.out w4) (by omega) ?_; intro g5 cap5 w5 h5; have H5 := Lib.hid h5; have z2 := HC2.out _ h5.2; have z8 := HC7.out _ h5.2; have f8 := HF.out _ h5.2; clear h5) | (refine step_one (w := w) (W := w4) (by rfl) (.tmp 38) (.tmp 40) (by rfl) (by rfl) g4 N cap4 Wa.heap.size (by rfl) (by rfl) k.l H4.out.1 a (HOB.out _ H4.out.2.1) (by omega) ?_; intro g5 cap5 w5 h5; have H5 := Lib.hid h5; have z2 := HC2.out _ h5.2; have z8 := HC7.out _ h5.2; have f8 := HF.out _ h5.2; clear h5) | (refine step_one (w := w) (W := w4) (by rfl) (.tmp 38) (.tmp 40) (by rfl) (by rfl) g4 N cap4 w.heap.size (by rfl) (by rfl) k.l H4.out.1 a (HOD.out _ H4.out.2.1) (by omega) ?_; intro g5 cap5 w5 h5; have H5 := Lib.hid h5; have z2 := HC2.out _ h5.2; have z8 := HC7.out _ h5.2; have f8 := HF.out _ h5.2; clear h5)
          refine hK.out _ _ ?_ ?_
          · ((try dsimp only); first | exact HC2.out _ HW.out.1 | exact HC2.out _ HW.out.2.1 | exact HC2.out _ HW.out.2.2.1 | exact HC2.out _ HW.out.2.2.2.1 | exact HC2.out _ HW.out.2.2.2.2 | exact HC2.out _ H4.out.1.2 | exact HC2.out _ (H4.out.1.alloc _).2 | exact HC2.out _ H5.out.2 | exact HK2.out _ _ (HC2.out _ H5.out.2))
          clear hK K hHeld
          intro hHeld
          (try simp only [Act.put, List.setIfInBounds_toArray, List.set_cons_zero, List.set_cons_succ])
          refine wpAnyH_ready (rs := [16]) (by kernel_rfl) (by simp) ?_
          refine AllReadyH.cons rfl (fun K hK => ?_) ?_
          · first | (refine step_copy (w := w) (W := Wa) (by rfl) (.tmp 30) (.tmp 37) (by rfl) (by rfl) A N cp w.heap.size (by rfl) (by rfl) HE.out.1 (Nat.le_refl _) HW.out.2.1 k.l HKN.out (HIA.out _ HW.out.2.1) (by omega) ?_; intro g4 cap4 w4 h41 h42 h43; have H4 := Lib.hid (And.intro h41 (And.intro h42 h43)); have z7 := HC7.out _ h41.2; clear h41 h42 h43) | (refine step_copy (w := w) (W := Wb) (by rfl) (.tmp 30) (.tmp 37) (by rfl) (by rfl) A N cp w.heap.size (by rfl) (by rfl) HE.out.2.1 (Nat.le_refl _) HW.out.2.2.1 k.l HKN.out (HIA.out _ HW.out.2.2.1) (by omega) ?_; intro g4 cap4 w4 h41 h42 h43; have H4 := Lib.hid (And.intro h41 (And.intro h42 h43)); have z7 := HC7.out _ h41.2; clear h41 h42 h43) | (refine step_copy (w := w) (W := Wd) (by rfl) (.tmp 30) (.tmp 37) (by rfl) (by rfl) A N cp Wc.heap.size (by rfl) (by rfl) HE.out.2.2 HW.out.2.2.2.1.size HW.out.2.2.2.2 k.l HKN.out (HIA.out _ HW.out.2.2.2.2) (by omega) ?_; intro g4 cap4 w4 h41 h42 h43; have H4 := Lib.hid (And.intro h41 (And.intro h42 h43)); have z7 := HC7.out _ h41.2; clear h41 h42 h43) | (refine step_one (w := w) (W := w4.alloc (.cells #[.int .i64 a] 3)) (by rfl) (.tmp 38) (.tmp 40) (by rfl) (by rfl) g4 N cap4 w4.heap.size (by rfl) (by rfl) k.l (H4.out.1.alloc _) a (HOA.out w4) (by omega) ?_; intro g5 cap5 w5 h5; have H5 := Lib.hid h5; have z2 := HC2.out _ h5.2; have z8 := HC7.out _ h5.2; have f8 := HF.out _ h5.2; clear h5) | (refine step_one (w := w) (W := w4) (by rfl) (.tmp 38) (.tmp 40) (by rfl) (by rfl) g4 N cap4 Wa.heap.size (by rfl) (by rfl) k.l H4.out.1 a (HOB.out _ H4.out.2.1) (by omega) ?_; intro g5 cap5 w5 h5; have H5 := Lib.hid h5; have z2 := HC2.out _ h5.2; have z8 := HC7.out _ h5.2; have f8 := HF.out _ h5.2; clear h5) | (refine step_one (w := w) (W := w4) (by rfl) (.tmp 38) (.tmp 40) (by rfl) (by rfl) g4 N cap4 w.heap.size (by rfl) (by rfl) k.l H4.out.1 a (HOD.out _ H4.out.2.1) (by omega) ?_; intro g5 cap5 w5 h5; have H5 := Lib.hid h5; have z2 := HC2.out _ h5.2; have z8 := HC7.out _ h5.2; have f8 := HF.out _ h5.2; clear h5)
            refine hK.out _ _ ?_ ?_
            · ((try dsimp only); first | exact HC2.out _ HW.out.1 | exact HC2.out _ HW.out.2.1 | exact HC2.out _ HW.out.2.2.1 | exact HC2.out _ HW.out.2.2.2.1 | exact HC2.out _ HW.out.2.2.2.2 | exact HC2.out _ H4.out.1.2 | exact HC2.out _ (H4.out.1.alloc _).2 | exact HC2.out _ H5.out.2 | exact HK2.out _ _ (HC2.out _ H5.out.2))
            clear hK K hHeld
            intro hHeld
            (try simp only [Act.put, List.setIfInBounds_toArray, List.set_cons_zero, List.set_cons_succ])
            refine wpAnyH_take (i := 17) (v := ?_) rfl (by kernel_rfl) (by kernel_rfl) (by kernel_rfl) (fun _ _ _ h => h) (Or.inl ⟨by rfl, ?_⟩) (by assumption) ?_
            rotate_left
            · (intro W hSW; (try dsimp only at hSW); go_simp; try with_reducible rfl)
            (try simp only [Act.put, List.setIfInBounds_toArray, List.set_cons_zero, List.set_cons_succ])
            refine wpAnyH_ready (rs := [18]) (by kernel_rfl) (by simp) ?_
            refine AllReadyH.cons rfl (fun K hK => ?_) ?_
            · go_simp
              refine hK.out _ _ ?_ ?_
              · ((try dsimp only); first | exact HC2.out _ HW.out.1 | exact HC2.out _ HW.out.2.1 | exact HC2.out _ HW.out.2.2.1 | exact HC2.out _ HW.out.2.2.2.1 | exact HC2.out _ HW.out.2.2.2.2 | exact HC2.out _ H4.out.1.2 | exact HC2.out _ (H4.out.1.alloc _).2 | exact HC2.out _ H5.out.2 | exact HK2.out _ _ (HC2.out _ H5.out.2))
              clear hK K hHeld
              intro hHeld
              (try simp only [Act.put, List.setIfInBounds_toArray, List.set_cons_zero, List.set_cons_succ])
              refine wpAnyH_done (by kernel_rfl) ?_ _
              refine NoPanic.normal ?_
              clear hHeld
              go_wp2
              obtain ⟨wa, hwa⟩ : ∃ wa, wa = w5.setCell ⟨l, x, none⟩ (.slice (some ⟨g5, 0, none⟩) (N + 1) cap5) := ⟨_, rfl⟩
              have e2 : wa.cell? ⟨B, 2, none⟩ = some (.slice (some ⟨l, 0, none⟩) L cl) := by rw [hwa]; exact HK2.out _ _ z2
              have e7 : wa.cell? ⟨l, x, none⟩ = some (.slice (some ⟨g5, 0, none⟩) (N + 1) cap5) := by rw [hwa]; exact World.cell?_setCell_same _ _ _ z8
              have e3 : wa.cell? ⟨B, 3, none⟩ = some (.slice (some ⟨i, 0, none⟩) L ci) := by rw [hwa]; exact (HFAR.out _ H5.out.2).1
              have e5 : wa.cell? ⟨i, x, none⟩ = some (.int .i64 k.lim) := by rw [hwa]; exact (HFAR.out _ H5.out.2).2.1
              have HWA := Lib.hid hwa
              rw [← hwa]
              clear hwa z2 z8 f8 z7 y1 y2 y3 y4 c3 c5 c7
              go_quiet (fail)
              go_wp2
              go_ret2
              rw [HWA.out]
              exact HP.out _ _ _ _ H5.out
            exact AllReadyH.nil
          exact AllReadyH.nil
        exact AllReadyH.nil
      exact AllReadyH.nil
    refine AllReadyH.cons rfl (fun K hK => ?_) ?_
    · go_simp
      refine hK.out _ _ ?_ ?_
      · ((try dsimp only); first | exact HC2.out _ HW.out.1 | exact HC2.out _ HW.out.2.1 | exact HC2.out _ HW.out.2.2.1 | exact HC2.out _ HW.out.2.2.2.1 | exact HC2.out _ HW.out.2.2.2.2 | exact HC2.out _ H4.out.1.2 | exact HC2.out _ (H4.out.1.alloc _).2 | exact HC2.out _ H5.out.2 | exact HK2.out _ _ (HC2.out _ H5.out.2))
      clear hK K hHeld
      intro hHeld
      (try simp only [Act.put, List.setIfInBounds_toArray, List.set_cons_zero, List.set_cons_succ])
      refine wpAnyH_ready (rs := [5]) (by kernel_rfl) (by simp) ?_
      refine AllReadyH.cons rfl (fun K hK => ?_) ?_
      · go_simp
        refine hK.out _ _ ?_ ?_
        · ((try dsimp only); first | exact HC2.out _ HW.out.1 | exact HC2.out _ HW.out.2.1 | exact HC2.out _ HW.out.2.2.1 | exact HC2.out _ HW.out.2.2.2.1 | exact HC2.out _ HW.out.2.2.2.2 | exact HC2.out _ H4.out.1.2 | exact HC2.out _ (H4.out.1.alloc _).2 | exact HC2.out _ H5.out.2 | exact HK2.out _ _ (HC2.out _ H5.out.2))
        clear hK K hHeld
        intro hHeld
        (try simp only [Act.put, List.setIfInBounds_toArray, List.set_cons_zero, List.set_cons_succ])
        refine wpAnyH_ready (rs := [13]) (by kernel_rfl) (by simp) ?_
        refine AllReadyH.cons rfl (fun K hK => ?_) ?_
        · first | (refine step_copy (w := w) (W := Wa) (by rfl) (.tmp 30) (.tmp 37) (by rfl) (by rfl) A N cp w.heap.size (by rfl) (by rfl) HE.out.1 (Nat.le_refl _) HW.out.2.1 k.l HKN.out (HIA.out _ HW.out.2.1) (by omega) ?_; intro g4 cap4 w4 h41 h42 h43; have H4 := Lib.hid (And.intro h41 (And.intro h42 h43)); have z7 := HC7.out _ h41.2; clear h41 h42 h43) | (refine step_copy (w := w) (W := Wb) (by rfl) (.tmp 30) (.tmp 37) (by rfl) (by rfl) A N cp w.heap.size (by rfl) (by rfl) HE.out.2.1 (Nat.le_refl _) HW.out.2.2.1 k.l HKN.out (HIA.out _ HW.out.2.2.1) (by omega) ?_; intro g4 cap4 w4 h41 h42 h43; have H4 := Lib.hid (And.intro h41 (And.intro h42 h43)); have z7 := HC7.out _ h41.2; clear h41 h42 h43) | (refine step_copy (w := w) (W := Wd) (by rfl) (.tmp 30) (.tmp 37) (by rfl) (by rfl) A N cp Wc.heap.size (by rfl) (by rfl) HE.out.2.2 HW.out.2.2.2.1.size HW.out.2.2.2.2 k.l HKN.out (HIA.out _ HW.out.2.2.2.2) (by omega) ?_; intro g4 cap4 w4 h41 h42 h43; have H4 := Lib.hid (And.intro h41 (And.intro h42 h43)); have z7 := HC7.out _ h41.2; clear h41 h42 h43) | (refine step_one (w := w) (W := w4.alloc (.cells #[.int .i64 a] 3)) (by rfl) (.tmp 38) (.tmp 40) (by rfl) (by rfl) g4 N cap4 w4.heap.size (by rfl) (by rfl) k.l (H4.out.1.alloc _) a (HOA.out w4) (by omega) ?_; intro g5 cap5 w5 h5; have H5 := Lib.hid h5; have z2 := HC2.out _ h5.2; have z8 := HC7.out _ h5.2; have f8 := HF.out _ h5.2; clear h5) | (refine step_one (w := w) (W := w4) (by rfl) (.tmp 38) (.tmp 40) (by rfl) (by rfl) g4 N cap4 Wa.heap.size (by rfl) (by rfl) k.l H4.out.1 a (HOB.out _ H4.out.2.1) (by omega) ?_; intro g5 cap5 w5 h5; have H5 := Lib.hid h5; have z2 := HC2.out _ h5.2; have z8 := HC7.out _ h5.2; have f8 := HF.out _ h5.2; clear h5) | (refine step_one (w := w) (W := w4) (by rfl) (.tmp 38) (.tmp 40) (by rfl) (by rfl) g4 N cap4 w.heap.size (by rfl) (by rfl) k.l H4.out.1 a (HOD.out _ H4.out.2.1) (by omega) ?_; intro g5 cap5 w5 h5; have H5 := Lib.hid h5; have z2 := HC2.out _ h5.2; have z8 := HC7.out _ h5.2; have f8 := HF.out _ h5.2; clear h5)
          refine hK.out _ _ ?_ ?_
          · ((try dsimp only); first | exact HC2.out _ HW.out.1 | exact HC2.out _ HW.out.2.1 | exact HC2.out _ HW.out.2.2.1 | exact HC2.out _ HW.out.2.2.2.1 | exact HC2.out _ HW.out.2.2.2.2 | exact HC2.out _ H4.out.1.2 | exact HC2.out _ (H4.out.1.alloc _).2 | exact HC2.out _ H5.out.2 | exact HK2.out _ _ (HC2.out _ H5.out.2))
          clear hK K hHeld
          intro hHeld
          (try simp only [Act.put, List.setIfInBounds_toArray, List.set_cons_zero, List.set_cons_succ])
          refine wpAnyH_ready (rs := [16]) (by kernel_rfl) (by simp) ?_
          refine AllReadyH.cons rfl (fun K hK => ?_) ?_
          · first | (refine step_copy (w := w) (W := Wa) (by rfl) (.tmp 30) (.tmp 37) (by rfl) (by rfl) A N cp w.heap.size (by rfl) (by rfl) HE.out.1 (Nat.le_refl _) HW.out.2.1 k.l HKN.out (HIA.out _ HW.out.2.1) (by omega) ?_; intro g4 cap4 w4 h41 h42 h43; have H4 := Lib.hid (And.intro h41 (And.intro h42 h43)); have z7 := HC7.out _ h41.2; clear h41 h42 h43) | (refine step_copy (w := w) (W := Wb) (by rfl) (.tmp 30) (.tmp 37) (by rfl) (by rfl) A N cp w.heap.size (by rfl) (by rfl) HE.out.2.1 (Nat.le_refl _) HW.out.2.2.1 k.l HKN.out (HIA.out _ HW.out.2.2.1) (by omega) ?_; intro g4 cap4 w4 h41 h42 h43; have H4 := Lib.hid (And.intro h41 (And.intro h42 h43)); have z7 := HC7.out _ h41.2; clear h41 h42 h43) | (refine step_copy (w := w) (W := Wd) (by rfl) (.tmp 30) (.tmp 37) (by rfl) (by rfl) A N cp Wc.heap.size (by rfl) (by rfl) HE.out.2.2 HW.out.2.2.2.1.size HW.out.2.2.2.2 k.l HKN.out (HIA.out _ HW.out.2.2.2.2) (by omega) ?_; intro g4 cap4 w4 h41 h42 h43; have H4 := Lib.hid (And.intro h41 (And.intro h42 h43)); have z7 := HC7.out _ h41.2; clear h41 h42 h43) | (refine step_one (w := w) (W := w4.alloc (.cells #[.int .i64 a] 3)) (by rfl) (.tmp 38) (.tmp 40) (by rfl) (by rfl) g4 N cap4 w4.heap.size (by rfl) (by rfl) k.l (H4.out.1.alloc _) a (HOA.out w4) (by omega) ?_; intro g5 cap5 w5 h5; have H5 := Lib.hid h5; have z2 := HC2.out _ h5.2; have z8 := HC7.out _ h5.2; have f8 := HF.out _ h5.2; clear h5) | (refine step_one (w := w) (W := w4) (by rfl) (.tmp 38) (.tmp 40) (by rfl) (by rfl) g4 N cap4 Wa.heap.size (by rfl) (by rfl) k.l H4.out.1 a (HOB.out _ H4.out.2.1) (by omega) ?_; intro g5 cap5 w5 h5; have H5 := Lib.hid h5; have z2 := HC2.out _ h5.2; have z8 := HC7.out _ h5.2; have f8 := HF.out _ h5.2; clear h5) | (refine step_one (w := w) (W := w4) (by rfl) (.tmp 38) (.tmp 40) (by rfl) (by rfl) g4 N cap4 w.heap.size (by rfl) (by rfl) k.l H4.out.1 a (HOD.out _ H4.out.2.1) (by omega) ?_; intro g5 cap5 w5 h5; have H5 := Lib.hid h5; have z2 := HC2.out _ h5.2; have z8 := HC7.out _ h5.2; have f8 := HF.out _ h5.2; clear h5)
            refine hK.out _ _ ?_ ?_
            · ((try dsimp only); first | exact HC2.out _ HW.out.1 | exact HC2.out _ HW.out.2.1 | exact HC2.out _ HW.out.2.2.1 | exact HC2.out _ HW.out.2.2.2.1 | exact HC2.out _ HW.out.2.2.2.2 | exact HC2.out _ H4.out.1.2 | exact HC2.out _ (H4.out.1.alloc _).2 | exact HC2.out _ H5.out.2 | exact HK2.out _ _ (HC2.out _ H5.out.2))
            clear hK K hHeld
            intro hHeld
            (try simp only [Act.put, List.setIfInBounds_toArray, List.set_cons_zero, List.set_cons_succ])
            refine wpAnyH_take (i := 17) (v := ?_) rfl (by kernel_rfl) (by kernel_rfl) (by kernel_rfl) (fun _ _ _ h => h) (Or.inl ⟨by rfl, ?_⟩) (by assumption) ?_
            rotate_left
            · (intro W hSW; (try dsimp only at hSW); go_simp; try with_reducible rfl)
            (try simp only [Act.put, List.setIfInBounds_toArray, List.set_cons_zero, List.set_cons_succ])
            refine wpAnyH_ready (rs := [18]) (by kernel_rfl) (by simp) ?_
            refine AllReadyH.cons rfl (fun K hK => ?_) ?_
            · go_simp
              refine hK.out _ _ ?_ ?_
              · ((try dsimp only); first | exact HC2.out _ HW.out.1 | exact HC2.out _ HW.out.2.1 | exact HC2.out _ HW.out.2.2.1 | exact HC2.out _ HW.out.2.2.2.1 | exact HC2.out _ HW.out.2.2.2.2 | exact HC2.out _ H4.out.1.2 | exact HC2.out _ (H4.out.1.alloc _).2 | exact HC2.out _ H5.out.2 | exact HK2.out _ _ (HC2.out _ H5.out.2))
              clear hK K hHeld
              intro hHeld
              (try simp only [Act.put, List.setIfInBounds_toArray, List.set_cons_zero, List.set_cons_succ])
              refine wpAnyH_done (by kernel_rfl) ?_ _
              refine NoPanic.normal ?_
              clear hHeld
              go_wp2
              obtain ⟨wa, hwa⟩ : ∃ wa, wa = w5.setCell ⟨l, x, none⟩ (.slice (some ⟨g5, 0, none⟩) (N + 1) cap5) := ⟨_, rfl⟩
              have e2 : wa.cell? ⟨B, 2, none⟩ = some (.slice (some ⟨l, 0, none⟩) L cl) := by rw [hwa]; exact HK2.out _ _ z2
              have e7 : wa.cell? ⟨l, x, none⟩ = some (.slice (some ⟨g5, 0, none⟩) (N + 1) cap5) := by rw [hwa]; exact World.cell?_setCell_same _ _ _ z8
              have e3 : wa.cell? ⟨B, 3, none⟩ = some (.slice (some ⟨i, 0, none⟩) L ci) := by rw [hwa]; exact (HFAR.out _ H5.out.2).1
              have e5 : wa.cell? ⟨i, x, none⟩ = some (.int .i64 k.lim) := by rw [hwa]; exact (HFAR.out _ H5.out.2).2.1
              have HWA := Lib.hid hwa
              rw [← hwa]
              clear hwa z2 z8 f8 z7 y1 y2 y3 y4 c3 c5 c7
              go_quiet (fail)
              go_wp2
              go_ret2
              rw [HWA.out]
              exact HP.out _ _ _ _ H5.out
            exact AllReadyH.nil
          exact AllReadyH.nil
        exact AllReadyH.nil
      exact AllReadyH.nil
    exact AllReadyH.nil
  refine AllReadyH.cons rfl (fun K hK => ?_) ?_
  · go_simp
    refine hK.out _ _ ?_ ?_
    · ((try dsimp only); first | exact HC2.out _ HW.out.1 | exact HC2.out _ HW.out.2.1 | exact HC2.out _ HW.out.2.2.1 | exact HC2.out _ HW.out.2.2.2.1 | exact HC2.out _ HW.out.2.2.2.2 | exact HC2.out _ H4.out.1.2 | exact HC2.out _ (H4.out.1.alloc _).2 | exact HC2.out _ H5.out.2 | exact HK2.out _ _ (HC2.out _ H5.out.2))
    clear hK K hHeld
    intro hHeld
    (try simp only [Act.put, List.setIfInBounds_toArray, List.set_cons_zero, List.set_cons_succ])
    refine wpAnyH_ready (rs := [5, 12]) (by kernel_rfl) (by simp) ?_
    refine AllReadyH.cons rfl (fun K hK => ?_) ?_
    · go_simp
      refine hK.out _ _ ?_ ?_
      · ((try dsimp only); first | exact HC2.out _ HW.out.1 | exact HC2.out _ HW.out.2.1 | exact HC2.out _ HW.out.2.2.1 | exact HC2.out _ HW.out.2.2.2.1 | exact HC2.out _ HW.out.2.2.2.2 | exact HC2.out _ H4.out.1.2 | exact HC2.out _ (H4.out.1.alloc _).2 | exact HC2.out _ H5.out.2 | exact HK2.out _ _ (HC2.out _ H5.out.2))
      clear hK K hHeld
      intro hHeld
      (try simp only [Act.put, List.setIfInBounds_toArray, List.set_cons_zero, List.set_cons_succ])
      refine wpAnyH_ready (rs := [12]) (by kernel_rfl) (by simp) ?_
      refine AllReadyH.cons rfl (fun K hK => ?_) ?_
      · go_simp
        refine hK.out _ _ ?_ ?_
        · ((try dsimp only); first | exact HC2.out _ HW.out.1 | exact HC2.out _ HW.out.2.1 | exact HC2.out _ HW.out.2.2.1 | exact HC2.out _ HW.out.2.2.2.1 | exact HC2.out _ HW.out.2.2.2.2 | exact HC2.out _ H4.out.1.2 | exact HC2.out _ (H4.out.1.alloc _).2 | exact HC2.out _ H5.out.2 | exact HK2.out _ _ (HC2.out _ H5.out.2))
        clear hK K hHeld
        intro hHeld
        (try simp only [Act.put, List.setIfInBounds_toArray, List.set_cons_zero, List.set_cons_succ])
        refine wpAnyH_ready (rs := [13]) (by kernel_rfl) (by simp) ?_
        refine AllReadyH.cons rfl (fun K hK => ?_) ?_
        · first | (refine step_copy (w := w) (W := Wa) (by rfl) (.tmp 30) (.tmp 37) (by rfl) (by rfl) A N cp w.heap.size (by rfl) (by rfl) HE.out.1 (Nat.le_refl _) HW.out.2.1 k.l HKN.out (HIA.out _ HW.out.2.1) (by omega) ?_; intro g4 cap4 w4 h41 h42 h43; have H4 := Lib.hid (And.intro h41 (And.intro h42 h43)); have z7 := HC7.out _ h41.2; clear h41 h42 h43) | (refine step_copy (w := w) (W := Wb) (by rfl) (.tmp 30) (.tmp 37) (by rfl) (by rfl) A N cp w.heap.size (by rfl) (by rfl) HE.out.2.1 (Nat.le_refl _) HW.out.2.2.1 k.l HKN.out (HIA.out _ HW.out.2.2.1) (by omega) ?_; intro g4 cap4 w4 h41 h42 h43; have H4 := Lib.hid (And.intro h41 (And.intro h42 h43)); have z7 := HC7.out _ h41.2; clear h41 h42 h43) | (refine step_copy (w := w) (W := Wd) (by rfl) (.tmp 30) (.tmp 37) (by rfl) (by rfl) A N cp Wc.heap.size (by rfl) (by rfl) HE.out.2.2 HW.out.2.2.2.1.size HW.out.2.2.2.2 k.l HKN.out (HIA.out _ HW.out.2.2.2.2) (by omega) ?_; intro g4 cap4 w4 h41 h42 h43; have H4 := Lib.hid (And.intro h41 (And.intro h42 h43)); have z7 := HC7.out _ h41.2; clear h41 h42 h43) | (refine step_one (w := w) (W := w4.alloc (.cells #[.int .i64 a] 3)) (by rfl) (.tmp 38) (.tmp 40) (by rfl) (by rfl) g4 N cap4 w4.heap.size (by rfl) (by rfl) k.l (H4.out.1.alloc _) a (HOA.out w4) (by omega) ?_; intro g5 cap5 w5 h5; have H5 := Lib.hid h5; have z2 := HC2.out _ h5.2; have z8 := HC7.out _ h5.2; have f8 := HF.out _ h5.2; clear h5) | (refine step_one (w := w) (W := w4) (by rfl) (.tmp 38) (.tmp 40) (by rfl) (by rfl) g4 N cap4 Wa.heap.size (by rfl) (by rfl) k.l H4.out.1 a (HOB.out _ H4.out.2.1) (by omega) ?_; intro g5 cap5 w5 h5; have H5 := Lib.hid h5; have z2 := HC2.out _ h5.2; have z8 := HC7.out _ h5.2; have f8 := HF.out _ h5.2; clear h5) | (refine step_one (w := w) (W := w4) (by rfl) (.tmp 38) (.tmp 40) (by rfl) (by rfl) g4 N cap4 w.heap.size (by rfl) (by rfl) k.l H4.out.1 a (HOD.out _ H4.out.2.1) (by omega) ?_; intro g5 cap5 w5 h5; have H5 := Lib.hid h5; have z2 := HC2.out _ h5.2; have z8 := HC7.out _ h5.2; have f8 := HF.out _ h5.2; clear h5)
          refine hK.out _ _ ?_ ?_
          · ((try dsimp only); first | exact HC2.out _ HW.out.1 | exact HC2.out _ HW.out.2.1 | exact HC2.out _ HW.out.2.2.1 | exact HC2.out _ HW.out.2.2.2.1 | exact HC2.out _ HW.out.2.2.2.2 | exact HC2.out _ H4.out.1.2 | exact HC2.out _ (H4.out.1.alloc _).2 | exact HC2.out _ H5.out.2 | exact HK2.out _ _ (HC2.out _ H5.out.2))
          clear hK K hHeld
          intro hHeld
          (try simp only [Act.put, List.setIfInBounds_toArray, List.set_cons_zero, List.set_cons_succ])
          refine wpAnyH_ready (rs := [16]) (by kernel_rfl) (by simp) ?_
          refine AllReadyH.cons rfl (fun K hK => ?_) ?_
          · first | (refine step_copy (w := w) (W := Wa) (by rfl) (.tmp 30) (.tmp 37) (by rfl) (by rfl) A N cp w.heap.size (by rfl) (by rfl) HE.out.1 (Nat.le_refl _) HW.out.2.1 k.l HKN.out (HIA.out _ HW.out.2.1) (by omega) ?_; intro g4 cap4 w4 h41 h42 h43; have H4 := Lib.hid (And.intro h41 (And.intro h42 h43)); have z7 := HC7.out _ h41.2; clear h41 h42 h43) | (refine step_copy (w := w) (W := Wb) (by rfl) (.tmp 30) (.tmp 37) (by rfl) (by rfl) A N cp w.heap.size (by rfl) (by rfl) HE.out.2.1 (Nat.le_refl _) HW.out.2.2.1 k.l HKN.out (HIA.out _ HW.out.2.2.1) (by omega) ?_; intro g4 cap4 w4 h41 h42 h43; have H4 := Lib.hid (And.intro h41 (And.intro h42 h43)); have z7 := HC7.out _ h41.2; clear h41 h42 h43) | (refine step_copy (w := w) (W := Wd) (by rfl) (.tmp 30) (.tmp 37) (by rfl) (by rfl) A N cp Wc.heap.size (by rfl) (by rfl) HE.out.2.2 HW.out.2.2.2.1.size HW.out.2.2.2.2 k.l HKN.out (HIA.out _ HW.out.2.2.2.2) (by omega) ?_; intro g4 cap4 w4 h41 h42 h43; have H4 := Lib.hid (And.intro h41 (And.intro h42 h43)); have z7 := HC7.out _ h41.2; clear h41 h42 h43) | (refine step_one (w := w) (W := w4.alloc (.cells #[.int .i64 a] 3)) (by rfl) (.tmp 38) (.tmp 40) (by rfl) (by rfl) g4 N cap4 w4.heap.size (by rfl) (by rfl) k.l (H4.out.1.alloc _) a (HOA.out w4) (by omega) ?_; intro g5 cap5 w5 h5; have H5 := Lib.hid h5; have z2 := HC2.out _ h5.2; have z8 := HC7.out _ h5.2; have f8 := HF.out _ h5.2; clear h5) | (refine step_one (w := w) (W := w4) (by rfl) (.tmp 38) (.tmp 40) (by rfl) (by rfl) g4 N cap4 Wa.heap.size (by rfl) (by rfl) k.l H4.out.1 a (HOB.out _ H4.out.2.1) (by omega) ?_; intro g5 cap5 w5 h5; have H5 := Lib.hid h5; have z2 := HC2.out _ h5.2; have z8 := HC7.out _ h5.2; have f8 := HF.out _ h5.2; clear h5) | (refine step_one (w := w) (W := w4) (by rfl) (.tmp 38) (.tmp 40) (by rfl) (by rfl) g4 N cap4 w.heap.size (by rfl) (by rfl) k.l H4.out.1 a (HOD.out _ H4.out.2.1) (by omega) ?_; intro g5 cap5 w5 h5; have H5 := Lib.hid h5; have z2 := HC2.out _ h5.2; have z8 := HC7.out _ h5.2; have f8 := HF.out _ h5.2; clear h5)
            refine hK.out _ _ ?_ ?_
            · ((try dsimp only); first | exact HC2.out _ HW.out.1 | exact HC2.out _ HW.out.2.1 | exact HC2.out _ HW.out.2.2.1 | exact HC2.out _ HW.out.2.2.2.1 | exact HC2.out _ HW.out.2.2.2.2 | exact HC2.out _ H4.out.1.2 | exact HC2.out _ (H4.out.1.alloc _).2 | exact HC2.out _ H5.out.2 | exact HK2.out _ _ (HC2.out _ H5.out.2))
            clear hK K hHeld
            intro hHeld
            (try simp only [Act.put, List.setIfInBounds_toArray, List.set_cons_zero, List.set_cons_succ])
            refine wpAnyH_take (i := 17) (v := ?_) rfl (by kernel_rfl) (by kernel_rfl) (by kernel_rfl) (fun _ _ _ h => h) (Or.inl ⟨by rfl, ?_⟩) (by assumption) ?_
            rotate_left
            · (intro W hSW; (try dsimp only at hSW); go_simp; try with_reducible rfl)
            (try simp only [Act.put, List.setIfInBounds_toArray, List.set_cons_zero, List.set_cons_succ])
            refine wpAnyH_ready (rs := [18]) (by kernel_rfl) (by simp) ?_
            refine AllReadyH.cons rfl (fun K hK => ?_) ?_
            · go_simp
              refine hK.out _ _ ?_ ?_
              · ((try dsimp only); first | exact HC2.out _ HW.out.1 | exact HC2.out _ HW.out.2.1 | exact HC2.out _ HW.out.2.2.1 | exact HC2.out _ HW.out.2.2.2.1 | exact HC2.out _ HW.out.2.2.2.2 | exact HC2.out _ H4.out.1.2 | exact HC2.out _ (H4.out.1.alloc _).2 | exact HC2.out _ H5.out.2 | exact HK2.out _ _ (HC2.out _ H5.out.2))
              clear hK K hHeld
              intro hHeld
              (try simp only [Act.put, List.setIfInBounds_toArray, List.set_cons_zero, List.set_cons_succ])
              refine wpAnyH_done (by kernel_rfl) ?_ _
              refine NoPanic.normal ?_
              clear hHeld
              go_wp2
              obtain ⟨wa, hwa⟩ : ∃ wa, wa = w5.setCell ⟨l, x, none⟩ (.slice (some ⟨g5, 0, none⟩) (N + 1) cap5) := ⟨_, rfl⟩
              have e2 : wa.cell? ⟨B, 2, none⟩ = some (.slice (some ⟨l, 0, none⟩) L cl) := by rw [hwa]; exact HK2.out _ _ z2
              have e7 : wa.cell? ⟨l, x, none⟩ = some (.slice (some ⟨g5, 0, none⟩) (N + 1) cap5) := by rw [hwa]; exact World.cell?_setCell_same _ _ _ z8
              have e3 : wa.cell? ⟨B, 3, none⟩ = some (.slice (some ⟨i, 0, none⟩) L ci) := by rw [hwa]; exact (HFAR.out _ H5.out.2).1
              have e5 : wa.cell? ⟨i, x, none⟩ = some (.int .i64 k.lim) := by rw [hwa]; exact (HFAR.out _ H5.out.2).2.1
              have HWA := Lib.hid hwa
              rw [← hwa]
              clear hwa z2 z8 f8 z7 y1 y2 y3 y4 c3 c5 c7
              go_quiet (fail)
              go_wp2
              go_ret2
              rw [HWA.out]
              exact HP.out _ _ _ _ H5.out
            exact AllReadyH.nil
          exact AllReadyH.nil
        exact AllReadyH.nil
      exact AllReadyH.nil
    refine AllReadyH.cons rfl (fun K hK => ?_) ?_
    · go_simp
      refine hK.out _ _ ?_ ?_
      · ((try dsimp only); first | exact HC2.out _ HW.out.1 | exact HC2.out _ HW.out.2.1 | exact HC2.out _ HW.out.2.2.1 | exact HC2.out _ HW.out.2.2.2.1 | exact HC2.out _ HW.out.2.2.2.2 | exact HC2.out _ H4.out.1.2 | exact HC2.out _ (H4.out.1.alloc _).2 | exact HC2.out _ H5.out.2 | exact HK2.out _ _ (HC2.out _ H5.out.2))
      clear hK K hHeld
      intro hHeld
      (try simp only [Act.put, List.setIfInBounds_toArray, List.set_cons_zero, List.set_cons_succ])
      refine wpAnyH_ready (rs := [5]) (by kernel_rfl) (by simp) ?_
      refine AllReadyH.cons rfl (fun K hK => ?_) ?_
      · go_simp
        refine hK.out _ _ ?_ ?_
        · ((try dsimp only); first | exact HC2.out _ HW.out.1 | exact HC2.out _ HW.out.2.1 | exact HC2.out _ HW.out.2.2.1 | exact HC2.out _ HW.out.2.2.2.1 | exact HC2.out _ HW.out.2.2.2.2 | exact HC2.out _ H4.out.1.2 | exact HC2.out _ (H4.out.1.alloc _).2 | exact HC2.out _ H5.out.2 | exact HK2.out _ _ (HC2.out _ H5.out.2))
        clear hK K hHeld
        intro hHeld
        (try simp only [Act.put, List.setIfInBounds_toArray, List.set_cons_zero, List.set_cons_succ])
        refine wpAnyH_ready (rs := [13]) (by kernel_rfl) (by simp) ?_
        refine AllReadyH.cons rfl (fun K hK => ?_) ?_
        · first | (refine step_copy (w := w) (W := Wa) (by rfl) (.tmp 30) (.tmp 37) (by rfl) (by rfl) A N cp w.heap.size (by rfl) (by rfl) HE.out.1 (Nat.le_refl _) HW.out.2.1 k.l HKN.out (HIA.out _ HW.out.2.1) (by omega) ?_; intro g4 cap4 w4 h41 h42 h43; have H4 := Lib.hid (And.intro h41 (And.intro h42 h43)); have z7 := HC7.out _ h41.2; clear h41 h42 h43) | (refine step_copy (w := w) (W := Wb) (by rfl) (.tmp 30) (.tmp 37) (by rfl) (by rfl) A N cp w.heap.size (by rfl) (by rfl) HE.out.2.1 (Nat.le_refl _) HW.out.2.2.1 k.l HKN.out (HIA.out _ HW.out.2.2.1) (by omega) ?_; intro g4 cap4 w4 h41 h42 h43; have H4 := Lib.hid (And.intro h41 (And.intro h42 h43)); have z7 := HC7.out _ h41.2; clear h41 h42 h43) | (refine step_copy (w := w) (W := Wd) (by rfl) (.tmp 30) (.tmp 37) (by rfl) (by rfl) A N cp Wc.heap.size (by rfl) (by rfl) HE.out.2.2 HW.out.2.2.2.1.size HW.out.2.2.2.2 k.l HKN.out (HIA.out _ HW.out.2.2.2.2) (by omega) ?_; intro g4 cap4 w4 h41 h42 h43; have H4 := Lib.hid (And.intro h41 (And.intro h42 h43)); have z7 := HC7.out _ h41.2; clear h41 h42 h43) | (refine step_one (w := w) (W := w4.alloc (.cells #[.int .i64 a] 3)) (by rfl) (.tmp 38) (.tmp 40) (by rfl) (by rfl) g4 N cap4 w4.heap.size (by rfl) (by rfl) k.l (H4.out.1.alloc _) a (HOA.out w4) (by omega) ?_; intro g5 cap5 w5 h5; have H5 := Lib.hid h5; have z2 := HC2.out _ h5.2; have z8 := HC7.out _ h5.2; have f8 := HF.out _ h5.2; clear h5) | (refine step_one (w := w) (W := w4) (by rfl) (.tmp 38) (.tmp 40) (by rfl) (by rfl) g4 N cap4 Wa.heap.size (by rfl) (by rfl) k.l H4.out.1 a (HOB.out _ H4.out.2.1) (by omega) ?_; intro g5 cap5 w5 h5; have H5 := Lib.hid h5; have z2 := HC2.out _ h5.2; have z8 := HC7.out _ h5.2; have f8 := HF.out _ h5.2; clear h5) | (refine step_one (w := w) (W := w4) (by rfl) (.tmp 38) (.tmp 40) (by rfl) (by rfl) g4 N cap4 w.heap.size (by rfl) (by rfl) k.l H4.out.1 a (HOD.out _ H4.out.2.1) (by omega) ?_; intro g5 cap5 w5 h5; have H5 := Lib.hid h5; have z2 := HC2.out _ h5.2; have z8 := HC7.out _ h5.2; have f8 := HF.out _ h5.2; clear h5)
          refine hK.out _ _ ?_ ?_
          · ((try dsimp only); first | exact HC2.out _ HW.out.1 | exact HC2.out _ HW.out.2.1 | exact HC2.out _ HW.out.2.2.1 | exact HC2.out _ HW.out.2.2.2.1 | exact HC2.out _ HW.out.2.2.2.2 | exact HC2.out _ H4.out.1.2 | exact HC2.out _ (H4.out.1.alloc _).2 | exact HC2.out _ H5.out.2 | exact HK2.out _ _ (HC2.out _ H5.out.2))
          clear hK K hHeld
          intro hHeld
          (try simp only [Act.put, List.setIfInBounds_toArray, List.set_cons_zero, List.set_cons_succ])
          refine wpAnyH_ready (rs := [16]) (by kernel_rfl) (by simp) ?_
          refine AllReadyH.cons rfl (fun K hK => ?_) ?_
          · first | (refine step_copy (w := w) (W := Wa) (by rfl) (.tmp 30) (.tmp 37) (by rfl) (by rfl) A N cp w.heap.size (by rfl) (by rfl) HE.out.1 (Nat.le_refl _) HW.out.2.1 k.l HKN.out (HIA.out _ HW.out.2.1) (by omega) ?_; intro g4 cap4 w4 h41 h42 h43; have H4 := Lib.hid (And.intro h41 (And.intro h42 h43)); have z7 := HC7.out _ h41.2; clear h41 h42 h43) | (refine step_copy (w := w) (W := Wb) (by rfl) (.tmp 30) (.tmp 37) (by rfl) (by rfl) A N cp w.heap.size (by rfl) (by rfl) HE.out.2.1 (Nat.le_refl _) HW.out.2.2.1 k.l HKN.out (HIA.out _ HW.out.2.2.1) (by omega) ?_; intro g4 cap4 w4 h41 h42 h43; have H4 := Lib.hid (And.intro h41 (And.intro h42 h43)); have z7 := HC7.out _ h41.2; clear h41 h42 h43) | (refine step_copy (w := w) (W := Wd) (by rfl) (.tmp 30) (.tmp 37) (by rfl) (by rfl) A N cp Wc.heap.size (by rfl) (by rfl) HE.out.2.2 HW.out.2.2.2.1.size HW.out.2.2.2.2 k.l HKN.out (HIA.out _ HW.out.2.2.2.2) (by omega) ?_; intro g4 cap4 w4 h41 h42 h43; have H4 := Lib.hid (And.intro h41 (And.intro h42 h43)); have z7 := HC7.out _ h41.2; clear h41 h42 h43) | (refine step_one (w := w) (W := w4.alloc (.cells #[.int .i64 a] 3)) (by rfl) (.tmp 38) (.tmp 40) (by rfl) (by rfl) g4 N cap4 w4.heap.size (by rfl) (by rfl) k.l (H4.out.1.alloc _) a (HOA.out w4) (by omega) ?_; intro g5 cap5 w5 h5; have H5 := Lib.hid h5; have z2 := HC2.out _ h5.2; have z8 := HC7.out _ h5.2; have f8 := HF.out _ h5.2; clear h5) | (refine step_one (w := w) (W := w4) (by rfl) (.tmp 38) (.tmp 40) (by rfl) (by rfl) g4 N cap4 Wa.heap.size (by rfl) (by rfl) k.l H4.out.1 a (HOB.out _ H4.out.2.1) (by omega) ?_; intro g5 cap5 w5 h5; have H5 := Lib.hid h5; have z2 := HC2.out _ h5.2; have z8 := HC7.out _ h5.2; have f8 := HF.out _ h5.2; clear h5) | (refine step_one (w := w) (W := w4) (by rfl) (.tmp 38) (.tmp 40) (by rfl) (by rfl) g4 N cap4 w.heap.size (by rfl) (by rfl) k.l H4.out.1 a (HOD.out _ H4.out.2.1) (by omega) ?_; intro g5 cap5 w5 h5; have H5 := Lib.hid h5; have z2 := HC2.out _ h5.2; have z8 := HC7.out _ h5.2; have f8 := HF.out _ h5.2; clear h5)
            refine hK.out _ _ ?_ ?_
            · ((try dsimp only); first | exact HC2.out _ HW.out.1 | exact HC2.out _ HW.out.2.1 | exact HC2.out _ HW.out.2.2.1 | exact HC2.out _ HW.out.2.2.2.1 | exact HC2.out _ HW.out.2.2.2.2 | exact HC2.out _ H4.out.1.2 | exact HC2.out _ (H4.out.1.alloc _).2 | exact HC2.out _ H5.out.2 | exact HK2.out _ _ (HC2.out _ H5.out.2))
            clear hK K hHeld
            intro hHeld
            (try simp only [Act.put, List.setIfInBounds_toArray, List.set_cons_zero, List.set_cons_succ])
            refine wpAnyH_take (i := 17) (v := ?_) rfl (by kernel_rfl) (by kernel_rfl) (by kernel_rfl) (fun _ _ _ h => h) (Or.inl ⟨by rfl, ?_⟩) (by assumption) ?_
            rotate_left
            · (intro W hSW; (try dsimp only at hSW); go_simp; try with_reducible rfl)
            (try simp only [Act.put, List.setIfInBounds_toArray, List.set_cons_zero, List.set_cons_succ])
            refine wpAnyH_ready (rs := [18]) (by kernel_rfl) (by simp) ?_
            refine AllReadyH.cons rfl (fun K hK => ?_) ?_
            · go_simp
              refine hK.out _ _ ?_ ?_
              · ((try dsimp only); first | exact HC2.out _ HW.out.1 | exact HC2.out _ HW.out.2.1 | exact HC2.out _ HW.out.2.2.1 | exact HC2.out _ HW.out.2.2.2.1 | exact HC2.out _ HW.out.2.2.2.2 | exact HC2.out _ H4.out.1.2 | exact HC2.out _ (H4.out.1.alloc _).2 | exact HC2.out _ H5.out.2 | exact HK2.out _ _ (HC2.out _ H5.out.2))
              clear hK K hHeld
              intro hHeld
              (try simp only [Act.put, List.setIfInBounds_toArray, List.set_cons_zero, List.set_cons_succ])
              refine wpAnyH_done (by kernel_rfl) ?_ _
              refine NoPanic.normal ?_
              clear hHeld
              go_wp2
              obtain ⟨wa, hwa⟩ : ∃ wa, wa = w5.setCell ⟨l, x, none⟩ (.slice (some ⟨g5, 0, none⟩) (N + 1) cap5) := ⟨_, rfl⟩
              have e2 : wa.cell? ⟨B, 2, none⟩ = some (.slice (some ⟨l, 0, none⟩) L cl) := by rw [hwa]; exact HK2.out _ _ z2
              have e7 : wa.cell? ⟨l, x, none⟩ = some (.slice (some ⟨g5, 0, none⟩) (N + 1) cap5) := by rw [hwa]; exact World.cell?_setCell_same _ _ _ z8
              have e3 : wa.cell? ⟨B, 3, none⟩ = some (.slice (some ⟨i, 0, none⟩) L ci) := by rw [hwa]; exact (HFAR.out _ H5.out.2).1
              have e5 : wa.cell? ⟨i, x, none⟩ = some (.int .i64 k.lim) := by rw [hwa]; exact (HFAR.out _ H5.out.2).2.1
              have HWA := Lib.hid hwa
              rw [← hwa]
              clear hwa z2 z8 f8 z7 y1 y2 y3 y4 c3 c5 c7
              go_quiet (fail)
              go_wp2
              go_ret2
              rw [HWA.out]
              exact HP.out _ _ _ _ H5.out
            exact AllReadyH.nil
          exact AllReadyH.nil
        exact AllReadyH.nil
      exact AllReadyH.nil
    exact AllReadyH.nil
  exact AllReadyH.nil
end Go.Proofs.Yticcjelaenhigaa
