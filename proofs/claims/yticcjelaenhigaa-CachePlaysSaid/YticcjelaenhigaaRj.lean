/- The document's cache: Put, when there are too many. -/
import Derived.Test.YticcjelaenhigaaRh
namespace Go.Proofs.Yticcjelaenhigaa
open Go.RowKit Go.Lib

set_option linter.unusedSimpArgs false in
set_option maxRecDepth 100000 in
set_option maxHeartbeats 8000000 in
theorem dPut_over {O : Nat → Prop} {B t l i j ct cl ci cj : Nat} {V : Nat → Value} {c : Tc} {w : World} {x : Nat} {a : Int} {k : Kl} (h : RcA w O B t l i j ct cl ci cj V c) (hK : c.K[x]? = some k) (ha : InR a) (h256 : ¬ 256 < k.l.length + 1) (hgt : ¬ k.l.length + 1 ≤ k.lim) :
    Calls Try.prog 47 #[.pointer (some ⟨B, 0, none⟩), .int .i64 x, .int .i64 a] w (PtP true w O (.pointer (some ⟨B, 0, none⟩)) (some c) x a) := by
  have hat : atK (some c) (x : Int) = some k := atK_at hK
  have HH := Lib.hid (dwrong_any (om := some c) (x : Int) ⟨B, t, l, i, j, ct, cl, ci, cj, V, rfl, h⟩)
  rw [show errK (some c) x = 0 from by unfold errK; rw [hat]; rfl] at HH
  have hkw := h.wf.k k (List.mem_of_getElem? hK)
  obtain ⟨n1, n2, n3, n4, n5, n6, n7, n8, n9, n10⟩ := h.ne
  obtain ⟨oB, ot, ol, oi, oj⟩ := h.ob
  have lB := h.lt B oB
  have ll := h.lt l ol
  have li := h.lt i oi
  obtain ⟨A, cp, c7, hVV, hcp, hcm, hia⟩ := h.listc hK
  have hx := (List.getElem?_eq_some_iff.1 hK).1
  obtain ⟨c0, _, c2, c3, _⟩ := h.cells
  have lt' := h.lt t ot
  have c6 := (h.tab x k hK).2.2
  have c5 := h.limc hK
  obtain ⟨N, hN⟩ : ∃ N, k.l.length = N := ⟨_, rfl⟩
  have hlen := hkw.len
  have hlim := hkw.m128
  rw [hN] at c7 hcp hlen h256 hgt
  have HC2 := Lib.hid (fun (W : World) (hb : Below w.heap.size w W) => (hb.cell (p := ⟨B, 2, none⟩) lB).trans c2)
  have HC7 := Lib.hid (fun (W : World) (hb : Below w.heap.size w W) => (hb.cell (p := ⟨l, x, none⟩) ll).trans c7)
  have HIA := Lib.hid (fun (W : World) (hb : Below w.heap.size w W) => hia.below hb)
  have HF := Lib.hid (fun (W : World) (hb : Below w.heap.size w W) => (h.ll.of_block (hb.block l ll)).free x hx)
  have HKN := Lib.hid hN
  have HFAR := Lib.hid (fun (W : World) {SL : Value} (hb : Below w.heap.size w W) => show (W.setCell ⟨l, x, none⟩ SL).cell? ⟨B, 3, none⟩ = some (.slice (some ⟨i, 0, none⟩) c.K.length ci) ∧ (W.setCell ⟨l, x, none⟩ SL).cell? ⟨i, x, none⟩ = some (.int .i64 k.lim) ∧ (W.setCell ⟨l, x, none⟩ SL).cell? ⟨B, 0, none⟩ = some (.slice (some ⟨t, 0, none⟩) c.K.length ct) ∧ (W.setCell ⟨l, x, none⟩ SL).cell? ⟨t, x * 3 + 2, none⟩ = some (.int .i64 k.b) from
    ⟨(World.cell?_setCell_other W _ _ _ (fun e => n2 (by injection e))).trans ((hb.cell (p := ⟨B, 3, none⟩) lB).trans c3), (World.cell?_setCell_other W _ _ _ (fun e => n8 (by injection e))).trans ((hb.cell (p := ⟨i, x, none⟩) li).trans c5), (World.cell?_setCell_other W _ _ _ (fun e => n2 (by injection e))).trans ((hb.cell (p := ⟨B, 0, none⟩) lB).trans c0), (World.cell?_setCell_other W _ _ _ (fun e => n5 (by injection e with e _ _; exact e.symm))).trans ((hb.cell (p := ⟨t, x * 3 + 2, none⟩) lt').trans c6)⟩)
  obtain ⟨m, hm⟩ : ∃ m, overN (addK k [a]) = m := ⟨_, rfl⟩
  have hK1 : (c.K.set x (addK k [a]))[x]? = some (addK k [a]) := by rw [List.getElem?_set_self hx]
  have HO := Lib.hid (fun (w5 : World) (g5 cap5 q : Nat) (h5 : AdF w (k.l ++ [a]) w5 g5 (N + 1) cap5) => show Calls Try.prog 70 #[.pointer (some ⟨B, 0, none⟩), .int .i64 x, .int .i64 k.b] ((w5.setCell ⟨l, x, none⟩ (.slice (some ⟨g5, 0, none⟩) (N + 1) cap5)).drewN q) (OldP ((w5.setCell ⟨l, x, none⟩ (.slice (some ⟨g5, 0, none⟩) (N + 1) cap5)).drewN q) (fun g => O g ∨ g = g5) B t l i j ct cl ci cj { c with K := c.K.set x (addK k [a]) } x m (addK k [a])) from by
    obtain ⟨⟨V', hr⟩, hkp, q1, q2⟩ := h.add1 hK hN h256 ha hia.inr h5
    have hbq : Below (w5.setCell ⟨l, x, none⟩ (.slice (some ⟨g5, 0, none⟩) (N + 1) cap5)).heap.size (w5.setCell ⟨l, x, none⟩ (.slice (some ⟨g5, 0, none⟩) (N + 1) cap5)) ((w5.setCell ⟨l, x, none⟩ (.slice (some ⟨g5, 0, none⟩) (N + 1) cap5)).drewN q) := belowN (Below.refl _ _) q
    exact doldest_any (hr.keep (Keep.of (O := fun _ => False) hbq) (fun _ _ h => h)) hK1 hm)
  have HC9 := Lib.hid (fun (w6 w7 : World) (O6 : Nat → Prop) (e : Value) (ho : OldP w6 O6 B t l i j ct cl ci cj { c with K := c.K.set x (addK k [a]) } x m (addK k [a]) (.returned e) w7) => show w7.cell? ⟨B, 0, none⟩ = some (.slice (some ⟨t, 0, none⟩) c.K.length ct) ∧ w7.cell? ⟨B, 3, none⟩ = some (.slice (some ⟨i, 0, none⟩) c.K.length ci) ∧ w7.cell? ⟨i, x, none⟩ = some (.int .i64 k.lim) ∧ w7.cell? ⟨t, x * 3 + 2, none⟩ = some (.int .i64 k.b) ∧ w7.frozen? ⟨i, x, none⟩ = false ∧ Cl w7 i c.K.length (fun y => .int .i64 ((((c.K.set x (outK (addK k [a]) m))[y]?.map (·.lim)).getD 0 : Nat) : Int)) from by
    obtain ⟨_, _, _, O', V', hr, _⟩ := ho
    have hr' : RcA w7 O' B t l i j ct cl ci cj V' { c with K := c.K.set x (outK (addK k [a]) m) } := by
      have := hr
      rw [show ({ g := c.g, K := c.K.set x (addK k [a]) } : Tc).K.set x (outK (addK k [a]) m) = c.K.set x (outK (addK k [a]) m) from List.set_set ..] at this
      exact this
    have e2 : (c.K.set x (outK (addK k [a]) m))[x]? = some (outK (addK k [a]) m) := by rw [List.getElem?_set_self hx]
    have hl : ({ g := c.g, K := c.K.set x (outK (addK k [a]) m) } : Tc).K.length = c.K.length := List.length_set
    have h1 := hr'.cells
    rw [hl] at h1
    have h2 := hr'.lim
    rw [hl] at h2
    have h3 := hr'.limc e2
    have h4 := (hr'.tab x _ e2).2.2
    exact ⟨h1.1, h1.2.2.2.1, h3, h4, h2.free x hx, h2⟩)
  have HE1 := Lib.hid (fun (w5 w7 : World) (g5 cap5 q q2 : Nat) (A1 : Option Addr) (c9 : Nat) (h5 : AdF w (k.l ++ [a]) w5 g5 (N + 1) cap5) (hge : k.b ≤ k.lim) (ho : OldP ((w5.setCell ⟨l, x, none⟩ (.slice (some ⟨g5, 0, none⟩) (N + 1) cap5)).drewN q) (fun g => O g ∨ g = g5) B t l i j ct cl ci cj { c with K := c.K.set x (addK k [a]) } x m (addK k [a]) (.returned (.slice A1 m c9)) w7) => show PtP true w O (.pointer (some ⟨B, 0, none⟩)) (some c) x a (.returned (.tuple #[.slice A1 m c9, .int .i64 0])) (w7.drewN q2) from by
    obtain ⟨_, hkp, q1, q2'⟩ := h.add1 hK hN h256 ha hia.inr h5
    have hbq : Below (w5.setCell ⟨l, x, none⟩ (.slice (some ⟨g5, 0, none⟩) (N + 1) cap5)).heap.size (w5.setCell ⟨l, x, none⟩ (.slice (some ⟨g5, 0, none⟩) (N + 1) cap5)) ((w5.setCell ⟨l, x, none⟩ (.slice (some ⟨g5, 0, none⟩) (N + 1) cap5)).drewN q) := belowN (Below.refl _ _) q
    have hb7 : Below w7.heap.size w7 (w7.drewN q2) := belowN (Below.refl _ _) q2
    refine put_end h hK hN h256 hgt hm (hkp.trans (Keep.of hbq)) (fun g hg => ?_) ho (fun O' V' hr => ⟨V', ?_⟩) (Keep.of hb7)
    · rcases hg with hg | hg
      · exact .inl hg
      · refine .inr ⟨by omega, ?_⟩
        rw [hg]
        exact Nat.lt_of_lt_of_le (by rw [World.size_setCell]; exact q2') hbq.size
    · have e : overK (addK k [a]) = outK (addK k [a]) m := by
        unfold overK
        rw [hm]
        have : upK (addK k [a]) = addK k [a] := by unfold upK; rw [if_neg (by show ¬ k.lim < k.b; omega)]
        rw [this]
      rw [e]
      exact hr.keep (Keep.of (O := fun _ => False) hb7) (fun _ _ h => h))
  have HE2 := Lib.hid (fun (w5 w7 w8 : World) (g5 cap5 q : Nat) (A1 : Option Addr) (c9 : Nat) (h5 : AdF w (k.l ++ [a]) w5 g5 (N + 1) cap5) (hlt : k.lim < k.b) (ho : OldP ((w5.setCell ⟨l, x, none⟩ (.slice (some ⟨g5, 0, none⟩) (N + 1) cap5)).drewN q) (fun g => O g ∨ g = g5) B t l i j ct cl ci cj { c with K := c.K.set x (addK k [a]) } x m (addK k [a]) (.returned (.slice A1 m c9)) w7) (hl8 : Cl w8 i c.K.length (fun y => if y = x then .int .i64 ((k.lim + 1 : Nat) : Int) else .int .i64 ((((c.K.set x (outK (addK k [a]) m))[y]?.map (·.lim)).getD 0 : Nat) : Int))) (kp8 : Keep (fun g => g = i) w7 w8) => show PtP true w O (.pointer (some ⟨B, 0, none⟩)) (some c) x a (.returned (.tuple #[.slice A1 m c9, .int .i64 0])) w8 from by
    obtain ⟨_, hkp, q1, q2'⟩ := h.add1 hK hN h256 ha hia.inr h5
    have hbq : Below (w5.setCell ⟨l, x, none⟩ (.slice (some ⟨g5, 0, none⟩) (N + 1) cap5)).heap.size (w5.setCell ⟨l, x, none⟩ (.slice (some ⟨g5, 0, none⟩) (N + 1) cap5)) ((w5.setCell ⟨l, x, none⟩ (.slice (some ⟨g5, 0, none⟩) (N + 1) cap5)).drewN q) := belowN (Below.refl _ _) q
    refine put_end h hK hN h256 hgt hm (hkp.trans (Keep.of hbq)) (fun g hg => ?_) ho (fun O' V' hr => ?_) kp8
    · rcases hg with hg | hg
      · exact .inl hg
      · refine .inr ⟨by omega, ?_⟩
        rw [hg]
        exact Nat.lt_of_lt_of_le (by rw [World.size_setCell]; exact q2') hbq.size
    · have e2 : (c.K.set x (outK (addK k [a]) m))[x]? = some (outK (addK k [a]) m) := by rw [List.getElem?_set_self hx]
      have hl : ({ g := c.g, K := c.K.set x (outK (addK k [a]) m) } : Tc).K.length = c.K.length := List.length_set
      obtain ⟨V8, h8⟩ := hr.lim' (n := k.lim + 1) e2 (by omega) (by have := hkw.b32; omega) (by rw [hl]; exact hl8) kp8
      refine ⟨V8, ?_⟩
      rw [show ({ g := c.g, K := c.K.set x (outK (addK k [a]) m) } : Tc).K.set x { outK (addK k [a]) m with lim := k.lim + 1 } = c.K.set x (overK (addK k [a])) from by
        show (c.K.set x _).set x _ = _
        rw [List.set_set]
        have : upK (addK k [a]) = { addK k [a] with lim := k.lim + 1 } := by unfold upK; rw [if_pos (by show k.lim < k.b; exact hlt)]; rfl
        unfold overK
        rw [this, hm]
        rfl] at h8
      exact h8)
  -- the worlds
  have hbd : Below w.heap.size w w.drew := belowN (Below.refl _ w) 1
  obtain ⟨Wa, hWa⟩ : ∃ Wa, w.drew.alloc (.cells #[] 3) = Wa := ⟨_, rfl⟩
  obtain ⟨Wb, hWb⟩ : ∃ Wb, Wa.alloc (.cells #[.int .i64 a] 3) = Wb := ⟨_, rfl⟩
  obtain ⟨Wc, hWc⟩ : ∃ Wc, w.drew.alloc (.cells #[.int .i64 a] 3) = Wc := ⟨_, rfl⟩
  obtain ⟨Wd, hWd⟩ : ∃ Wd, Wc.alloc (.cells #[] 3) = Wd := ⟨_, rfl⟩
  have sA : Wa.heap.size = w.heap.size + 1 := by rw [← hWa]; simp
  have sC : Wc.heap.size = w.heap.size + 1 := by rw [← hWc]; simp
  have hbA : Below w.heap.size w Wa := by rw [← hWa]; exact hbd.alloc hbd.size _
  have hbB : Below w.heap.size w Wb := by rw [← hWb]; exact hbA.alloc hbA.size _
  have hbC : Below w.heap.size w Wc := by rw [← hWc]; exact hbd.alloc hbd.size _
  have hbD : Below w.heap.size w Wd := by rw [← hWd]; exact hbC.alloc hbC.size _
  have eA : Wa.heap[w.heap.size]? = some (.cells #[] 3 (0, 0)) := by rw [← hWa]; exact World.alloc_heap_new w.drew _
  have eB : Wb.heap[w.heap.size]? = some (.cells #[] 3 (0, 0)) := by rw [← hWb]; exact (Below.heap_alloc (w := Wa) _ _ (by omega)).trans eA
  have eD : Wd.heap[Wc.heap.size]? = some (.cells #[] 3 (0, 0)) := by rw [← hWd]; exact World.alloc_heap_new Wc _
  have oB1 : Wb.cell? ⟨Wa.heap.size, 0, none⟩ = some (.int .i64 a) := by rw [← hWb]; exact cell_block (heap_alloc_new Wa _) rfl
  have oD1 : Wd.cell? ⟨w.heap.size, 0, none⟩ = some (.int .i64 a) := by
    have : Wc.cell? ⟨w.heap.size, 0, none⟩ = some (.int .i64 a) := by rw [← hWc]; exact cell_block (World.alloc_heap_new w.drew _) rfl
    exact (World.cell?_of_block (a := ⟨w.heap.size, 0, none⟩) (by rw [← hWd]; exact Below.heap_alloc (w := Wc) _ _ (by show w.heap.size < _; omega))).trans this
  have sB : Wb.heap.size = w.heap.size + 2 := by rw [← hWb]; simp [sA]
  have sD : Wd.heap.size = w.heap.size + 2 := by rw [← hWd]; simp [sC]
  have HOB := Lib.hid (fun (w4 : World) (e : ∀ k, k < Wb.heap.size → k ≠ w.heap.size → w4.heap[k]? = Wb.heap[k]?) => show w4.cell? ⟨Wa.heap.size, 0, none⟩ = some (.int .i64 a) from (World.cell?_of_block (a := ⟨Wa.heap.size, 0, none⟩) (e Wa.heap.size (by omega) (by omega))).trans oB1)
  have HOD := Lib.hid (fun (w4 : World) (e : ∀ k, k < Wd.heap.size → k ≠ Wc.heap.size → w4.heap[k]? = Wd.heap[k]?) => show w4.cell? ⟨w.heap.size, 0, none⟩ = some (.int .i64 a) from (World.cell?_of_block (a := ⟨w.heap.size, 0, none⟩) (e w.heap.size (by omega) (by omega))).trans oD1)
  have HW := Lib.hid (And.intro hbd (And.intro hbA (And.intro hbB (And.intro hbC hbD))))
  have HE := Lib.hid (And.intro eA (And.intro eB eD))
  have HOA := Lib.hid (fun (W : World) => show (W.alloc (.cells #[.int .i64 a] 3)).cell? ⟨W.heap.size, 0, none⟩ = some (.int .i64 a) from cell_block (heap_alloc_new W _) rfl)
  generalize c.K.length = L at *
  have hn2 : (x : Int) < (L : Int) := by omega
  have hn0 : (0 : Int) ≤ (x : Int) := by omega
  have d1 : decide ((N : Int) ≥ 256) = false := decide_eq_false (by omega)
  have d2 : decide ((256 : Int) ≤ (N : Int)) = false := decide_eq_false (by omega)
  generalize k.lim = lm at *
  generalize k.b = bb at *
  have d3 : decide (((N + 1 : Nat) : Int) ≤ (lm : Int)) = false := decide_eq_false (by omega)
  have d4 : decide (N + 1 ≤ lm) = false := decide_eq_false (by omega)
  have d5 : decide ((N : Int) + 1 ≤ (lm : Int)) = false := decide_eq_false (by omega)
  have N1 := Lib.hid (And.intro n2 (And.intro n4 n9))
  have HK2 := Lib.hid (fun (W : World) v (e : W.cell? ⟨B, 2, none⟩ = some (.slice (some ⟨l, 0, none⟩) L cl)) => (World.cell?_setCell_other W ⟨l, x, none⟩ ⟨B, 2, none⟩ v (fun e => n2 (by injection e))).trans e)
  clear hK1 hm lt' c0 c6 h hK hat hkw hia hVV hbd hbA hbB hbC hbD eA eB eD oB1 oD1 sA sC sB sD n1 n2 n3 n4 n5 n6 n7 n8 n9 n10 oB ot ol oi oj hN
  have y1 := HC7.out _ HW.out.2.1
  have y2 := HC7.out _ HW.out.2.2.1
  have y3 := HC7.out _ HW.out.2.2.2.1
  have y4 := HC7.out _ HW.out.2.2.2.2
  go_enter Try.func47, Try.ntmps47
  go_wp2_with (go_at_call 69; refine HH.out.mono ?_; rintro e w1 ⟨rfl, rfl⟩)
  clear c2
  refine wp_region_noPanic ?_
  refine wp_region_held_drew (S := fun w' => w'.cell? ⟨B, 2, none⟩ = some (.slice (some ⟨l, 0, none⟩) L cl)) (by kernel_rfl) ?_ ?_
  · first | exact HC2.out _ HW.out.1 | exact HC2.out _ HW.out.2.1 | exact HC2.out _ HW.out.2.2.1 | exact HC2.out _ HW.out.2.2.2.1 | exact HC2.out _ HW.out.2.2.2.2 | exact HC2.out _ H4.out.1.2 | exact HC2.out _ (H4.out.1.alloc _).2 | exact HC2.out _ H5.out.2 | exact HK2.out _ _ (HC2.out _ H5.out.2)
  intro hHeld
  refine wpAnyH_take (i := 0) (v := ?_) rfl (by kernel_rfl) (by kernel_rfl) (by kernel_rfl) (fun _ _ _ h => h) (Or.inl ⟨by rfl, ?_⟩) (by assumption) ?_
  rotate_left
  · (intro W hSW; (try dsimp only at hSW); go_simp; try with_reducible rfl)
  (try simp only [Act.put, List.setIfInBounds_toArray, List.set_cons_zero, List.set_cons_succ])
  refine wpAnyH_take (i := 1) (v := ?_) rfl (by kernel_rfl) (by kernel_rfl) (by kernel_rfl) (fun _ _ _ h => h) (Or.inl ⟨by rfl, ?_⟩) (by assumption) ?_
  rotate_left
  · (intro W hSW; (try dsimp only at hSW); go_simp; try with_reducible rfl)
  (try simp only [Act.put, List.setIfInBounds_toArray, List.set_cons_zero, List.set_cons_succ])
  refine wpAnyH_take (i := 2) (v := ?_) rfl (by kernel_rfl) (by kernel_rfl) (by kernel_rfl) (fun _ _ _ h => h) (Or.inl ⟨by rfl, ?_⟩) (by assumption) ?_
  rotate_left
  · (intro W hSW; (try dsimp only at hSW); go_simp; try with_reducible rfl)
  (try simp only [Act.put, List.setIfInBounds_toArray, List.set_cons_zero, List.set_cons_succ])
  refine wpAnyH_take (i := 3) (v := ?_) rfl (by kernel_rfl) (by kernel_rfl) (by kernel_rfl) (fun _ _ _ h => h) (Or.inl ⟨by rfl, ?_⟩) (by assumption) ?_
  rotate_left
  · (intro W hSW; (try dsimp only at hSW); go_simp; try with_reducible rfl)
  (try simp only [Act.put, List.setIfInBounds_toArray, List.set_cons_zero, List.set_cons_succ])
  refine wpAnyH_take (i := 4) (v := ?_) rfl (by kernel_rfl) (by kernel_rfl) (by kernel_rfl) (fun _ _ _ h => h) (Or.inl ⟨by rfl, ?_⟩) (by assumption) ?_
  rotate_left
  · (intro W hSW; (try dsimp only at hSW); go_simp; try with_reducible rfl)
  (try simp only [Act.put, List.setIfInBounds_toArray, List.set_cons_zero, List.set_cons_succ])
  refine wpAnyH_take (i := 6) (v := ?_) rfl (by kernel_rfl) (by kernel_rfl) (by kernel_rfl) (fun _ _ _ h => h) (Or.inl ⟨by rfl, ?_⟩) (by assumption) ?_
  rotate_left
  · (intro W hSW; (try dsimp only at hSW); go_simp; try with_reducible rfl)
  (try simp only [Act.put, List.setIfInBounds_toArray, List.set_cons_zero, List.set_cons_succ])
  refine wpAnyH_take (i := 7) (v := ?_) rfl (by kernel_rfl) (by kernel_rfl) (by kernel_rfl) (fun _ _ _ h => h) (Or.inl ⟨by rfl, ?_⟩) (by assumption) ?_
  rotate_left
  · (intro W hSW; (try dsimp only at hSW); go_simp; try with_reducible rfl)
  (try simp only [Act.put, List.setIfInBounds_toArray, List.set_cons_zero, List.set_cons_succ])
  refine wpAnyH_take (i := 8) (v := ?_) rfl (by kernel_rfl) (by kernel_rfl) (by kernel_rfl) (fun _ _ _ h => h) (Or.inl ⟨by rfl, ?_⟩) (by assumption) ?_
  rotate_left
  · (intro W hSW; (try dsimp only at hSW); go_simp; try with_reducible rfl)
  (try simp only [Act.put, List.setIfInBounds_toArray, List.set_cons_zero, List.set_cons_succ])
  refine wpAnyH_take (i := 9) (v := ?_) rfl (by kernel_rfl) (by kernel_rfl) (by kernel_rfl) (fun _ _ _ h => h) (Or.inl ⟨by rfl, ?_⟩) (by assumption) ?_
  rotate_left
  · (intro W hSW; (try dsimp only at hSW); go_simp; try with_reducible rfl)
  (try simp only [Act.put, List.setIfInBounds_toArray, List.set_cons_zero, List.set_cons_succ])
  refine wpAnyH_take (i := 10) (v := ?_) rfl (by kernel_rfl) (by kernel_rfl) (by kernel_rfl) (fun _ _ _ h => h) (Or.inl ⟨by rfl, ?_⟩) (by assumption) ?_
  rotate_left
  · (intro W hSW; (try dsimp only at hSW); go_simp; try with_reducible rfl)
  (try simp only [Act.put, List.setIfInBounds_toArray, List.set_cons_zero, List.set_cons_succ])
  refine wpAnyH_take (i := 11) (v := ?_) rfl (by kernel_rfl) (by kernel_rfl) (by kernel_rfl) (fun _ _ _ h => h) (Or.inl ⟨by rfl, ?_⟩) (by assumption) ?_
  rotate_left
  · (intro W hSW; (try dsimp only at hSW); go_simp; try with_reducible rfl)
  (try simp only [Act.put, List.setIfInBounds_toArray, List.set_cons_zero, List.set_cons_succ])
  refine wpAnyH_take (i := 14) (v := ?_) rfl (by kernel_rfl) (by kernel_rfl) (by kernel_rfl) (fun _ _ _ h => h) (Or.inl ⟨by rfl, ?_⟩) (by assumption) ?_
  rotate_left
  · (intro W hSW; (try dsimp only at hSW); go_simp; try with_reducible rfl)
  (try simp only [Act.put, List.setIfInBounds_toArray, List.set_cons_zero, List.set_cons_succ])
  refine wpAnyH_ready (rs := [5, 12, 15]) (by kernel_rfl) (by simp) ?_
  refine AllReadyH.cons rfl (fun K hK => ?_) ?_
  · go_simp
    refine hK.out _ _ ?_ ?_
    · ((try dsimp only); first | exact HC2.out _ HW.out.1 | exact HC2.out _ HW.out.2.1 | exact HC2.out _ HW.out.2.2.1 | exact HC2.out _ HW.out.2.2.2.1 | exact HC2.out _ HW.out.2.2.2.2 | exact HC2.out _ H4.out.1.2 | exact HC2.out _ (H4.out.1.alloc _).2 | exact HC2.out _ H5.out.2 | exact HK2.out _ _ (HC2.out _ H5.out.2))
    clear hK K hHeld
    intro hHeld
    (try simp only [Act.put, List.setIfInBounds_toArray, List.set_cons_zero, List.set_cons_succ])
    refine wpAnyH_ready (rs := [12, 15]) (by kernel_rfl) (by simp) ?_
    refine AllReadyH.cons rfl (fun K hK => ?_) ?_
    · go_simp
      refine hK.out _ _ ?_ ?_
      · ((try dsimp only); first | exact HC2.out _ HW.out.1 | exact HC2.out _ HW.out.2.1 | exact HC2.out _ HW.out.2.2.1 | exact HC2.out _ HW.out.2.2.2.1 | exact HC2.out _ HW.out.2.2.2.2 | exact HC2.out _ H4.out.1.2 | exact HC2.out _ (H4.out.1.alloc _).2 | exact HC2.out _ H5.out.2 | exact HK2.out _ _ (HC2.out _ H5.out.2))
      clear hK K hHeld
      intro hHeld
      (try simp only [Act.put, List.setIfInBounds_toArray, List.set_cons_zero, List.set_cons_succ])
      refine wpAnyH_ready (rs := [13, 15]) (by kernel_rfl) (by simp) ?_
      refine AllReadyH.cons rfl (fun K hK => ?_) ?_
      · first | (refine step_copy (w := w) (W := Wa) (by rfl) (.tmp 30) (.tmp 37) (by rfl) (by rfl) A N cp w.heap.size (by rfl) (by rfl) HE.out.1 (Nat.le_refl _) HW.out.2.1 k.l HKN.out (HIA.out _ HW.out.2.1) (by omega) ?_; intro g4 cap4 w4 h41 h42 h43; have H4 := Lib.hid (And.intro h41 (And.intro h42 h43)); have z7 := HC7.out _ h41.2; clear h41 h42 h43) | (refine step_copy (w := w) (W := Wb) (by rfl) (.tmp 30) (.tmp 37) (by rfl) (by rfl) A N cp w.heap.size (by rfl) (by rfl) HE.out.2.1 (Nat.le_refl _) HW.out.2.2.1 k.l HKN.out (HIA.out _ HW.out.2.2.1) (by omega) ?_; intro g4 cap4 w4 h41 h42 h43; have H4 := Lib.hid (And.intro h41 (And.intro h42 h43)); have z7 := HC7.out _ h41.2; clear h41 h42 h43) | (refine step_copy (w := w) (W := Wd) (by rfl) (.tmp 30) (.tmp 37) (by rfl) (by rfl) A N cp Wc.heap.size (by rfl) (by rfl) HE.out.2.2 HW.out.2.2.2.1.size HW.out.2.2.2.2 k.l HKN.out (HIA.out _ HW.out.2.2.2.2) (by omega) ?_; intro g4 cap4 w4 h41 h42 h43; have H4 := Lib.hid (And.intro h41 (And.intro h42 h43)); have z7 := HC7.out _ h41.2; clear h41 h42 h43) | (refine step_one (w := w) (W := w4.alloc (.cells #[.int .i64 a] 3)) (by rfl) (.tmp 38) (.tmp 40) (by rfl) (by rfl) g4 N cap4 w4.heap.size (by rfl) (by rfl) k.l (H4.out.1.alloc _) a (HOA.out w4) (by omega) ?_; intro g5 cap5 w5 h5; have H5 := Lib.hid h5; have z2 := HC2.out _ h5.2; have z8 := HC7.out _ h5.2; have f8 := HF.out _ h5.2; clear h5) | (refine step_one (w := w) (W := w4) (by rfl) (.tmp 38) (.tmp 40) (by rfl) (by rfl) g4 N cap4 Wa.heap.size (by rfl) (by rfl) k.l H4.out.1 a (HOB.out _ H4.out.2.1) (by omega) ?_; intro g5 cap5 w5 h5; have H5 := Lib.hid h5; have z2 := HC2.out _ h5.2; have z8 := HC7.out _ h5.2; have f8 := HF.out _ h5.2; clear h5) | (refine step_one (w := w) (W := w4) (by rfl) (.tmp 38) (.tmp 40) (by rfl) (by rfl) g4 N cap4 w.heap.size (by rfl) (by rfl) k.l H4.out.1 a (HOD.out _ H4.out.2.1) (by omega) ?_; intro g5 cap5 w5 h5; have H5 := Lib.hid h5; have z2 := HC2.out _ h5.2; have z8 := HC7.out _ h5.2; have f8 := HF.out _ h5.2; clear h5)
        refine hK.out _ _ ?_ ?_
        · ((try dsimp only); first | exact HC2.out _ HW.out.1 | exact HC2.out _ HW.out.2.1 | exact HC2.out _ HW.out.2.2.1 | exact HC2.out _ HW.out.2.2.2.1 | exact HC2.out _ HW.out.2.2.2.2 | exact HC2.out _ H4.out.1.2 | exact HC2.out _ (H4.out.1.alloc _).2 | exact HC2.out _ H5.out.2 | exact HK2.out _ _ (HC2.out _ H5.out.2))
        clear hK K hHeld
        intro hHeld
        (try simp only [Act.put, List.setIfInBounds_toArray, List.set_cons_zero, List.set_cons_succ])
        refine wpAnyH_ready (rs := [15]) (by kernel_rfl) (by simp) ?_
        refine AllReadyH.cons rfl (fun K hK => ?_) ?_
        · go_simp
          refine hK.out _ _ ?_ ?_
          · ((try dsimp only); first | exact HC2.out _ HW.out.1 | exact HC2.out _ HW.out.2.1 | exact HC2.out _ HW.out.2.2.1 | exact HC2.out _ HW.out.2.2.2.1 | exact HC2.out _ HW.out.2.2.2.2 | exact HC2.out _ H4.out.1.2 | exact HC2.out _ (H4.out.1.alloc _).2 | exact HC2.out _ H5.out.2 | exact HK2.out _ _ (HC2.out _ H5.out.2))
          clear hK K hHeld
          intro hHeld
          (try simp only [Act.put, List.setIfInBounds_toArray, List.set_cons_zero, List.set_cons_succ])
          refine wpAnyH_ready (rs := [16]) (by kernel_rfl) (by simp) ?_
          refine AllReadyH.cons rfl (fun K hK => ?_) ?_
          · first | (refine step_copy (w := w) (W := Wa) (by rfl) (.tmp 30) (.tmp 37) (by rfl) (by rfl) A N cp w.heap.size (by rfl) (by rfl) HE.out.1 (Nat.le_refl _) HW.out.2.1 k.l HKN.out (HIA.out _ HW.out.2.1) (by omega) ?_; intro g4 cap4 w4 h41 h42 h43; have H4 := Lib.hid (And.intro h41 (And.intro h42 h43)); have z7 := HC7.out _ h41.2; clear h41 h42 h43) | (refine step_copy (w := w) (W := Wb) (by rfl) (.tmp 30) (.tmp 37) (by rfl) (by rfl) A N cp w.heap.size (by rfl) (by rfl) HE.out.2.1 (Nat.le_refl _) HW.out.2.2.1 k.l HKN.out (HIA.out _ HW.out.2.2.1) (by omega) ?_; intro g4 cap4 w4 h41 h42 h43; have H4 := Lib.hid (And.intro h41 (And.intro h42 h43)); have z7 := HC7.out _ h41.2; clear h41 h42 h43) | (refine step_copy (w := w) (W := Wd) (by rfl) (.tmp 30) (.tmp 37) (by rfl) (by rfl) A N cp Wc.heap.size (by rfl) (by rfl) HE.out.2.2 HW.out.2.2.2.1.size HW.out.2.2.2.2 k.l HKN.out (HIA.out _ HW.out.2.2.2.2) (by omega) ?_; intro g4 cap4 w4 h41 h42 h43; have H4 := Lib.hid (And.intro h41 (And.intro h42 h43)); have z7 := HC7.out _ h41.2; clear h41 h42 h43) | (refine step_one (w := w) (W := w4.alloc (.cells #[.int .i64 a] 3)) (by rfl) (.tmp 38) (.tmp 40) (by rfl) (by rfl) g4 N cap4 w4.heap.size (by rfl) (by rfl) k.l (H4.out.1.alloc _) a (HOA.out w4) (by omega) ?_; intro g5 cap5 w5 h5; have H5 := Lib.hid h5; have z2 := HC2.out _ h5.2; have z8 := HC7.out _ h5.2; have f8 := HF.out _ h5.2; clear h5) | (refine step_one (w := w) (W := w4) (by rfl) (.tmp 38) (.tmp 40) (by rfl) (by rfl) g4 N cap4 Wa.heap.size (by rfl) (by rfl) k.l H4.out.1 a (HOB.out _ H4.out.2.1) (by omega) ?_; intro g5 cap5 w5 h5; have H5 := Lib.hid h5; have z2 := HC2.out _ h5.2; have z8 := HC7.out _ h5.2; have f8 := HF.out _ h5.2; clear h5) | (refine step_one (w := w) (W := w4) (by rfl) (.tmp 38) (.tmp 40) (by rfl) (by rfl) g4 N cap4 w.heap.size (by rfl) (by rfl) k.l H4.out.1 a (HOD.out _ H4.out.2.1) (by omega) ?_; intro g5 cap5 w5 h5; have H5 := Lib.hid h5; have z2 := HC2.out _ h5.2; have z8 := HC7.out _ h5.2; have f8 := HF.out _ h5.2; clear h5)
            refine hK.out _ _ ?_ ?_
            · ((try dsimp only); first | exact HC2.out _ HW.out.1 | exact HC2.out _ HW.out.2.1 | exact HC2.out _ HW.out.2.2.1 | exact HC2.out _ HW.out.2.2.2.1 | exact HC2.out _ HW.out.2.2.2.2 | exact HC2.out _ H4.out.1.2 | exact HC2.out _ (H4.out.1.alloc _).2 | exact HC2.out _ H5.out.2 | exact HK2.out _ _ (HC2.out _ H5.out.2))
            clear hK K hHeld
            intro hHeld
            (try simp only [Act.put, List.setIfInBounds_toArray, List.set_cons_zero, List.set_cons_succ])
            refine wpAnyH_take (i := 17) (v := ?_) rfl (by kernel_rfl) (by kernel_rfl) (by kernel_rfl) (fun _ _ _ h => h) (Or.inl ⟨by rfl, ?_⟩) (by assumption) ?_
            rotate_left
            · (intro W hSW; (try dsimp only at hSW); go_simp; try with_reducible rfl)
            (try simp only [Act.put, List.setIfInBounds_toArray, List.set_cons_zero, List.set_cons_succ])
            refine wpAnyH_ready (rs := [18]) (by kernel_rfl) (by simp) ?_
            refine AllReadyH.cons rfl (fun K hK => ?_) ?_
            · go_simp
              refine hK.out _ _ ?_ ?_
              · ((try dsimp only); first | exact HC2.out _ HW.out.1 | exact HC2.out _ HW.out.2.1 | exact HC2.out _ HW.out.2.2.1 | exact HC2.out _ HW.out.2.2.2.1 | exact HC2.out _ HW.out.2.2.2.2 | exact HC2.out _ H4.out.1.2 | exact HC2.out _ (H4.out.1.alloc _).2 | exact HC2.out _ H5.out.2 | exact HK2.out _ _ (HC2.out _ H5.out.2))
              clear hK K hHeld
              intro hHeld
              (try simp only [Act.put, List.setIfInBounds_toArray, List.set_cons_zero, List.set_cons_succ])
              refine wpAnyH_done (by kernel_rfl) ?_ _
              refine NoPanic.normal ?_
              clear hHeld
              go_wp2
              obtain ⟨wa, hwa⟩ : ∃ wa, wa = w5.setCell ⟨l, x, none⟩ (.slice (some ⟨g5, 0, none⟩) (N + 1) cap5) := ⟨_, rfl⟩
              have e2 : wa.cell? ⟨B, 2, none⟩ = some (.slice (some ⟨l, 0, none⟩) L cl) := by rw [hwa]; exact HK2.out _ _ z2
              have e7 : wa.cell? ⟨l, x, none⟩ = some (.slice (some ⟨g5, 0, none⟩) (N + 1) cap5) := by rw [hwa]; exact World.cell?_setCell_same _ _ _ z8
              have e3 : wa.cell? ⟨B, 3, none⟩ = some (.slice (some ⟨i, 0, none⟩) L ci) := by rw [hwa]; exact (HFAR.out _ H5.out.2).1
              have e5 : wa.cell? ⟨i, x, none⟩ = some (.int .i64 lm) := by rw [hwa]; exact (HFAR.out _ H5.out.2).2.1
              have e0 : wa.cell? ⟨B, 0, none⟩ = some (.slice (some ⟨t, 0, none⟩) L ct) := by rw [hwa]; exact (HFAR.out _ H5.out.2).2.2.1
              have e6 : wa.cell? ⟨t, x * 3 + 2, none⟩ = some (.int .i64 bb) := by rw [hwa]; exact (HFAR.out _ H5.out.2).2.2.2
              have HWA := Lib.hid hwa
              rw [← hwa]
              clear hwa z2 z8 f8 z7 y1 y2 y3 y4 c3 c5 c7
              go_quiet (fail)
              have HCALL := Lib.hid (by have := HO.out w5 g5 cap5 nq H5.out; rw [← HWA.out] at this; exact this)
              go_wp2_with (go_at_call 70; refine HCALL.out.mono ?_; rintro e w7 ⟨A1, c9, rfl, hrest⟩; have HOLD := Lib.hid hrest; obtain ⟨y0, y3, y5, yt, yf, ycl⟩ := HC9.out _ _ _ _ ⟨A1, c9, rfl, hrest⟩; have YCL := Lib.hid ycl; clear hrest ycl)
              clear e2 e7 e3 e5 e0 e6 d3 d4 d5
              rcases Nat.lt_or_ge lm bb with hlb | hlb
              · have q1 : decide ((lm : Int) < (bb : Int)) = true := decide_eq_true (by omega)
                have q2 : decide (lm < bb) = true := decide_eq_true hlb
                obtain ⟨R, hR⟩ : ∃ R, lm + 1 = R := ⟨_, rfl⟩
                have HLB := Lib.hid hlb
                have HRR := Lib.hid hR
                have r1 : (lm : Int) + 1 = (R : Int) := by omega
                have hR64 : R ≤ 129 := by omega
                have WE := Lib.hid (w64 (R : Int) (by omega))
                clear hlb hR hR64
                go_quiet (fail)
                obtain ⟨we1, we2⟩ := WE.out
                go_wp2
                go_ret2
                clear we1 we2
                have ho := HOLD.out
                rw [HWA.out] at ho
                exact HE2.out w5 w7 _ g5 cap5 _ A1 c9 H5.out HLB.out ⟨A1, c9, rfl, ho⟩ (by rw [HRR.out]; exact (YCL.out.of_block (w' := w7.drewN _) rfl).set x _) (keep_set (F := fun g => g = i) (Keep.of (belowN (Below.refl _ _) _)) rfl _)
              · have q1 : decide ((lm : Int) < (bb : Int)) = false := decide_eq_false (by omega)
                have q2 : decide (lm < bb) = false := decide_eq_false (by omega)
                have HLB := Lib.hid hlb
                clear hlb
                go_quiet (fail)
                go_wp2
                go_ret2
                have ho := HOLD.out
                rw [HWA.out] at ho
                exact HE1.out w5 w7 g5 cap5 _ _ A1 c9 H5.out HLB.out ⟨A1, c9, rfl, ho⟩
            exact AllReadyH.nil
          exact AllReadyH.nil
        exact AllReadyH.nil
      refine AllReadyH.cons rfl (fun K hK => ?_) ?_
      · go_simp
        refine hK.out _ _ ?_ ?_
        · ((try dsimp only); first | exact HC2.out _ HW.out.1 | exact HC2.out _ HW.out.2.1 | exact HC2.out _ HW.out.2.2.1 | exact HC2.out _ HW.out.2.2.2.1 | exact HC2.out _ HW.out.2.2.2.2 | exact HC2.out _ H4.out.1.2 | exact HC2.out _ (H4.out.1.alloc _).2 | exact HC2.out _ H5.out.2 | exact HK2.out _ _ (HC2.out _ H5.out.2))
        clear hK K hHeld
        intro hHeld
        (try simp only [Act.put, List.setIfInBounds_toArray, List.set_cons_zero, List.set_cons_succ])
        refine wpAnyH_ready (rs := [13]) (by kernel_rfl) (by simp) ?_
        refine AllReadyH.cons rfl (fun K hK => ?_) ?_
        · first | (refine step_copy (w := w) (W := Wa) (by rfl) (.tmp 30) (.tmp 37) (by rfl) (by rfl) A N cp w.heap.size (by rfl) (by rfl) HE.out.1 (Nat.le_refl _) HW.out.2.1 k.l HKN.out (HIA.out _ HW.out.2.1) (by omega) ?_; intro g4 cap4 w4 h41 h42 h43; have H4 := Lib.hid (And.intro h41 (And.intro h42 h43)); have z7 := HC7.out _ h41.2; clear h41 h42 h43) | (refine step_copy (w := w) (W := Wb) (by rfl) (.tmp 30) (.tmp 37) (by rfl) (by rfl) A N cp w.heap.size (by rfl) (by rfl) HE.out.2.1 (Nat.le_refl _) HW.out.2.2.1 k.l HKN.out (HIA.out _ HW.out.2.2.1) (by omega) ?_; intro g4 cap4 w4 h41 h42 h43; have H4 := Lib.hid (And.intro h41 (And.intro h42 h43)); have z7 := HC7.out _ h41.2; clear h41 h42 h43) | (refine step_copy (w := w) (W := Wd) (by rfl) (.tmp 30) (.tmp 37) (by rfl) (by rfl) A N cp Wc.heap.size (by rfl) (by rfl) HE.out.2.2 HW.out.2.2.2.1.size HW.out.2.2.2.2 k.l HKN.out (HIA.out _ HW.out.2.2.2.2) (by omega) ?_; intro g4 cap4 w4 h41 h42 h43; have H4 := Lib.hid (And.intro h41 (And.intro h42 h43)); have z7 := HC7.out _ h41.2; clear h41 h42 h43) | (refine step_one (w := w) (W := w4.alloc (.cells #[.int .i64 a] 3)) (by rfl) (.tmp 38) (.tmp 40) (by rfl) (by rfl) g4 N cap4 w4.heap.size (by rfl) (by rfl) k.l (H4.out.1.alloc _) a (HOA.out w4) (by omega) ?_; intro g5 cap5 w5 h5; have H5 := Lib.hid h5; have z2 := HC2.out _ h5.2; have z8 := HC7.out _ h5.2; have f8 := HF.out _ h5.2; clear h5) | (refine step_one (w := w) (W := w4) (by rfl) (.tmp 38) (.tmp 40) (by rfl) (by rfl) g4 N cap4 Wa.heap.size (by rfl) (by rfl) k.l H4.out.1 a (HOB.out _ H4.out.2.1) (by omega) ?_; intro g5 cap5 w5 h5; have H5 := Lib.hid h5; have z2 := HC2.out _ h5.2; have z8 := HC7.out _ h5.2; have f8 := HF.out _ h5.2; clear h5) | (refine step_one (w := w) (W := w4) (by rfl) (.tmp 38) (.tmp 40) (by rfl) (by rfl) g4 N cap4 w.heap.size (by rfl) (by rfl) k.l H4.out.1 a (HOD.out _ H4.out.2.1) (by omega) ?_; intro g5 cap5 w5 h5; have H5 := Lib.hid h5; have z2 := HC2.out _ h5.2; have z8 := HC7.out _ h5.2; have f8 := HF.out _ h5.2; clear h5)
          refine hK.out _ _ ?_ ?_
          · ((try dsimp only); first | exact HC2.out _ HW.out.1 | exact HC2.out _ HW.out.2.1 | exact HC2.out _ HW.out.2.2.1 | exact HC2.out _ HW.out.2.2.2.1 | exact HC2.out _ HW.out.2.2.2.2 | exact HC2.out _ H4.out.1.2 | exact HC2.out _ (H4.out.1.alloc _).2 | exact HC2.out _ H5.out.2 | exact HK2.out _ _ (HC2.out _ H5.out.2))
          clear hK K hHeld
          intro hHeld
          (try simp only [Act.put, List.setIfInBounds_toArray, List.set_cons_zero, List.set_cons_succ])
          refine wpAnyH_ready (rs := [16]) (by kernel_rfl) (by simp) ?_
          refine AllReadyH.cons rfl (fun K hK => ?_) ?_
          · first | (refine step_copy (w := w) (W := Wa) (by rfl) (.tmp 30) (.tmp 37) (by rfl) (by rfl) A N cp w.heap.size (by rfl) (by rfl) HE.out.1 (Nat.le_refl _) HW.out.2.1 k.l HKN.out (HIA.out _ HW.out.2.1) (by omega) ?_; intro g4 cap4 w4 h41 h42 h43; have H4 := Lib.hid (And.intro h41 (And.intro h42 h43)); have z7 := HC7.out _ h41.2; clear h41 h42 h43) | (refine step_copy (w := w) (W := Wb) (by rfl) (.tmp 30) (.tmp 37) (by rfl) (by rfl) A N cp w.heap.size (by rfl) (by rfl) HE.out.2.1 (Nat.le_refl _) HW.out.2.2.1 k.l HKN.out (HIA.out _ HW.out.2.2.1) (by omega) ?_; intro g4 cap4 w4 h41 h42 h43; have H4 := Lib.hid (And.intro h41 (And.intro h42 h43)); have z7 := HC7.out _ h41.2; clear h41 h42 h43) | (refine step_copy (w := w) (W := Wd) (by rfl) (.tmp 30) (.tmp 37) (by rfl) (by rfl) A N cp Wc.heap.size (by rfl) (by rfl) HE.out.2.2 HW.out.2.2.2.1.size HW.out.2.2.2.2 k.l HKN.out (HIA.out _ HW.out.2.2.2.2) (by omega) ?_; intro g4 cap4 w4 h41 h42 h43; have H4 := Lib.hid (And.intro h41 (And.intro h42 h43)); have z7 := HC7.out _ h41.2; clear h41 h42 h43) | (refine step_one (w := w) (W := w4.alloc (.cells #[.int .i64 a] 3)) (by rfl) (.tmp 38) (.tmp 40) (by rfl) (by rfl) g4 N cap4 w4.heap.size (by rfl) (by rfl) k.l (H4.out.1.alloc _) a (HOA.out w4) (by omega) ?_; intro g5 cap5 w5 h5; have H5 := Lib.hid h5; have z2 := HC2.out _ h5.2; have z8 := HC7.out _ h5.2; have f8 := HF.out _ h5.2; clear h5) | (refine step_one (w := w) (W := w4) (by rfl) (.tmp 38) (.tmp 40) (by rfl) (by rfl) g4 N cap4 Wa.heap.size (by rfl) (by rfl) k.l H4.out.1 a (HOB.out _ H4.out.2.1) (by omega) ?_; intro g5 cap5 w5 h5; have H5 := Lib.hid h5; have z2 := HC2.out _ h5.2; have z8 := HC7.out _ h5.2; have f8 := HF.out _ h5.2; clear h5) | (refine step_one (w := w) (W := w4) (by rfl) (.tmp 38) (.tmp 40) (by rfl) (by rfl) g4 N cap4 w.heap.size (by rfl) (by rfl) k.l H4.out.1 a (HOD.out _ H4.out.2.1) (by omega) ?_; intro g5 cap5 w5 h5; have H5 := Lib.hid h5; have z2 := HC2.out _ h5.2; have z8 := HC7.out _ h5.2; have f8 := HF.out _ h5.2; clear h5)
            refine hK.out _ _ ?_ ?_
            · ((try dsimp only); first | exact HC2.out _ HW.out.1 | exact HC2.out _ HW.out.2.1 | exact HC2.out _ HW.out.2.2.1 | exact HC2.out _ HW.out.2.2.2.1 | exact HC2.out _ HW.out.2.2.2.2 | exact HC2.out _ H4.out.1.2 | exact HC2.out _ (H4.out.1.alloc _).2 | exact HC2.out _ H5.out.2 | exact HK2.out _ _ (HC2.out _ H5.out.2))
            clear hK K hHeld
            intro hHeld
            (try simp only [Act.put, List.setIfInBounds_toArray, List.set_cons_zero, List.set_cons_succ])
            refine wpAnyH_take (i := 17) (v := ?_) rfl (by kernel_rfl) (by kernel_rfl) (by kernel_rfl) (fun _ _ _ h => h) (Or.inl ⟨by rfl, ?_⟩) (by assumption) ?_
            rotate_left
            · (intro W hSW; (try dsimp only at hSW); go_simp; try with_reducible rfl)
            (try simp only [Act.put, List.setIfInBounds_toArray, List.set_cons_zero, List.set_cons_succ])
            refine wpAnyH_ready (rs := [18]) (by kernel_rfl) (by simp) ?_
            refine AllReadyH.cons rfl (fun K hK => ?_) ?_
            · go_simp
              refine hK.out _ _ ?_ ?_
              · ((try dsimp only); first | exact HC2.out _ HW.out.1 | exact HC2.out _ HW.out.2.1 | exact HC2.out _ HW.out.2.2.1 | exact HC2.out _ HW.out.2.2.2.1 | exact HC2.out _ HW.out.2.2.2.2 | exact HC2.out _ H4.out.1.2 | exact HC2.out _ (H4.out.1.alloc _).2 | exact HC2.out _ H5.out.2 | exact HK2.out _ _ (HC2.out _ H5.out.2))
              clear hK K hHeld
              intro hHeld
              (try simp only [Act.put, List.setIfInBounds_toArray, List.set_cons_zero, List.set_cons_succ])
              refine wpAnyH_done (by kernel_rfl) ?_ _
              refine NoPanic.normal ?_
              clear hHeld
              go_wp2
              obtain ⟨wa, hwa⟩ : ∃ wa, wa = w5.setCell ⟨l, x, none⟩ (.slice (some ⟨g5, 0, none⟩) (N + 1) cap5) := ⟨_, rfl⟩
              have e2 : wa.cell? ⟨B, 2, none⟩ = some (.slice (some ⟨l, 0, none⟩) L cl) := by rw [hwa]; exact HK2.out _ _ z2
              have e7 : wa.cell? ⟨l, x, none⟩ = some (.slice (some ⟨g5, 0, none⟩) (N + 1) cap5) := by rw [hwa]; exact World.cell?_setCell_same _ _ _ z8
              have e3 : wa.cell? ⟨B, 3, none⟩ = some (.slice (some ⟨i, 0, none⟩) L ci) := by rw [hwa]; exact (HFAR.out _ H5.out.2).1
              have e5 : wa.cell? ⟨i, x, none⟩ = some (.int .i64 lm) := by rw [hwa]; exact (HFAR.out _ H5.out.2).2.1
              have e0 : wa.cell? ⟨B, 0, none⟩ = some (.slice (some ⟨t, 0, none⟩) L ct) := by rw [hwa]; exact (HFAR.out _ H5.out.2).2.2.1
              have e6 : wa.cell? ⟨t, x * 3 + 2, none⟩ = some (.int .i64 bb) := by rw [hwa]; exact (HFAR.out _ H5.out.2).2.2.2
              have HWA := Lib.hid hwa
              rw [← hwa]
              clear hwa z2 z8 f8 z7 y1 y2 y3 y4 c3 c5 c7
              go_quiet (fail)
              have HCALL := Lib.hid (by have := HO.out w5 g5 cap5 nq H5.out; rw [← HWA.out] at this; exact this)
              go_wp2_with (go_at_call 70; refine HCALL.out.mono ?_; rintro e w7 ⟨A1, c9, rfl, hrest⟩; have HOLD := Lib.hid hrest; obtain ⟨y0, y3, y5, yt, yf, ycl⟩ := HC9.out _ _ _ _ ⟨A1, c9, rfl, hrest⟩; have YCL := Lib.hid ycl; clear hrest ycl)
              clear e2 e7 e3 e5 e0 e6 d3 d4 d5
              rcases Nat.lt_or_ge lm bb with hlb | hlb
              · have q1 : decide ((lm : Int) < (bb : Int)) = true := decide_eq_true (by omega)
                have q2 : decide (lm < bb) = true := decide_eq_true hlb
                obtain ⟨R, hR⟩ : ∃ R, lm + 1 = R := ⟨_, rfl⟩
                have HLB := Lib.hid hlb
                have HRR := Lib.hid hR
                have r1 : (lm : Int) + 1 = (R : Int) := by omega
                have hR64 : R ≤ 129 := by omega
                have WE := Lib.hid (w64 (R : Int) (by omega))
                clear hlb hR hR64
                go_quiet (fail)
                obtain ⟨we1, we2⟩ := WE.out
                go_wp2
                go_ret2
                clear we1 we2
                have ho := HOLD.out
                rw [HWA.out] at ho
                exact HE2.out w5 w7 _ g5 cap5 _ A1 c9 H5.out HLB.out ⟨A1, c9, rfl, ho⟩ (by rw [HRR.out]; exact (YCL.out.of_block (w' := w7.drewN _) rfl).set x _) (keep_set (F := fun g => g = i) (Keep.of (belowN (Below.refl _ _) _)) rfl _)
              · have q1 : decide ((lm : Int) < (bb : Int)) = false := decide_eq_false (by omega)
                have q2 : decide (lm < bb) = false := decide_eq_false (by omega)
                have HLB := Lib.hid hlb
                clear hlb
                go_quiet (fail)
                go_wp2
                go_ret2
                have ho := HOLD.out
                rw [HWA.out] at ho
                exact HE1.out w5 w7 g5 cap5 _ _ A1 c9 H5.out HLB.out ⟨A1, c9, rfl, ho⟩
            exact AllReadyH.nil
          exact AllReadyH.nil
        exact AllReadyH.nil
      exact AllReadyH.nil
    refine AllReadyH.cons rfl (fun K hK => ?_) ?_
    · go_simp
      refine hK.out _ _ ?_ ?_
      · ((try dsimp only); first | exact HC2.out _ HW.out.1 | exact HC2.out _ HW.out.2.1 | exact HC2.out _ HW.out.2.2.1 | exact HC2.out _ HW.out.2.2.2.1 | exact HC2.out _ HW.out.2.2.2.2 | exact HC2.out _ H4.out.1.2 | exact HC2.out _ (H4.out.1.alloc _).2 | exact HC2.out _ H5.out.2 | exact HK2.out _ _ (HC2.out _ H5.out.2))
      clear hK K hHeld
      intro hHeld
      (try simp only [Act.put, List.setIfInBounds_toArray, List.set_cons_zero, List.set_cons_succ])
      refine wpAnyH_ready (rs := [12]) (by kernel_rfl) (by simp) ?_
      refine AllReadyH.cons rfl (fun K hK => ?_) ?_
      · go_simp
        refine hK.out _ _ ?_ ?_
        · ((try dsimp only); first | exact HC2.out _ HW.out.1 | exact HC2.out _ HW.out.2.1 | exact HC2.out _ HW.out.2.2.1 | exact HC2.out _ HW.out.2.2.2.1 | exact HC2.out _ HW.out.2.2.2.2 | exact HC2.out _ H4.out.1.2 | exact HC2.out _ (H4.out.1.alloc _).2 | exact HC2.out _ H5.out.2 | exact HK2.out _ _ (HC2.out _ H5.out.2))
        clear hK K hHeld
        intro hHeld
        (try simp only [Act.put, List.setIfInBounds_toArray, List.set_cons_zero, List.set_cons_succ])
        refine wpAnyH_ready (rs := [13]) (by kernel_rfl) (by simp) ?_
        refine AllReadyH.cons rfl (fun K hK => ?_) ?_
        · first | (refine step_copy (w := w) (W := Wa) (by rfl) (.tmp 30) (.tmp 37) (by rfl) (by rfl) A N cp w.heap.size (by rfl) (by rfl) HE.out.1 (Nat.le_refl _) HW.out.2.1 k.l HKN.out (HIA.out _ HW.out.2.1) (by omega) ?_; intro g4 cap4 w4 h41 h42 h43; have H4 := Lib.hid (And.intro h41 (And.intro h42 h43)); have z7 := HC7.out _ h41.2; clear h41 h42 h43) | (refine step_copy (w := w) (W := Wb) (by rfl) (.tmp 30) (.tmp 37) (by rfl) (by rfl) A N cp w.heap.size (by rfl) (by rfl) HE.out.2.1 (Nat.le_refl _) HW.out.2.2.1 k.l HKN.out (HIA.out _ HW.out.2.2.1) (by omega) ?_; intro g4 cap4 w4 h41 h42 h43; have H4 := Lib.hid (And.intro h41 (And.intro h42 h43)); have z7 := HC7.out _ h41.2; clear h41 h42 h43) | (refine step_copy (w := w) (W := Wd) (by rfl) (.tmp 30) (.tmp 37) (by rfl) (by rfl) A N cp Wc.heap.size (by rfl) (by rfl) HE.out.2.2 HW.out.2.2.2.1.size HW.out.2.2.2.2 k.l HKN.out (HIA.out _ HW.out.2.2.2.2) (by omega) ?_; intro g4 cap4 w4 h41 h42 h43; have H4 := Lib.hid (And.intro h41 (And.intro h42 h43)); have z7 := HC7.out _ h41.2; clear h41 h42 h43) | (refine step_one (w := w) (W := w4.alloc (.cells #[.int .i64 a] 3)) (by rfl) (.tmp 38) (.tmp 40) (by rfl) (by rfl) g4 N cap4 w4.heap.size (by rfl) (by rfl) k.l (H4.out.1.alloc _) a (HOA.out w4) (by omega) ?_; intro g5 cap5 w5 h5; have H5 := Lib.hid h5; have z2 := HC2.out _ h5.2; have z8 := HC7.out _ h5.2; have f8 := HF.out _ h5.2; clear h5) | (refine step_one (w := w) (W := w4) (by rfl) (.tmp 38) (.tmp 40) (by rfl) (by rfl) g4 N cap4 Wa.heap.size (by rfl) (by rfl) k.l H4.out.1 a (HOB.out _ H4.out.2.1) (by omega) ?_; intro g5 cap5 w5 h5; have H5 := Lib.hid h5; have z2 := HC2.out _ h5.2; have z8 := HC7.out _ h5.2; have f8 := HF.out _ h5.2; clear h5) | (refine step_one (w := w) (W := w4) (by rfl) (.tmp 38) (.tmp 40) (by rfl) (by rfl) g4 N cap4 w.heap.size (by rfl) (by rfl) k.l H4.out.1 a (HOD.out _ H4.out.2.1) (by omega) ?_; intro g5 cap5 w5 h5; have H5 := Lib.hid h5; have z2 := HC2.out _ h5.2; have z8 := HC7.out _ h5.2; have f8 := HF.out _ h5.2; clear h5)
          refine hK.out _ _ ?_ ?_
          · ((try dsimp only); first | exact HC2.out _ HW.out.1 | exact HC2.out _ HW.out.2.1 | exact HC2.out _ HW.out.2.2.1 | exact HC2.out _ HW.out.2.2.2.1 | exact HC2.out _ HW.out.2.2.2.2 | exact HC2.out _ H4.out.1.2 | exact HC2.out _ (H4.out.1.alloc _).2 | exact HC2.out _ H5.out.2 | exact HK2.out _ _ (HC2.out _ H5.out.2))
          clear hK K hHeld
          intro hHeld
          (try simp only [Act.put, List.setIfInBounds_toArray, List.set_cons_zero, List.set_cons_succ])
          refine wpAnyH_ready (rs := [16]) (by kernel_rfl) (by simp) ?_
          refine AllReadyH.cons rfl (fun K hK => ?_) ?_
          · first | (refine step_copy (w := w) (W := Wa) (by rfl) (.tmp 30) (.tmp 37) (by rfl) (by rfl) A N cp w.heap.size (by rfl) (by rfl) HE.out.1 (Nat.le_refl _) HW.out.2.1 k.l HKN.out (HIA.out _ HW.out.2.1) (by omega) ?_; intro g4 cap4 w4 h41 h42 h43; have H4 := Lib.hid (And.intro h41 (And.intro h42 h43)); have z7 := HC7.out _ h41.2; clear h41 h42 h43) | (refine step_copy (w := w) (W := Wb) (by rfl) (.tmp 30) (.tmp 37) (by rfl) (by rfl) A N cp w.heap.size (by rfl) (by rfl) HE.out.2.1 (Nat.le_refl _) HW.out.2.2.1 k.l HKN.out (HIA.out _ HW.out.2.2.1) (by omega) ?_; intro g4 cap4 w4 h41 h42 h43; have H4 := Lib.hid (And.intro h41 (And.intro h42 h43)); have z7 := HC7.out _ h41.2; clear h41 h42 h43) | (refine step_copy (w := w) (W := Wd) (by rfl) (.tmp 30) (.tmp 37) (by rfl) (by rfl) A N cp Wc.heap.size (by rfl) (by rfl) HE.out.2.2 HW.out.2.2.2.1.size HW.out.2.2.2.2 k.l HKN.out (HIA.out _ HW.out.2.2.2.2) (by omega) ?_; intro g4 cap4 w4 h41 h42 h43; have H4 := Lib.hid (And.intro h41 (And.intro h42 h43)); have z7 := HC7.out _ h41.2; clear h41 h42 h43) | (refine step_one (w := w) (W := w4.alloc (.cells #[.int .i64 a] 3)) (by rfl) (.tmp 38) (.tmp 40) (by rfl) (by rfl) g4 N cap4 w4.heap.size (by rfl) (by rfl) k.l (H4.out.1.alloc _) a (HOA.out w4) (by omega) ?_; intro g5 cap5 w5 h5; have H5 := Lib.hid h5; have z2 := HC2.out _ h5.2; have z8 := HC7.out _ h5.2; have f8 := HF.out _ h5.2; clear h5) | (refine step_one (w := w) (W := w4) (by rfl) (.tmp 38) (.tmp 40) (by rfl) (by rfl) g4 N cap4 Wa.heap.size (by rfl) (by rfl) k.l H4.out.1 a (HOB.out _ H4.out.2.1) (by omega) ?_; intro g5 cap5 w5 h5; have H5 := Lib.hid h5; have z2 := HC2.out _ h5.2; have z8 := HC7.out _ h5.2; have f8 := HF.out _ h5.2; clear h5) | (refine step_one (w := w) (W := w4) (by rfl) (.tmp 38) (.tmp 40) (by rfl) (by rfl) g4 N cap4 w.heap.size (by rfl) (by rfl) k.l H4.out.1 a (HOD.out _ H4.out.2.1) (by omega) ?_; intro g5 cap5 w5 h5; have H5 := Lib.hid h5; have z2 := HC2.out _ h5.2; have z8 := HC7.out _ h5.2; have f8 := HF.out _ h5.2; clear h5)
            refine hK.out _ _ ?_ ?_
            · ((try dsimp only); first | exact HC2.out _ HW.out.1 | exact HC2.out _ HW.out.2.1 | exact HC2.out _ HW.out.2.2.1 | exact HC2.out _ HW.out.2.2.2.1 | exact HC2.out _ HW.out.2.2.2.2 | exact HC2.out _ H4.out.1.2 | exact HC2.out _ (H4.out.1.alloc _).2 | exact HC2.out _ H5.out.2 | exact HK2.out _ _ (HC2.out _ H5.out.2))
            clear hK K hHeld
            intro hHeld
            (try simp only [Act.put, List.setIfInBounds_toArray, List.set_cons_zero, List.set_cons_succ])
            refine wpAnyH_take (i := 17) (v := ?_) rfl (by kernel_rfl) (by kernel_rfl) (by kernel_rfl) (fun _ _ _ h => h) (Or.inl ⟨by rfl, ?_⟩) (by assumption) ?_
            rotate_left
            · (intro W hSW; (try dsimp only at hSW); go_simp; try with_reducible rfl)
            (try simp only [Act.put, List.setIfInBounds_toArray, List.set_cons_zero, List.set_cons_succ])
            refine wpAnyH_ready (rs := [18]) (by kernel_rfl) (by simp) ?_
            refine AllReadyH.cons rfl (fun K hK => ?_) ?_
            · go_simp
              refine hK.out _ _ ?_ ?_
              · ((try dsimp only); first | exact HC2.out _ HW.out.1 | exact HC2.out _ HW.out.2.1 | exact HC2.out _ HW.out.2.2.1 | exact HC2.out _ HW.out.2.2.2.1 | exact HC2.out _ HW.out.2.2.2.2 | exact HC2.out _ H4.out.1.2 | exact HC2.out _ (H4.out.1.alloc _).2 | exact HC2.out _ H5.out.2 | exact HK2.out _ _ (HC2.out _ H5.out.2))
              clear hK K hHeld
              intro hHeld
              (try simp only [Act.put, List.setIfInBounds_toArray, List.set_cons_zero, List.set_cons_succ])
              refine wpAnyH_done (by kernel_rfl) ?_ _
              refine NoPanic.normal ?_
              clear hHeld
              go_wp2
              obtain ⟨wa, hwa⟩ : ∃ wa, wa = w5.setCell ⟨l, x, none⟩ (.slice (some ⟨g5, 0, none⟩) (N + 1) cap5) := ⟨_, rfl⟩
              have e2 : wa.cell? ⟨B, 2, none⟩ = some (.slice (some ⟨l, 0, none⟩) L cl) := by rw [hwa]; exact HK2.out _ _ z2
              have e7 : wa.cell? ⟨l, x, none⟩ = some (.slice (some ⟨g5, 0, none⟩) (N + 1) cap5) := by rw [hwa]; exact World.cell?_setCell_same _ _ _ z8
              have e3 : wa.cell? ⟨B, 3, none⟩ = some (.slice (some ⟨i, 0, none⟩) L ci) := by rw [hwa]; exact (HFAR.out _ H5.out.2).1
              have e5 : wa.cell? ⟨i, x, none⟩ = some (.int .i64 lm) := by rw [hwa]; exact (HFAR.out _ H5.out.2).2.1
              have e0 : wa.cell? ⟨B, 0, none⟩ = some (.slice (some ⟨t, 0, none⟩) L ct) := by rw [hwa]; exact (HFAR.out _ H5.out.2).2.2.1
              have e6 : wa.cell? ⟨t, x * 3 + 2, none⟩ = some (.int .i64 bb) := by rw [hwa]; exact (HFAR.out _ H5.out.2).2.2.2
              have HWA := Lib.hid hwa
              rw [← hwa]
              clear hwa z2 z8 f8 z7 y1 y2 y3 y4 c3 c5 c7
              go_quiet (fail)
              have HCALL := Lib.hid (by have := HO.out w5 g5 cap5 nq H5.out; rw [← HWA.out] at this; exact this)
              go_wp2_with (go_at_call 70; refine HCALL.out.mono ?_; rintro e w7 ⟨A1, c9, rfl, hrest⟩; have HOLD := Lib.hid hrest; obtain ⟨y0, y3, y5, yt, yf, ycl⟩ := HC9.out _ _ _ _ ⟨A1, c9, rfl, hrest⟩; have YCL := Lib.hid ycl; clear hrest ycl)
              clear e2 e7 e3 e5 e0 e6 d3 d4 d5
              rcases Nat.lt_or_ge lm bb with hlb | hlb
              · have q1 : decide ((lm : Int) < (bb : Int)) = true := decide_eq_true (by omega)
                have q2 : decide (lm < bb) = true := decide_eq_true hlb
                obtain ⟨R, hR⟩ : ∃ R, lm + 1 = R := ⟨_, rfl⟩
                have HLB := Lib.hid hlb
                have HRR := Lib.hid hR
                have r1 : (lm : Int) + 1 = (R : Int) := by omega
                have hR64 : R ≤ 129 := by omega
                have WE := Lib.hid (w64 (R : Int) (by omega))
                clear hlb hR hR64
                go_quiet (fail)
                obtain ⟨we1, we2⟩ := WE.out
                go_wp2
                go_ret2
                clear we1 we2
                have ho := HOLD.out
                rw [HWA.out] at ho
                exact HE2.out w5 w7 _ g5 cap5 _ A1 c9 H5.out HLB.out ⟨A1, c9, rfl, ho⟩ (by rw [HRR.out]; exact (YCL.out.of_block (w' := w7.drewN _) rfl).set x _) (keep_set (F := fun g => g = i) (Keep.of (belowN (Below.refl _ _) _)) rfl _)
              · have q1 : decide ((lm : Int) < (bb : Int)) = false := decide_eq_false (by omega)
                have q2 : decide (lm < bb) = false := decide_eq_false (by omega)
                have HLB := Lib.hid hlb
                clear hlb
                go_quiet (fail)
                go_wp2
                go_ret2
                have ho := HOLD.out
                rw [HWA.out] at ho
                exact HE1.out w5 w7 g5 cap5 _ _ A1 c9 H5.out HLB.out ⟨A1, c9, rfl, ho⟩
            exact AllReadyH.nil
          exact AllReadyH.nil
        exact AllReadyH.nil
      exact AllReadyH.nil
    exact AllReadyH.nil
  refine AllReadyH.cons rfl (fun K hK => ?_) ?_
  · go_simp
    refine hK.out _ _ ?_ ?_
    · ((try dsimp only); first | exact HC2.out _ HW.out.1 | exact HC2.out _ HW.out.2.1 | exact HC2.out _ HW.out.2.2.1 | exact HC2.out _ HW.out.2.2.2.1 | exact HC2.out _ HW.out.2.2.2.2 | exact HC2.out _ H4.out.1.2 | exact HC2.out _ (H4.out.1.alloc _).2 | exact HC2.out _ H5.out.2 | exact HK2.out _ _ (HC2.out _ H5.out.2))
    clear hK K hHeld
    intro hHeld
    (try simp only [Act.put, List.setIfInBounds_toArray, List.set_cons_zero, List.set_cons_succ])
    refine wpAnyH_ready (rs := [5, 15]) (by kernel_rfl) (by simp) ?_
    refine AllReadyH.cons rfl (fun K hK => ?_) ?_
    · go_simp
      refine hK.out _ _ ?_ ?_
      · ((try dsimp only); first | exact HC2.out _ HW.out.1 | exact HC2.out _ HW.out.2.1 | exact HC2.out _ HW.out.2.2.1 | exact HC2.out _ HW.out.2.2.2.1 | exact HC2.out _ HW.out.2.2.2.2 | exact HC2.out _ H4.out.1.2 | exact HC2.out _ (H4.out.1.alloc _).2 | exact HC2.out _ H5.out.2 | exact HK2.out _ _ (HC2.out _ H5.out.2))
      clear hK K hHeld
      intro hHeld
      (try simp only [Act.put, List.setIfInBounds_toArray, List.set_cons_zero, List.set_cons_succ])
      refine wpAnyH_ready (rs := [13, 15]) (by kernel_rfl) (by simp) ?_
      refine AllReadyH.cons rfl (fun K hK => ?_) ?_
      · first | (refine step_copy (w := w) (W := Wa) (by rfl) (.tmp 30) (.tmp 37) (by rfl) (by rfl) A N cp w.heap.size (by rfl) (by rfl) HE.out.1 (Nat.le_refl _) HW.out.2.1 k.l HKN.out (HIA.out _ HW.out.2.1) (by omega) ?_; intro g4 cap4 w4 h41 h42 h43; have H4 := Lib.hid (And.intro h41 (And.intro h42 h43)); have z7 := HC7.out _ h41.2; clear h41 h42 h43) | (refine step_copy (w := w) (W := Wb) (by rfl) (.tmp 30) (.tmp 37) (by rfl) (by rfl) A N cp w.heap.size (by rfl) (by rfl) HE.out.2.1 (Nat.le_refl _) HW.out.2.2.1 k.l HKN.out (HIA.out _ HW.out.2.2.1) (by omega) ?_; intro g4 cap4 w4 h41 h42 h43; have H4 := Lib.hid (And.intro h41 (And.intro h42 h43)); have z7 := HC7.out _ h41.2; clear h41 h42 h43) | (refine step_copy (w := w) (W := Wd) (by rfl) (.tmp 30) (.tmp 37) (by rfl) (by rfl) A N cp Wc.heap.size (by rfl) (by rfl) HE.out.2.2 HW.out.2.2.2.1.size HW.out.2.2.2.2 k.l HKN.out (HIA.out _ HW.out.2.2.2.2) (by omega) ?_; intro g4 cap4 w4 h41 h42 h43; have H4 := Lib.hid (And.intro h41 (And.intro h42 h43)); have z7 := HC7.out _ h41.2; clear h41 h42 h43) | (refine step_one (w := w) (W := w4.alloc (.cells #[.int .i64 a] 3)) (by rfl) (.tmp 38) (.tmp 40) (by rfl) (by rfl) g4 N cap4 w4.heap.size (by rfl) (by rfl) k.l (H4.out.1.alloc _) a (HOA.out w4) (by omega) ?_; intro g5 cap5 w5 h5; have H5 := Lib.hid h5; have z2 := HC2.out _ h5.2; have z8 := HC7.out _ h5.2; have f8 := HF.out _ h5.2; clear h5) | (refine step_one (w := w) (W := w4) (by rfl) (.tmp 38) (.tmp 40) (by rfl) (by rfl) g4 N cap4 Wa.heap.size (by rfl) (by rfl) k.l H4.out.1 a (HOB.out _ H4.out.2.1) (by omega) ?_; intro g5 cap5 w5 h5; have H5 := Lib.hid h5; have z2 := HC2.out _ h5.2; have z8 := HC7.out _ h5.2; have f8 := HF.out _ h5.2; clear h5) | (refine step_one (w := w) (W := w4) (by rfl) (.tmp 38) (.tmp 40) (by rfl) (by rfl) g4 N cap4 w.heap.size (by rfl) (by rfl) k.l H4.out.1 a (HOD.out _ H4.out.2.1) (by omega) ?_; intro g5 cap5 w5 h5; have H5 := Lib.hid h5; have z2 := HC2.out _ h5.2; have z8 := HC7.out _ h5.2; have f8 := HF.out _ h5.2; clear h5)
        refine hK.out _ _ ?_ ?_
        · ((try dsimp only); first | exact HC2.out _ HW.out.1 | exact HC2.out _ HW.out.2.1 | exact HC2.out _ HW.out.2.2.1 | exact HC2.out _ HW.out.2.2.2.1 | exact HC2.out _ HW.out.2.2.2.2 | exact HC2.out _ H4.out.1.2 | exact HC2.out _ (H4.out.1.alloc _).2 | exact HC2.out _ H5.out.2 | exact HK2.out _ _ (HC2.out _ H5.out.2))
        clear hK K hHeld
        intro hHeld
        (try simp only [Act.put, List.setIfInBounds_toArray, List.set_cons_zero, List.set_cons_succ])
        refine wpAnyH_ready (rs := [15]) (by kernel_rfl) (by simp) ?_
        refine AllReadyH.cons rfl (fun K hK => ?_) ?_
        · go_simp
          refine hK.out _ _ ?_ ?_
          · ((try dsimp only); first | exact HC2.out _ HW.out.1 | exact HC2.out _ HW.out.2.1 | exact HC2.out _ HW.out.2.2.1 | exact HC2.out _ HW.out.2.2.2.1 | exact HC2.out _ HW.out.2.2.2.2 | exact HC2.out _ H4.out.1.2 | exact HC2.out _ (H4.out.1.alloc _).2 | exact HC2.out _ H5.out.2 | exact HK2.out _ _ (HC2.out _ H5.out.2))
          clear hK K hHeld
          intro hHeld
          (try simp only [Act.put, List.setIfInBounds_toArray, List.set_cons_zero, List.set_cons_succ])
          refine wpAnyH_ready (rs := [16]) (by kernel_rfl) (by simp) ?_
          refine AllReadyH.cons rfl (fun K hK => ?_) ?_
          · first | (refine step_copy (w := w) (W := Wa) (by rfl) (.tmp 30) (.tmp 37) (by rfl) (by rfl) A N cp w.heap.size (by rfl) (by rfl) HE.out.1 (Nat.le_refl _) HW.out.2.1 k.l HKN.out (HIA.out _ HW.out.2.1) (by omega) ?_; intro g4 cap4 w4 h41 h42 h43; have H4 := Lib.hid (And.intro h41 (And.intro h42 h43)); have z7 := HC7.out _ h41.2; clear h41 h42 h43) | (refine step_copy (w := w) (W := Wb) (by rfl) (.tmp 30) (.tmp 37) (by rfl) (by rfl) A N cp w.heap.size (by rfl) (by rfl) HE.out.2.1 (Nat.le_refl _) HW.out.2.2.1 k.l HKN.out (HIA.out _ HW.out.2.2.1) (by omega) ?_; intro g4 cap4 w4 h41 h42 h43; have H4 := Lib.hid (And.intro h41 (And.intro h42 h43)); have z7 := HC7.out _ h41.2; clear h41 h42 h43) | (refine step_copy (w := w) (W := Wd) (by rfl) (.tmp 30) (.tmp 37) (by rfl) (by rfl) A N cp Wc.heap.size (by rfl) (by rfl) HE.out.2.2 HW.out.2.2.2.1.size HW.out.2.2.2.2 k.l HKN.out (HIA.out _ HW.out.2.2.2.2) (by omega) ?_; intro g4 cap4 w4 h41 h42 h43; have H4 := Lib.hid (And.intro h41 (And.intro h42 h43)); have z7 := HC7.out _ h41.2; clear h41 h42 h43) | (refine step_one (w := w) (W := w4.alloc (.cells #[.int .i64 a] 3)) (by rfl) (.tmp 38) (.tmp 40) (by rfl) (by rfl) g4 N cap4 w4.heap.size (by rfl) (by rfl) k.l (H4.out.1.alloc _) a (HOA.out w4) (by omega) ?_; intro g5 cap5 w5 h5; have H5 := Lib.hid h5; have z2 := HC2.out _ h5.2; have z8 := HC7.out _ h5.2; have f8 := HF.out _ h5.2; clear h5) | (refine step_one (w := w) (W := w4) (by rfl) (.tmp 38) (.tmp 40) (by rfl) (by rfl) g4 N cap4 Wa.heap.size (by rfl) (by rfl) k.l H4.out.1 a (HOB.out _ H4.out.2.1) (by omega) ?_; intro g5 cap5 w5 h5; have H5 := Lib.hid h5; have z2 := HC2.out _ h5.2; have z8 := HC7.out _ h5.2; have f8 := HF.out _ h5.2; clear h5) | (refine step_one (w := w) (W := w4) (by rfl) (.tmp 38) (.tmp 40) (by rfl) (by rfl) g4 N cap4 w.heap.size (by rfl) (by rfl) k.l H4.out.1 a (HOD.out _ H4.out.2.1) (by omega) ?_; intro g5 cap5 w5 h5; have H5 := Lib.hid h5; have z2 := HC2.out _ h5.2; have z8 := HC7.out _ h5.2; have f8 := HF.out _ h5.2; clear h5)
            refine hK.out _ _ ?_ ?_
            · ((try dsimp only); first | exact HC2.out _ HW.out.1 | exact HC2.out _ HW.out.2.1 | exact HC2.out _ HW.out.2.2.1 | exact HC2.out _ HW.out.2.2.2.1 | exact HC2.out _ HW.out.2.2.2.2 | exact HC2.out _ H4.out.1.2 | exact HC2.out _ (H4.out.1.alloc _).2 | exact HC2.out _ H5.out.2 | exact HK2.out _ _ (HC2.out _ H5.out.2))
            clear hK K hHeld
            intro hHeld
            (try simp only [Act.put, List.setIfInBounds_toArray, List.set_cons_zero, List.set_cons_succ])
            refine wpAnyH_take (i := 17) (v := ?_) rfl (by kernel_rfl) (by kernel_rfl) (by kernel_rfl) (fun _ _ _ h => h) (Or.inl ⟨by rfl, ?_⟩) (by assumption) ?_
            rotate_left
            · (intro W hSW; (try dsimp only at hSW); go_simp; try with_reducible rfl)
            (try simp only [Act.put, List.setIfInBounds_toArray, List.set_cons_zero, List.set_cons_succ])
            refine wpAnyH_ready (rs := [18]) (by kernel_rfl) (by simp) ?_
            refine AllReadyH.cons rfl (fun K hK => ?_) ?_
            · go_simp
              refine hK.out _ _ ?_ ?_
              · ((try dsimp only); first | exact HC2.out _ HW.out.1 | exact HC2.out _ HW.out.2.1 | exact HC2.out _ HW.out.2.2.1 | exact HC2.out _ HW.out.2.2.2.1 | exact HC2.out _ HW.out.2.2.2.2 | exact HC2.out _ H4.out.1.2 | exact HC2.out _ (H4.out.1.alloc _).2 | exact HC2.out _ H5.out.2 | exact HK2.out _ _ (HC2.out _ H5.out.2))
              clear hK K hHeld
              intro hHeld
              (try simp only [Act.put, List.setIfInBounds_toArray, List.set_cons_zero, List.set_cons_succ])
              refine wpAnyH_done (by kernel_rfl) ?_ _
              refine NoPanic.normal ?_
              clear hHeld
              go_wp2
              obtain ⟨wa, hwa⟩ : ∃ wa, wa = w5.setCell ⟨l, x, none⟩ (.slice (some ⟨g5, 0, none⟩) (N + 1) cap5) := ⟨_, rfl⟩
              have e2 : wa.cell? ⟨B, 2, none⟩ = some (.slice (some ⟨l, 0, none⟩) L cl) := by rw [hwa]; exact HK2.out _ _ z2
              have e7 : wa.cell? ⟨l, x, none⟩ = some (.slice (some ⟨g5, 0, none⟩) (N + 1) cap5) := by rw [hwa]; exact World.cell?_setCell_same _ _ _ z8
              have e3 : wa.cell? ⟨B, 3, none⟩ = some (.slice (some ⟨i, 0, none⟩) L ci) := by rw [hwa]; exact (HFAR.out _ H5.out.2).1
              have e5 : wa.cell? ⟨i, x, none⟩ = some (.int .i64 lm) := by rw [hwa]; exact (HFAR.out _ H5.out.2).2.1
              have e0 : wa.cell? ⟨B, 0, none⟩ = some (.slice (some ⟨t, 0, none⟩) L ct) := by rw [hwa]; exact (HFAR.out _ H5.out.2).2.2.1
              have e6 : wa.cell? ⟨t, x * 3 + 2, none⟩ = some (.int .i64 bb) := by rw [hwa]; exact (HFAR.out _ H5.out.2).2.2.2
              have HWA := Lib.hid hwa
              rw [← hwa]
              clear hwa z2 z8 f8 z7 y1 y2 y3 y4 c3 c5 c7
              go_quiet (fail)
              have HCALL := Lib.hid (by have := HO.out w5 g5 cap5 nq H5.out; rw [← HWA.out] at this; exact this)
              go_wp2_with (go_at_call 70; refine HCALL.out.mono ?_; rintro e w7 ⟨A1, c9, rfl, hrest⟩; have HOLD := Lib.hid hrest; obtain ⟨y0, y3, y5, yt, yf, ycl⟩ := HC9.out _ _ _ _ ⟨A1, c9, rfl, hrest⟩; have YCL := Lib.hid ycl; clear hrest ycl)
              clear e2 e7 e3 e5 e0 e6 d3 d4 d5
              rcases Nat.lt_or_ge lm bb with hlb | hlb
              · have q1 : decide ((lm : Int) < (bb : Int)) = true := decide_eq_true (by omega)
                have q2 : decide (lm < bb) = true := decide_eq_true hlb
                obtain ⟨R, hR⟩ : ∃ R, lm + 1 = R := ⟨_, rfl⟩
                have HLB := Lib.hid hlb
                have HRR := Lib.hid hR
                have r1 : (lm : Int) + 1 = (R : Int) := by omega
                have hR64 : R ≤ 129 := by omega
                have WE := Lib.hid (w64 (R : Int) (by omega))
                clear hlb hR hR64
                go_quiet (fail)
                obtain ⟨we1, we2⟩ := WE.out
                go_wp2
                go_ret2
                clear we1 we2
                have ho := HOLD.out
                rw [HWA.out] at ho
                exact HE2.out w5 w7 _ g5 cap5 _ A1 c9 H5.out HLB.out ⟨A1, c9, rfl, ho⟩ (by rw [HRR.out]; exact (YCL.out.of_block (w' := w7.drewN _) rfl).set x _) (keep_set (F := fun g => g = i) (Keep.of (belowN (Below.refl _ _) _)) rfl _)
              · have q1 : decide ((lm : Int) < (bb : Int)) = false := decide_eq_false (by omega)
                have q2 : decide (lm < bb) = false := decide_eq_false (by omega)
                have HLB := Lib.hid hlb
                clear hlb
                go_quiet (fail)
                go_wp2
                go_ret2
                have ho := HOLD.out
                rw [HWA.out] at ho
                exact HE1.out w5 w7 g5 cap5 _ _ A1 c9 H5.out HLB.out ⟨A1, c9, rfl, ho⟩
            exact AllReadyH.nil
          exact AllReadyH.nil
        exact AllReadyH.nil
      refine AllReadyH.cons rfl (fun K hK => ?_) ?_
      · go_simp
        refine hK.out _ _ ?_ ?_
        · ((try dsimp only); first | exact HC2.out _ HW.out.1 | exact HC2.out _ HW.out.2.1 | exact HC2.out _ HW.out.2.2.1 | exact HC2.out _ HW.out.2.2.2.1 | exact HC2.out _ HW.out.2.2.2.2 | exact HC2.out _ H4.out.1.2 | exact HC2.out _ (H4.out.1.alloc _).2 | exact HC2.out _ H5.out.2 | exact HK2.out _ _ (HC2.out _ H5.out.2))
        clear hK K hHeld
        intro hHeld
        (try simp only [Act.put, List.setIfInBounds_toArray, List.set_cons_zero, List.set_cons_succ])
        refine wpAnyH_ready (rs := [13]) (by kernel_rfl) (by simp) ?_
        refine AllReadyH.cons rfl (fun K hK => ?_) ?_
        · first | (refine step_copy (w := w) (W := Wa) (by rfl) (.tmp 30) (.tmp 37) (by rfl) (by rfl) A N cp w.heap.size (by rfl) (by rfl) HE.out.1 (Nat.le_refl _) HW.out.2.1 k.l HKN.out (HIA.out _ HW.out.2.1) (by omega) ?_; intro g4 cap4 w4 h41 h42 h43; have H4 := Lib.hid (And.intro h41 (And.intro h42 h43)); have z7 := HC7.out _ h41.2; clear h41 h42 h43) | (refine step_copy (w := w) (W := Wb) (by rfl) (.tmp 30) (.tmp 37) (by rfl) (by rfl) A N cp w.heap.size (by rfl) (by rfl) HE.out.2.1 (Nat.le_refl _) HW.out.2.2.1 k.l HKN.out (HIA.out _ HW.out.2.2.1) (by omega) ?_; intro g4 cap4 w4 h41 h42 h43; have H4 := Lib.hid (And.intro h41 (And.intro h42 h43)); have z7 := HC7.out _ h41.2; clear h41 h42 h43) | (refine step_copy (w := w) (W := Wd) (by rfl) (.tmp 30) (.tmp 37) (by rfl) (by rfl) A N cp Wc.heap.size (by rfl) (by rfl) HE.out.2.2 HW.out.2.2.2.1.size HW.out.2.2.2.2 k.l HKN.out (HIA.out _ HW.out.2.2.2.2) (by omega) ?_; intro g4 cap4 w4 h41 h42 h43; have H4 := Lib.hid (And.intro h41 (And.intro h42 h43)); have z7 := HC7.out _ h41.2; clear h41 h42 h43) | (refine step_one (w := w) (W := w4.alloc (.cells #[.int .i64 a] 3)) (by rfl) (.tmp 38) (.tmp 40) (by rfl) (by rfl) g4 N cap4 w4.heap.size (by rfl) (by rfl) k.l (H4.out.1.alloc _) a (HOA.out w4) (by omega) ?_; intro g5 cap5 w5 h5; have H5 := Lib.hid h5; have z2 := HC2.out _ h5.2; have z8 := HC7.out _ h5.2; have f8 := HF.out _ h5.2; clear h5) | (refine step_one (w := w) (W := w4) (by rfl) (.tmp 38) (.tmp 40) (by rfl) (by rfl) g4 N cap4 Wa.heap.size (by rfl) (by rfl) k.l H4.out.1 a (HOB.out _ H4.out.2.1) (by omega) ?_; intro g5 cap5 w5 h5; have H5 := Lib.hid h5; have z2 := HC2.out _ h5.2; have z8 := HC7.out _ h5.2; have f8 := HF.out _ h5.2; clear h5) | (refine step_one (w := w) (W := w4) (by rfl) (.tmp 38) (.tmp 40) (by rfl) (by rfl) g4 N cap4 w.heap.size (by rfl) (by rfl) k.l H4.out.1 a (HOD.out _ H4.out.2.1) (by omega) ?_; intro g5 cap5 w5 h5; have H5 := Lib.hid h5; have z2 := HC2.out _ h5.2; have z8 := HC7.out _ h5.2; have f8 := HF.out _ h5.2; clear h5)
          refine hK.out _ _ ?_ ?_
          · ((try dsimp only); first | exact HC2.out _ HW.out.1 | exact HC2.out _ HW.out.2.1 | exact HC2.out _ HW.out.2.2.1 | exact HC2.out _ HW.out.2.2.2.1 | exact HC2.out _ HW.out.2.2.2.2 | exact HC2.out _ H4.out.1.2 | exact HC2.out _ (H4.out.1.alloc _).2 | exact HC2.out _ H5.out.2 | exact HK2.out _ _ (HC2.out _ H5.out.2))
          clear hK K hHeld
          intro hHeld
          (try simp only [Act.put, List.setIfInBounds_toArray, List.set_cons_zero, List.set_cons_succ])
          refine wpAnyH_ready (rs := [16]) (by kernel_rfl) (by simp) ?_
          refine AllReadyH.cons rfl (fun K hK => ?_) ?_
          · first | (refine step_copy (w := w) (W := Wa) (by rfl) (.tmp 30) (.tmp 37) (by rfl) (by rfl) A N cp w.heap.size (by rfl) (by rfl) HE.out.1 (Nat.le_refl _) HW.out.2.1 k.l HKN.out (HIA.out _ HW.out.2.1) (by omega) ?_; intro g4 cap4 w4 h41 h42 h43; have H4 := Lib.hid (And.intro h41 (And.intro h42 h43)); have z7 := HC7.out _ h41.2; clear h41 h42 h43) | (refine step_copy (w := w) (W := Wb) (by rfl) (.tmp 30) (.tmp 37) (by rfl) (by rfl) A N cp w.heap.size (by rfl) (by rfl) HE.out.2.1 (Nat.le_refl _) HW.out.2.2.1 k.l HKN.out (HIA.out _ HW.out.2.2.1) (by omega) ?_; intro g4 cap4 w4 h41 h42 h43; have H4 := Lib.hid (And.intro h41 (And.intro h42 h43)); have z7 := HC7.out _ h41.2; clear h41 h42 h43) | (refine step_copy (w := w) (W := Wd) (by rfl) (.tmp 30) (.tmp 37) (by rfl) (by rfl) A N cp Wc.heap.size (by rfl) (by rfl) HE.out.2.2 HW.out.2.2.2.1.size HW.out.2.2.2.2 k.l HKN.out (HIA.out _ HW.out.2.2.2.2) (by omega) ?_; intro g4 cap4 w4 h41 h42 h43; have H4 := Lib.hid (And.intro h41 (And.intro h42 h43)); have z7 := HC7.out _ h41.2; clear h41 h42 h43) | (refine step_one (w := w) (W := w4.alloc (.cells #[.int .i64 a] 3)) (by rfl) (.tmp 38) (.tmp 40) (by rfl) (by rfl) g4 N cap4 w4.heap.size (by rfl) (by rfl) k.l (H4.out.1.alloc _) a (HOA.out w4) (by omega) ?_; intro g5 cap5 w5 h5; have H5 := Lib.hid h5; have z2 := HC2.out _ h5.2; have z8 := HC7.out _ h5.2; have f8 := HF.out _ h5.2; clear h5) | (refine step_one (w := w) (W := w4) (by rfl) (.tmp 38) (.tmp 40) (by rfl) (by rfl) g4 N cap4 Wa.heap.size (by rfl) (by rfl) k.l H4.out.1 a (HOB.out _ H4.out.2.1) (by omega) ?_; intro g5 cap5 w5 h5; have H5 := Lib.hid h5; have z2 := HC2.out _ h5.2; have z8 := HC7.out _ h5.2; have f8 := HF.out _ h5.2; clear h5) | (refine step_one (w := w) (W := w4) (by rfl) (.tmp 38) (.tmp 40) (by rfl) (by rfl) g4 N cap4 w.heap.size (by rfl) (by rfl) k.l H4.out.1 a (HOD.out _ H4.out.2.1) (by omega) ?_; intro g5 cap5 w5 h5; have H5 := Lib.hid h5; have z2 := HC2.out _ h5.2; have z8 := HC7.out _ h5.2; have f8 := HF.out _ h5.2; clear h5)
            refine hK.out _ _ ?_ ?_
            · ((try dsimp only); first | exact HC2.out _ HW.out.1 | exact HC2.out _ HW.out.2.1 | exact HC2.out _ HW.out.2.2.1 | exact HC2.out _ HW.out.2.2.2.1 | exact HC2.out _ HW.out.2.2.2.2 | exact HC2.out _ H4.out.1.2 | exact HC2.out _ (H4.out.1.alloc _).2 | exact HC2.out _ H5.out.2 | exact HK2.out _ _ (HC2.out _ H5.out.2))
            clear hK K hHeld
            intro hHeld
            (try simp only [Act.put, List.setIfInBounds_toArray, List.set_cons_zero, List.set_cons_succ])
            refine wpAnyH_take (i := 17) (v := ?_) rfl (by kernel_rfl) (by kernel_rfl) (by kernel_rfl) (fun _ _ _ h => h) (Or.inl ⟨by rfl, ?_⟩) (by assumption) ?_
            rotate_left
            · (intro W hSW; (try dsimp only at hSW); go_simp; try with_reducible rfl)
            (try simp only [Act.put, List.setIfInBounds_toArray, List.set_cons_zero, List.set_cons_succ])
            refine wpAnyH_ready (rs := [18]) (by kernel_rfl) (by simp) ?_
            refine AllReadyH.cons rfl (fun K hK => ?_) ?_
            · go_simp
              refine hK.out _ _ ?_ ?_
              · ((try dsimp only); first | exact HC2.out _ HW.out.1 | exact HC2.out _ HW.out.2.1 | exact HC2.out _ HW.out.2.2.1 | exact HC2.out _ HW.out.2.2.2.1 | exact HC2.out _ HW.out.2.2.2.2 | exact HC2.out _ H4.out.1.2 | exact HC2.out _ (H4.out.1.alloc _).2 | exact HC2.out _ H5.out.2 | exact HK2.out _ _ (HC2.out _ H5.out.2))
              clear hK K hHeld
              intro hHeld
              (try simp only [Act.put, List.setIfInBounds_toArray, List.set_cons_zero, List.set_cons_succ])
              refine wpAnyH_done (by kernel_rfl) ?_ _
              refine NoPanic.normal ?_
              clear hHeld
              go_wp2
              obtain ⟨wa, hwa⟩ : ∃ wa, wa = w5.setCell ⟨l, x, none⟩ (.slice (some ⟨g5, 0, none⟩) (N + 1) cap5) := ⟨_, rfl⟩
              have e2 : wa.cell? ⟨B, 2, none⟩ = some (.slice (some ⟨l, 0, none⟩) L cl) := by rw [hwa]; exact HK2.out _ _ z2
              have e7 : wa.cell? ⟨l, x, none⟩ = some (.slice (some ⟨g5, 0, none⟩) (N + 1) cap5) := by rw [hwa]; exact World.cell?_setCell_same _ _ _ z8
              have e3 : wa.cell? ⟨B, 3, none⟩ = some (.slice (some ⟨i, 0, none⟩) L ci) := by rw [hwa]; exact (HFAR.out _ H5.out.2).1
              have e5 : wa.cell? ⟨i, x, none⟩ = some (.int .i64 lm) := by rw [hwa]; exact (HFAR.out _ H5.out.2).2.1
              have e0 : wa.cell? ⟨B, 0, none⟩ = some (.slice (some ⟨t, 0, none⟩) L ct) := by rw [hwa]; exact (HFAR.out _ H5.out.2).2.2.1
              have e6 : wa.cell? ⟨t, x * 3 + 2, none⟩ = some (.int .i64 bb) := by rw [hwa]; exact (HFAR.out _ H5.out.2).2.2.2
              have HWA := Lib.hid hwa
              rw [← hwa]
              clear hwa z2 z8 f8 z7 y1 y2 y3 y4 c3 c5 c7
              go_quiet (fail)
              have HCALL := Lib.hid (by have := HO.out w5 g5 cap5 nq H5.out; rw [← HWA.out] at this; exact this)
              go_wp2_with (go_at_call 70; refine HCALL.out.mono ?_; rintro e w7 ⟨A1, c9, rfl, hrest⟩; have HOLD := Lib.hid hrest; obtain ⟨y0, y3, y5, yt, yf, ycl⟩ := HC9.out _ _ _ _ ⟨A1, c9, rfl, hrest⟩; have YCL := Lib.hid ycl; clear hrest ycl)
              clear e2 e7 e3 e5 e0 e6 d3 d4 d5
              rcases Nat.lt_or_ge lm bb with hlb | hlb
              · have q1 : decide ((lm : Int) < (bb : Int)) = true := decide_eq_true (by omega)
                have q2 : decide (lm < bb) = true := decide_eq_true hlb
                obtain ⟨R, hR⟩ : ∃ R, lm + 1 = R := ⟨_, rfl⟩
                have HLB := Lib.hid hlb
                have HRR := Lib.hid hR
                have r1 : (lm : Int) + 1 = (R : Int) := by omega
                have hR64 : R ≤ 129 := by omega
                have WE := Lib.hid (w64 (R : Int) (by omega))
                clear hlb hR hR64
                go_quiet (fail)
                obtain ⟨we1, we2⟩ := WE.out
                go_wp2
                go_ret2
                clear we1 we2
                have ho := HOLD.out
                rw [HWA.out] at ho
                exact HE2.out w5 w7 _ g5 cap5 _ A1 c9 H5.out HLB.out ⟨A1, c9, rfl, ho⟩ (by rw [HRR.out]; exact (YCL.out.of_block (w' := w7.drewN _) rfl).set x _) (keep_set (F := fun g => g = i) (Keep.of (belowN (Below.refl _ _) _)) rfl _)
              · have q1 : decide ((lm : Int) < (bb : Int)) = false := decide_eq_false (by omega)
                have q2 : decide (lm < bb) = false := decide_eq_false (by omega)
                have HLB := Lib.hid hlb
                clear hlb
                go_quiet (fail)
                go_wp2
                go_ret2
                have ho := HOLD.out
                rw [HWA.out] at ho
                exact HE1.out w5 w7 g5 cap5 _ _ A1 c9 H5.out HLB.out ⟨A1, c9, rfl, ho⟩
            exact AllReadyH.nil
          exact AllReadyH.nil
        exact AllReadyH.nil
      exact AllReadyH.nil
    refine AllReadyH.cons rfl (fun K hK => ?_) ?_
    · go_simp
      refine hK.out _ _ ?_ ?_
      · ((try dsimp only); first | exact HC2.out _ HW.out.1 | exact HC2.out _ HW.out.2.1 | exact HC2.out _ HW.out.2.2.1 | exact HC2.out _ HW.out.2.2.2.1 | exact HC2.out _ HW.out.2.2.2.2 | exact HC2.out _ H4.out.1.2 | exact HC2.out _ (H4.out.1.alloc _).2 | exact HC2.out _ H5.out.2 | exact HK2.out _ _ (HC2.out _ H5.out.2))
      clear hK K hHeld
      intro hHeld
      (try simp only [Act.put, List.setIfInBounds_toArray, List.set_cons_zero, List.set_cons_succ])
      refine wpAnyH_ready (rs := [5]) (by kernel_rfl) (by simp) ?_
      refine AllReadyH.cons rfl (fun K hK => ?_) ?_
      · go_simp
        refine hK.out _ _ ?_ ?_
        · ((try dsimp only); first | exact HC2.out _ HW.out.1 | exact HC2.out _ HW.out.2.1 | exact HC2.out _ HW.out.2.2.1 | exact HC2.out _ HW.out.2.2.2.1 | exact HC2.out _ HW.out.2.2.2.2 | exact HC2.out _ H4.out.1.2 | exact HC2.out _ (H4.out.1.alloc _).2 | exact HC2.out _ H5.out.2 | exact HK2.out _ _ (HC2.out _ H5.out.2))
        clear hK K hHeld
        intro hHeld
        (try simp only [Act.put, List.setIfInBounds_toArray, List.set_cons_zero, List.set_cons_succ])
        refine wpAnyH_ready (rs := [13]) (by kernel_rfl) (by simp) ?_
        refine AllReadyH.cons rfl (fun K hK => ?_) ?_
        · first | (refine step_copy (w := w) (W := Wa) (by rfl) (.tmp 30) (.tmp 37) (by rfl) (by rfl) A N cp w.heap.size (by rfl) (by rfl) HE.out.1 (Nat.le_refl _) HW.out.2.1 k.l HKN.out (HIA.out _ HW.out.2.1) (by omega) ?_; intro g4 cap4 w4 h41 h42 h43; have H4 := Lib.hid (And.intro h41 (And.intro h42 h43)); have z7 := HC7.out _ h41.2; clear h41 h42 h43) | (refine step_copy (w := w) (W := Wb) (by rfl) (.tmp 30) (.tmp 37) (by rfl) (by rfl) A N cp w.heap.size (by rfl) (by rfl) HE.out.2.1 (Nat.le_refl _) HW.out.2.2.1 k.l HKN.out (HIA.out _ HW.out.2.2.1) (by omega) ?_; intro g4 cap4 w4 h41 h42 h43; have H4 := Lib.hid (And.intro h41 (And.intro h42 h43)); have z7 := HC7.out _ h41.2; clear h41 h42 h43) | (refine step_copy (w := w) (W := Wd) (by rfl) (.tmp 30) (.tmp 37) (by rfl) (by rfl) A N cp Wc.heap.size (by rfl) (by rfl) HE.out.2.2 HW.out.2.2.2.1.size HW.out.2.2.2.2 k.l HKN.out (HIA.out _ HW.out.2.2.2.2) (by omega) ?_; intro g4 cap4 w4 h41 h42 h43; have H4 := Lib.hid (And.intro h41 (And.intro h42 h43)); have z7 := HC7.out _ h41.2; clear h41 h42 h43) | (refine step_one (w := w) (W := w4.alloc (.cells #[.int .i64 a] 3)) (by rfl) (.tmp 38) (.tmp 40) (by rfl) (by rfl) g4 N cap4 w4.heap.size (by rfl) (by rfl) k.l (H4.out.1.alloc _) a (HOA.out w4) (by omega) ?_; intro g5 cap5 w5 h5; have H5 := Lib.hid h5; have z2 := HC2.out _ h5.2; have z8 := HC7.out _ h5.2; have f8 := HF.out _ h5.2; clear h5) | (refine step_one (w := w) (W := w4) (by rfl) (.tmp 38) (.tmp 40) (by rfl) (by rfl) g4 N cap4 Wa.heap.size (by rfl) (by rfl) k.l H4.out.1 a (HOB.out _ H4.out.2.1) (by omega) ?_; intro g5 cap5 w5 h5; have H5 := Lib.hid h5; have z2 := HC2.out _ h5.2; have z8 := HC7.out _ h5.2; have f8 := HF.out _ h5.2; clear h5) | (refine step_one (w := w) (W := w4) (by rfl) (.tmp 38) (.tmp 40) (by rfl) (by rfl) g4 N cap4 w.heap.size (by rfl) (by rfl) k.l H4.out.1 a (HOD.out _ H4.out.2.1) (by omega) ?_; intro g5 cap5 w5 h5; have H5 := Lib.hid h5; have z2 := HC2.out _ h5.2; have z8 := HC7.out _ h5.2; have f8 := HF.out _ h5.2; clear h5)
          refine hK.out _ _ ?_ ?_
          · ((try dsimp only); first | exact HC2.out _ HW.out.1 | exact HC2.out _ HW.out.2.1 | exact HC2.out _ HW.out.2.2.1 | exact HC2.out _ HW.out.2.2.2.1 | exact HC2.out _ HW.out.2.2.2.2 | exact HC2.out _ H4.out.1.2 | exact HC2.out _ (H4.out.1.alloc _).2 | exact HC2.out _ H5.out.2 | exact HK2.out _ _ (HC2.out _ H5.out.2))
          clear hK K hHeld
          intro hHeld
          (try simp only [Act.put, List.setIfInBounds_toArray, List.set_cons_zero, List.set_cons_succ])
          refine wpAnyH_ready (rs := [16]) (by kernel_rfl) (by simp) ?_
          refine AllReadyH.cons rfl (fun K hK => ?_) ?_
          · first | (refine step_copy (w := w) (W := Wa) (by rfl) (.tmp 30) (.tmp 37) (by rfl) (by rfl) A N cp w.heap.size (by rfl) (by rfl) HE.out.1 (Nat.le_refl _) HW.out.2.1 k.l HKN.out (HIA.out _ HW.out.2.1) (by omega) ?_; intro g4 cap4 w4 h41 h42 h43; have H4 := Lib.hid (And.intro h41 (And.intro h42 h43)); have z7 := HC7.out _ h41.2; clear h41 h42 h43) | (refine step_copy (w := w) (W := Wb) (by rfl) (.tmp 30) (.tmp 37) (by rfl) (by rfl) A N cp w.heap.size (by rfl) (by rfl) HE.out.2.1 (Nat.le_refl _) HW.out.2.2.1 k.l HKN.out (HIA.out _ HW.out.2.2.1) (by omega) ?_; intro g4 cap4 w4 h41 h42 h43; have H4 := Lib.hid (And.intro h41 (And.intro h42 h43)); have z7 := HC7.out _ h41.2; clear h41 h42 h43) | (refine step_copy (w := w) (W := Wd) (by rfl) (.tmp 30) (.tmp 37) (by rfl) (by rfl) A N cp Wc.heap.size (by rfl) (by rfl) HE.out.2.2 HW.out.2.2.2.1.size HW.out.2.2.2.2 k.l HKN.out (HIA.out _ HW.out.2.2.2.2) (by omega) ?_; intro g4 cap4 w4 h41 h42 h43; have H4 := Lib.hid (And.intro h41 (And.intro h42 h43)); have z7 := HC7.out _ h41.2; clear h41 h42 h43) | (refine step_one (w := w) (W := w4.alloc (.cells #[.int .i64 a] 3)) (by rfl) (.tmp 38) (.tmp 40) (by rfl) (by rfl) g4 N cap4 w4.heap.size (by rfl) (by rfl) k.l (H4.out.1.alloc _) a (HOA.out w4) (by omega) ?_; intro g5 cap5 w5 h5; have H5 := Lib.hid h5; have z2 := HC2.out _ h5.2; have z8 := HC7.out _ h5.2; have f8 := HF.out _ h5.2; clear h5) | (refine step_one (w := w) (W := w4) (by rfl) (.tmp 38) (.tmp 40) (by rfl) (by rfl) g4 N cap4 Wa.heap.size (by rfl) (by rfl) k.l H4.out.1 a (HOB.out _ H4.out.2.1) (by omega) ?_; intro g5 cap5 w5 h5; have H5 := Lib.hid h5; have z2 := HC2.out _ h5.2; have z8 := HC7.out _ h5.2; have f8 := HF.out _ h5.2; clear h5) | (refine step_one (w := w) (W := w4) (by rfl) (.tmp 38) (.tmp 40) (by rfl) (by rfl) g4 N cap4 w.heap.size (by rfl) (by rfl) k.l H4.out.1 a (HOD.out _ H4.out.2.1) (by omega) ?_; intro g5 cap5 w5 h5; have H5 := Lib.hid h5; have z2 := HC2.out _ h5.2; have z8 := HC7.out _ h5.2; have f8 := HF.out _ h5.2; clear h5)
            refine hK.out _ _ ?_ ?_
            · ((try dsimp only); first | exact HC2.out _ HW.out.1 | exact HC2.out _ HW.out.2.1 | exact HC2.out _ HW.out.2.2.1 | exact HC2.out _ HW.out.2.2.2.1 | exact HC2.out _ HW.out.2.2.2.2 | exact HC2.out _ H4.out.1.2 | exact HC2.out _ (H4.out.1.alloc _).2 | exact HC2.out _ H5.out.2 | exact HK2.out _ _ (HC2.out _ H5.out.2))
            clear hK K hHeld
            intro hHeld
            (try simp only [Act.put, List.setIfInBounds_toArray, List.set_cons_zero, List.set_cons_succ])
            refine wpAnyH_take (i := 17) (v := ?_) rfl (by kernel_rfl) (by kernel_rfl) (by kernel_rfl) (fun _ _ _ h => h) (Or.inl ⟨by rfl, ?_⟩) (by assumption) ?_
            rotate_left
            · (intro W hSW; (try dsimp only at hSW); go_simp; try with_reducible rfl)
            (try simp only [Act.put, List.setIfInBounds_toArray, List.set_cons_zero, List.set_cons_succ])
            refine wpAnyH_ready (rs := [18]) (by kernel_rfl) (by simp) ?_
            refine AllReadyH.cons rfl (fun K hK => ?_) ?_
            · go_simp
              refine hK.out _ _ ?_ ?_
              · ((try dsimp only); first | exact HC2.out _ HW.out.1 | exact HC2.out _ HW.out.2.1 | exact HC2.out _ HW.out.2.2.1 | exact HC2.out _ HW.out.2.2.2.1 | exact HC2.out _ HW.out.2.2.2.2 | exact HC2.out _ H4.out.1.2 | exact HC2.out _ (H4.out.1.alloc _).2 | exact HC2.out _ H5.out.2 | exact HK2.out _ _ (HC2.out _ H5.out.2))
              clear hK K hHeld
              intro hHeld
              (try simp only [Act.put, List.setIfInBounds_toArray, List.set_cons_zero, List.set_cons_succ])
              refine wpAnyH_done (by kernel_rfl) ?_ _
              refine NoPanic.normal ?_
              clear hHeld
              go_wp2
              obtain ⟨wa, hwa⟩ : ∃ wa, wa = w5.setCell ⟨l, x, none⟩ (.slice (some ⟨g5, 0, none⟩) (N + 1) cap5) := ⟨_, rfl⟩
              have e2 : wa.cell? ⟨B, 2, none⟩ = some (.slice (some ⟨l, 0, none⟩) L cl) := by rw [hwa]; exact HK2.out _ _ z2
              have e7 : wa.cell? ⟨l, x, none⟩ = some (.slice (some ⟨g5, 0, none⟩) (N + 1) cap5) := by rw [hwa]; exact World.cell?_setCell_same _ _ _ z8
              have e3 : wa.cell? ⟨B, 3, none⟩ = some (.slice (some ⟨i, 0, none⟩) L ci) := by rw [hwa]; exact (HFAR.out _ H5.out.2).1
              have e5 : wa.cell? ⟨i, x, none⟩ = some (.int .i64 lm) := by rw [hwa]; exact (HFAR.out _ H5.out.2).2.1
              have e0 : wa.cell? ⟨B, 0, none⟩ = some (.slice (some ⟨t, 0, none⟩) L ct) := by rw [hwa]; exact (HFAR.out _ H5.out.2).2.2.1
              have e6 : wa.cell? ⟨t, x * 3 + 2, none⟩ = some (.int .i64 bb) := by rw [hwa]; exact (HFAR.out _ H5.out.2).2.2.2
              have HWA := Lib.hid hwa
              rw [← hwa]
              clear hwa z2 z8 f8 z7 y1 y2 y3 y4 c3 c5 c7
              go_quiet (fail)
              have HCALL := Lib.hid (by have := HO.out w5 g5 cap5 nq H5.out; rw [← HWA.out] at this; exact this)
              go_wp2_with (go_at_call 70; refine HCALL.out.mono ?_; rintro e w7 ⟨A1, c9, rfl, hrest⟩; have HOLD := Lib.hid hrest; obtain ⟨y0, y3, y5, yt, yf, ycl⟩ := HC9.out _ _ _ _ ⟨A1, c9, rfl, hrest⟩; have YCL := Lib.hid ycl; clear hrest ycl)
              clear e2 e7 e3 e5 e0 e6 d3 d4 d5
              rcases Nat.lt_or_ge lm bb with hlb | hlb
              · have q1 : decide ((lm : Int) < (bb : Int)) = true := decide_eq_true (by omega)
                have q2 : decide (lm < bb) = true := decide_eq_true hlb
                obtain ⟨R, hR⟩ : ∃ R, lm + 1 = R := ⟨_, rfl⟩
                have HLB := Lib.hid hlb
                have HRR := Lib.hid hR
                have r1 : (lm : Int) + 1 = (R : Int) := by omega
                have hR64 : R ≤ 129 := by omega
                have WE := Lib.hid (w64 (R : Int) (by omega))
                clear hlb hR hR64
                go_quiet (fail)
                obtain ⟨we1, we2⟩ := WE.out
                go_wp2
                go_ret2
                clear we1 we2
                have ho := HOLD.out
                rw [HWA.out] at ho
                exact HE2.out w5 w7 _ g5 cap5 _ A1 c9 H5.out HLB.out ⟨A1, c9, rfl, ho⟩ (by rw [HRR.out]; exact (YCL.out.of_block (w' := w7.drewN _) rfl).set x _) (keep_set (F := fun g => g = i) (Keep.of (belowN (Below.refl _ _) _)) rfl _)
              · have q1 : decide ((lm : Int) < (bb : Int)) = false := decide_eq_false (by omega)
                have q2 : decide (lm < bb) = false := decide_eq_false (by omega)
                have HLB := Lib.hid hlb
                clear hlb
                go_quiet (fail)
                go_wp2
                go_ret2
                have ho := HOLD.out
                rw [HWA.out] at ho
                exact HE1.out w5 w7 g5 cap5 _ _ A1 c9 H5.out HLB.out ⟨A1, c9, rfl, ho⟩
            exact AllReadyH.nil
          exact AllReadyH.nil
        exact AllReadyH.nil
      exact AllReadyH.nil
    exact AllReadyH.nil
  refine AllReadyH.cons rfl (fun K hK => ?_) ?_
  · go_simp
    refine hK.out _ _ ?_ ?_
    · ((try dsimp only); first | exact HC2.out _ HW.out.1 | exact HC2.out _ HW.out.2.1 | exact HC2.out _ HW.out.2.2.1 | exact HC2.out _ HW.out.2.2.2.1 | exact HC2.out _ HW.out.2.2.2.2 | exact HC2.out _ H4.out.1.2 | exact HC2.out _ (H4.out.1.alloc _).2 | exact HC2.out _ H5.out.2 | exact HK2.out _ _ (HC2.out _ H5.out.2))
    clear hK K hHeld
    intro hHeld
    (try simp only [Act.put, List.setIfInBounds_toArray, List.set_cons_zero, List.set_cons_succ])
    refine wpAnyH_ready (rs := [5, 12]) (by kernel_rfl) (by simp) ?_
    refine AllReadyH.cons rfl (fun K hK => ?_) ?_
    · go_simp
      refine hK.out _ _ ?_ ?_
      · ((try dsimp only); first | exact HC2.out _ HW.out.1 | exact HC2.out _ HW.out.2.1 | exact HC2.out _ HW.out.2.2.1 | exact HC2.out _ HW.out.2.2.2.1 | exact HC2.out _ HW.out.2.2.2.2 | exact HC2.out _ H4.out.1.2 | exact HC2.out _ (H4.out.1.alloc _).2 | exact HC2.out _ H5.out.2 | exact HK2.out _ _ (HC2.out _ H5.out.2))
      clear hK K hHeld
      intro hHeld
      (try simp only [Act.put, List.setIfInBounds_toArray, List.set_cons_zero, List.set_cons_succ])
      refine wpAnyH_ready (rs := [12]) (by kernel_rfl) (by simp) ?_
      refine AllReadyH.cons rfl (fun K hK => ?_) ?_
      · go_simp
        refine hK.out _ _ ?_ ?_
        · ((try dsimp only); first | exact HC2.out _ HW.out.1 | exact HC2.out _ HW.out.2.1 | exact HC2.out _ HW.out.2.2.1 | exact HC2.out _ HW.out.2.2.2.1 | exact HC2.out _ HW.out.2.2.2.2 | exact HC2.out _ H4.out.1.2 | exact HC2.out _ (H4.out.1.alloc _).2 | exact HC2.out _ H5.out.2 | exact HK2.out _ _ (HC2.out _ H5.out.2))
        clear hK K hHeld
        intro hHeld
        (try simp only [Act.put, List.setIfInBounds_toArray, List.set_cons_zero, List.set_cons_succ])
        refine wpAnyH_ready (rs := [13]) (by kernel_rfl) (by simp) ?_
        refine AllReadyH.cons rfl (fun K hK => ?_) ?_
        · first | (refine step_copy (w := w) (W := Wa) (by rfl) (.tmp 30) (.tmp 37) (by rfl) (by rfl) A N cp w.heap.size (by rfl) (by rfl) HE.out.1 (Nat.le_refl _) HW.out.2.1 k.l HKN.out (HIA.out _ HW.out.2.1) (by omega) ?_; intro g4 cap4 w4 h41 h42 h43; have H4 := Lib.hid (And.intro h41 (And.intro h42 h43)); have z7 := HC7.out _ h41.2; clear h41 h42 h43) | (refine step_copy (w := w) (W := Wb) (by rfl) (.tmp 30) (.tmp 37) (by rfl) (by rfl) A N cp w.heap.size (by rfl) (by rfl) HE.out.2.1 (Nat.le_refl _) HW.out.2.2.1 k.l HKN.out (HIA.out _ HW.out.2.2.1) (by omega) ?_; intro g4 cap4 w4 h41 h42 h43; have H4 := Lib.hid (And.intro h41 (And.intro h42 h43)); have z7 := HC7.out _ h41.2; clear h41 h42 h43) | (refine step_copy (w := w) (W := Wd) (by rfl) (.tmp 30) (.tmp 37) (by rfl) (by rfl) A N cp Wc.heap.size (by rfl) (by rfl) HE.out.2.2 HW.out.2.2.2.1.size HW.out.2.2.2.2 k.l HKN.out (HIA.out _ HW.out.2.2.2.2) (by omega) ?_; intro g4 cap4 w4 h41 h42 h43; have H4 := Lib.hid (And.intro h41 (And.intro h42 h43)); have z7 := HC7.out _ h41.2; clear h41 h42 h43) | (refine step_one (w := w) (W := w4.alloc (.cells #[.int .i64 a] 3)) (by rfl) (.tmp 38) (.tmp 40) (by rfl) (by rfl) g4 N cap4 w4.heap.size (by rfl) (by rfl) k.l (H4.out.1.alloc _) a (HOA.out w4) (by omega) ?_; intro g5 cap5 w5 h5; have H5 := Lib.hid h5; have z2 := HC2.out _ h5.2; have z8 := HC7.out _ h5.2; have f8 := HF.out _ h5.2; clear h5) | (refine step_one (w := w) (W := w4) (by rfl) (.tmp 38) (.tmp 40) (by rfl) (by rfl) g4 N cap4 Wa.heap.size (by rfl) (by rfl) k.l H4.out.1 a (HOB.out _ H4.out.2.1) (by omega) ?_; intro g5 cap5 w5 h5; have H5 := Lib.hid h5; have z2 := HC2.out _ h5.2; have z8 := HC7.out _ h5.2; have f8 := HF.out _ h5.2; clear h5) | (refine step_one (w := w) (W := w4) (by rfl) (.tmp 38) (.tmp 40) (by rfl) (by rfl) g4 N cap4 w.heap.size (by rfl) (by rfl) k.l H4.out.1 a (HOD.out _ H4.out.2.1) (by omega) ?_; intro g5 cap5 w5 h5; have H5 := Lib.hid h5; have z2 := HC2.out _ h5.2; have z8 := HC7.out _ h5.2; have f8 := HF.out _ h5.2; clear h5)
          refine hK.out _ _ ?_ ?_
          · ((try dsimp only); first | exact HC2.out _ HW.out.1 | exact HC2.out _ HW.out.2.1 | exact HC2.out _ HW.out.2.2.1 | exact HC2.out _ HW.out.2.2.2.1 | exact HC2.out _ HW.out.2.2.2.2 | exact HC2.out _ H4.out.1.2 | exact HC2.out _ (H4.out.1.alloc _).2 | exact HC2.out _ H5.out.2 | exact HK2.out _ _ (HC2.out _ H5.out.2))
          clear hK K hHeld
          intro hHeld
          (try simp only [Act.put, List.setIfInBounds_toArray, List.set_cons_zero, List.set_cons_succ])
          refine wpAnyH_ready (rs := [16]) (by kernel_rfl) (by simp) ?_
          refine AllReadyH.cons rfl (fun K hK => ?_) ?_
          · first | (refine step_copy (w := w) (W := Wa) (by rfl) (.tmp 30) (.tmp 37) (by rfl) (by rfl) A N cp w.heap.size (by rfl) (by rfl) HE.out.1 (Nat.le_refl _) HW.out.2.1 k.l HKN.out (HIA.out _ HW.out.2.1) (by omega) ?_; intro g4 cap4 w4 h41 h42 h43; have H4 := Lib.hid (And.intro h41 (And.intro h42 h43)); have z7 := HC7.out _ h41.2; clear h41 h42 h43) | (refine step_copy (w := w) (W := Wb) (by rfl) (.tmp 30) (.tmp 37) (by rfl) (by rfl) A N cp w.heap.size (by rfl) (by rfl) HE.out.2.1 (Nat.le_refl _) HW.out.2.2.1 k.l HKN.out (HIA.out _ HW.out.2.2.1) (by omega) ?_; intro g4 cap4 w4 h41 h42 h43; have H4 := Lib.hid (And.intro h41 (And.intro h42 h43)); have z7 := HC7.out _ h41.2; clear h41 h42 h43) | (refine step_copy (w := w) (W := Wd) (by rfl) (.tmp 30) (.tmp 37) (by rfl) (by rfl) A N cp Wc.heap.size (by rfl) (by rfl) HE.out.2.2 HW.out.2.2.2.1.size HW.out.2.2.2.2 k.l HKN.out (HIA.out _ HW.out.2.2.2.2) (by omega) ?_; intro g4 cap4 w4 h41 h42 h43; have H4 := Lib.hid (And.intro h41 (And.intro h42 h43)); have z7 := HC7.out _ h41.2; clear h41 h42 h43) | (refine step_one (w := w) (W := w4.alloc (.cells #[.int .i64 a] 3)) (by rfl) (.tmp 38) (.tmp 40) (by rfl) (by rfl) g4 N cap4 w4.heap.size (by rfl) (by rfl) k.l (H4.out.1.alloc _) a (HOA.out w4) (by omega) ?_; intro g5 cap5 w5 h5; have H5 := Lib.hid h5; have z2 := HC2.out _ h5.2; have z8 := HC7.out _ h5.2; have f8 := HF.out _ h5.2; clear h5) | (refine step_one (w := w) (W := w4) (by rfl) (.tmp 38) (.tmp 40) (by rfl) (by rfl) g4 N cap4 Wa.heap.size (by rfl) (by rfl) k.l H4.out.1 a (HOB.out _ H4.out.2.1) (by omega) ?_; intro g5 cap5 w5 h5; have H5 := Lib.hid h5; have z2 := HC2.out _ h5.2; have z8 := HC7.out _ h5.2; have f8 := HF.out _ h5.2; clear h5) | (refine step_one (w := w) (W := w4) (by rfl) (.tmp 38) (.tmp 40) (by rfl) (by rfl) g4 N cap4 w.heap.size (by rfl) (by rfl) k.l H4.out.1 a (HOD.out _ H4.out.2.1) (by omega) ?_; intro g5 cap5 w5 h5; have H5 := Lib.hid h5; have z2 := HC2.out _ h5.2; have z8 := HC7.out _ h5.2; have f8 := HF.out _ h5.2; clear h5)
            refine hK.out _ _ ?_ ?_
            · ((try dsimp only); first | exact HC2.out _ HW.out.1 | exact HC2.out _ HW.out.2.1 | exact HC2.out _ HW.out.2.2.1 | exact HC2.out _ HW.out.2.2.2.1 | exact HC2.out _ HW.out.2.2.2.2 | exact HC2.out _ H4.out.1.2 | exact HC2.out _ (H4.out.1.alloc _).2 | exact HC2.out _ H5.out.2 | exact HK2.out _ _ (HC2.out _ H5.out.2))
            clear hK K hHeld
            intro hHeld
            (try simp only [Act.put, List.setIfInBounds_toArray, List.set_cons_zero, List.set_cons_succ])
            refine wpAnyH_take (i := 17) (v := ?_) rfl (by kernel_rfl) (by kernel_rfl) (by kernel_rfl) (fun _ _ _ h => h) (Or.inl ⟨by rfl, ?_⟩) (by assumption) ?_
            rotate_left
            · (intro W hSW; (try dsimp only at hSW); go_simp; try with_reducible rfl)
            (try simp only [Act.put, List.setIfInBounds_toArray, List.set_cons_zero, List.set_cons_succ])
            refine wpAnyH_ready (rs := [18]) (by kernel_rfl) (by simp) ?_
            refine AllReadyH.cons rfl (fun K hK => ?_) ?_
            · go_simp
              refine hK.out _ _ ?_ ?_
              · ((try dsimp only); first | exact HC2.out _ HW.out.1 | exact HC2.out _ HW.out.2.1 | exact HC2.out _ HW.out.2.2.1 | exact HC2.out _ HW.out.2.2.2.1 | exact HC2.out _ HW.out.2.2.2.2 | exact HC2.out _ H4.out.1.2 | exact HC2.out _ (H4.out.1.alloc _).2 | exact HC2.out _ H5.out.2 | exact HK2.out _ _ (HC2.out _ H5.out.2))
              clear hK K hHeld
              intro hHeld
              (try simp only [Act.put, List.setIfInBounds_toArray, List.set_cons_zero, List.set_cons_succ])
              refine wpAnyH_done (by kernel_rfl) ?_ _
              refine NoPanic.normal ?_
              clear hHeld
              go_wp2
              obtain ⟨wa, hwa⟩ : ∃ wa, wa = w5.setCell ⟨l, x, none⟩ (.slice (some ⟨g5, 0, none⟩) (N + 1) cap5) := ⟨_, rfl⟩
              have e2 : wa.cell? ⟨B, 2, none⟩ = some (.slice (some ⟨l, 0, none⟩) L cl) := by rw [hwa]; exact HK2.out _ _ z2
              have e7 : wa.cell? ⟨l, x, none⟩ = some (.slice (some ⟨g5, 0, none⟩) (N + 1) cap5) := by rw [hwa]; exact World.cell?_setCell_same _ _ _ z8
              have e3 : wa.cell? ⟨B, 3, none⟩ = some (.slice (some ⟨i, 0, none⟩) L ci) := by rw [hwa]; exact (HFAR.out _ H5.out.2).1
              have e5 : wa.cell? ⟨i, x, none⟩ = some (.int .i64 lm) := by rw [hwa]; exact (HFAR.out _ H5.out.2).2.1
              have e0 : wa.cell? ⟨B, 0, none⟩ = some (.slice (some ⟨t, 0, none⟩) L ct) := by rw [hwa]; exact (HFAR.out _ H5.out.2).2.2.1
              have e6 : wa.cell? ⟨t, x * 3 + 2, none⟩ = some (.int .i64 bb) := by rw [hwa]; exact (HFAR.out _ H5.out.2).2.2.2
              have HWA := Lib.hid hwa
              rw [← hwa]
              clear hwa z2 z8 f8 z7 y1 y2 y3 y4 c3 c5 c7
              go_quiet (fail)
              have HCALL := Lib.hid (by have := HO.out w5 g5 cap5 nq H5.out; rw [← HWA.out] at this; exact this)
              go_wp2_with (go_at_call 70; refine HCALL.out.mono ?_; rintro e w7 ⟨A1, c9, rfl, hrest⟩; have HOLD := Lib.hid hrest; obtain ⟨y0, y3, y5, yt, yf, ycl⟩ := HC9.out _ _ _ _ ⟨A1, c9, rfl, hrest⟩; have YCL := Lib.hid ycl; clear hrest ycl)
              clear e2 e7 e3 e5 e0 e6 d3 d4 d5
              rcases Nat.lt_or_ge lm bb with hlb | hlb
              · have q1 : decide ((lm : Int) < (bb : Int)) = true := decide_eq_true (by omega)
                have q2 : decide (lm < bb) = true := decide_eq_true hlb
                obtain ⟨R, hR⟩ : ∃ R, lm + 1 = R := ⟨_, rfl⟩
                have HLB := Lib.hid hlb
                have HRR := Lib.hid hR
                have r1 : (lm : Int) + 1 = (R : Int) := by omega
                have hR64 : R ≤ 129 := by omega
                have WE := Lib.hid (w64 (R : Int) (by omega))
                clear hlb hR hR64
                go_quiet (fail)
                obtain ⟨we1, we2⟩ := WE.out
                go_wp2
                go_ret2
                clear we1 we2
                have ho := HOLD.out
                rw [HWA.out] at ho
                exact HE2.out w5 w7 _ g5 cap5 _ A1 c9 H5.out HLB.out ⟨A1, c9, rfl, ho⟩ (by rw [HRR.out]; exact (YCL.out.of_block (w' := w7.drewN _) rfl).set x _) (keep_set (F := fun g => g = i) (Keep.of (belowN (Below.refl _ _) _)) rfl _)
              · have q1 : decide ((lm : Int) < (bb : Int)) = false := decide_eq_false (by omega)
                have q2 : decide (lm < bb) = false := decide_eq_false (by omega)
                have HLB := Lib.hid hlb
                clear hlb
                go_quiet (fail)
                go_wp2
                go_ret2
                have ho := HOLD.out
                rw [HWA.out] at ho
                exact HE1.out w5 w7 g5 cap5 _ _ A1 c9 H5.out HLB.out ⟨A1, c9, rfl, ho⟩
            exact AllReadyH.nil
          exact AllReadyH.nil
        exact AllReadyH.nil
      exact AllReadyH.nil
    refine AllReadyH.cons rfl (fun K hK => ?_) ?_
    · go_simp
      refine hK.out _ _ ?_ ?_
      · ((try dsimp only); first | exact HC2.out _ HW.out.1 | exact HC2.out _ HW.out.2.1 | exact HC2.out _ HW.out.2.2.1 | exact HC2.out _ HW.out.2.2.2.1 | exact HC2.out _ HW.out.2.2.2.2 | exact HC2.out _ H4.out.1.2 | exact HC2.out _ (H4.out.1.alloc _).2 | exact HC2.out _ H5.out.2 | exact HK2.out _ _ (HC2.out _ H5.out.2))
      clear hK K hHeld
      intro hHeld
      (try simp only [Act.put, List.setIfInBounds_toArray, List.set_cons_zero, List.set_cons_succ])
      refine wpAnyH_ready (rs := [5]) (by kernel_rfl) (by simp) ?_
      refine AllReadyH.cons rfl (fun K hK => ?_) ?_
      · go_simp
        refine hK.out _ _ ?_ ?_
        · ((try dsimp only); first | exact HC2.out _ HW.out.1 | exact HC2.out _ HW.out.2.1 | exact HC2.out _ HW.out.2.2.1 | exact HC2.out _ HW.out.2.2.2.1 | exact HC2.out _ HW.out.2.2.2.2 | exact HC2.out _ H4.out.1.2 | exact HC2.out _ (H4.out.1.alloc _).2 | exact HC2.out _ H5.out.2 | exact HK2.out _ _ (HC2.out _ H5.out.2))
        clear hK K hHeld
        intro hHeld
        (try simp only [Act.put, List.setIfInBounds_toArray, List.set_cons_zero, List.set_cons_succ])
        refine wpAnyH_ready (rs := [13]) (by kernel_rfl) (by simp) ?_
        refine AllReadyH.cons rfl (fun K hK => ?_) ?_
        · first | (refine step_copy (w := w) (W := Wa) (by rfl) (.tmp 30) (.tmp 37) (by rfl) (by rfl) A N cp w.heap.size (by rfl) (by rfl) HE.out.1 (Nat.le_refl _) HW.out.2.1 k.l HKN.out (HIA.out _ HW.out.2.1) (by omega) ?_; intro g4 cap4 w4 h41 h42 h43; have H4 := Lib.hid (And.intro h41 (And.intro h42 h43)); have z7 := HC7.out _ h41.2; clear h41 h42 h43) | (refine step_copy (w := w) (W := Wb) (by rfl) (.tmp 30) (.tmp 37) (by rfl) (by rfl) A N cp w.heap.size (by rfl) (by rfl) HE.out.2.1 (Nat.le_refl _) HW.out.2.2.1 k.l HKN.out (HIA.out _ HW.out.2.2.1) (by omega) ?_; intro g4 cap4 w4 h41 h42 h43; have H4 := Lib.hid (And.intro h41 (And.intro h42 h43)); have z7 := HC7.out _ h41.2; clear h41 h42 h43) | (refine step_copy (w := w) (W := Wd) (by rfl) (.tmp 30) (.tmp 37) (by rfl) (by rfl) A N cp Wc.heap.size (by rfl) (by rfl) HE.out.2.2 HW.out.2.2.2.1.size HW.out.2.2.2.2 k.l HKN.out (HIA.out _ HW.out.2.2.2.2) (by omega) ?_; intro g4 cap4 w4 h41 h42 h43; have H4 := Lib.hid (And.intro h41 (And.intro h42 h43)); have z7 := HC7.out _ h41.2; clear h41 h42 h43) | (refine step_one (w := w) (W := w4.alloc (.cells #[.int .i64 a] 3)) (by rfl) (.tmp 38) (.tmp 40) (by rfl) (by rfl) g4 N cap4 w4.heap.size (by rfl) (by rfl) k.l (H4.out.1.alloc _) a (HOA.out w4) (by omega) ?_; intro g5 cap5 w5 h5; have H5 := Lib.hid h5; have z2 := HC2.out _ h5.2; have z8 := HC7.out _ h5.2; have f8 := HF.out _ h5.2; clear h5) | (refine step_one (w := w) (W := w4) (by rfl) (.tmp 38) (.tmp 40) (by rfl) (by rfl) g4 N cap4 Wa.heap.size (by rfl) (by rfl) k.l H4.out.1 a (HOB.out _ H4.out.2.1) (by omega) ?_; intro g5 cap5 w5 h5; have H5 := Lib.hid h5; have z2 := HC2.out _ h5.2; have z8 := HC7.out _ h5.2; have f8 := HF.out _ h5.2; clear h5) | (refine step_one (w := w) (W := w4) (by rfl) (.tmp 38) (.tmp 40) (by rfl) (by rfl) g4 N cap4 w.heap.size (by rfl) (by rfl) k.l H4.out.1 a (HOD.out _ H4.out.2.1) (by omega) ?_; intro g5 cap5 w5 h5; have H5 := Lib.hid h5; have z2 := HC2.out _ h5.2; have z8 := HC7.out _ h5.2; have f8 := HF.out _ h5.2; clear h5)
          refine hK.out _ _ ?_ ?_
          · ((try dsimp only); first | exact HC2.out _ HW.out.1 | exact HC2.out _ HW.out.2.1 | exact HC2.out _ HW.out.2.2.1 | exact HC2.out _ HW.out.2.2.2.1 | exact HC2.out _ HW.out.2.2.2.2 | exact HC2.out _ H4.out.1.2 | exact HC2.out _ (H4.out.1.alloc _).2 | exact HC2.out _ H5.out.2 | exact HK2.out _ _ (HC2.out _ H5.out.2))
          clear hK K hHeld
          intro hHeld
          (try simp only [Act.put, List.setIfInBounds_toArray, List.set_cons_zero, List.set_cons_succ])
          refine wpAnyH_ready (rs := [16]) (by kernel_rfl) (by simp) ?_
          refine AllReadyH.cons rfl (fun K hK => ?_) ?_
          · first | (refine step_copy (w := w) (W := Wa) (by rfl) (.tmp 30) (.tmp 37) (by rfl) (by rfl) A N cp w.heap.size (by rfl) (by rfl) HE.out.1 (Nat.le_refl _) HW.out.2.1 k.l HKN.out (HIA.out _ HW.out.2.1) (by omega) ?_; intro g4 cap4 w4 h41 h42 h43; have H4 := Lib.hid (And.intro h41 (And.intro h42 h43)); have z7 := HC7.out _ h41.2; clear h41 h42 h43) | (refine step_copy (w := w) (W := Wb) (by rfl) (.tmp 30) (.tmp 37) (by rfl) (by rfl) A N cp w.heap.size (by rfl) (by rfl) HE.out.2.1 (Nat.le_refl _) HW.out.2.2.1 k.l HKN.out (HIA.out _ HW.out.2.2.1) (by omega) ?_; intro g4 cap4 w4 h41 h42 h43; have H4 := Lib.hid (And.intro h41 (And.intro h42 h43)); have z7 := HC7.out _ h41.2; clear h41 h42 h43) | (refine step_copy (w := w) (W := Wd) (by rfl) (.tmp 30) (.tmp 37) (by rfl) (by rfl) A N cp Wc.heap.size (by rfl) (by rfl) HE.out.2.2 HW.out.2.2.2.1.size HW.out.2.2.2.2 k.l HKN.out (HIA.out _ HW.out.2.2.2.2) (by omega) ?_; intro g4 cap4 w4 h41 h42 h43; have H4 := Lib.hid (And.intro h41 (And.intro h42 h43)); have z7 := HC7.out _ h41.2; clear h41 h42 h43) | (refine step_one (w := w) (W := w4.alloc (.cells #[.int .i64 a] 3)) (by rfl) (.tmp 38) (.tmp 40) (by rfl) (by rfl) g4 N cap4 w4.heap.size (by rfl) (by rfl) k.l (H4.out.1.alloc _) a (HOA.out w4) (by omega) ?_; intro g5 cap5 w5 h5; have H5 := Lib.hid h5; have z2 := HC2.out _ h5.2; have z8 := HC7.out _ h5.2; have f8 := HF.out _ h5.2; clear h5) | (refine step_one (w := w) (W := w4) (by rfl) (.tmp 38) (.tmp 40) (by rfl) (by rfl) g4 N cap4 Wa.heap.size (by rfl) (by rfl) k.l H4.out.1 a (HOB.out _ H4.out.2.1) (by omega) ?_; intro g5 cap5 w5 h5; have H5 := Lib.hid h5; have z2 := HC2.out _ h5.2; have z8 := HC7.out _ h5.2; have f8 := HF.out _ h5.2; clear h5) | (refine step_one (w := w) (W := w4) (by rfl) (.tmp 38) (.tmp 40) (by rfl) (by rfl) g4 N cap4 w.heap.size (by rfl) (by rfl) k.l H4.out.1 a (HOD.out _ H4.out.2.1) (by omega) ?_; intro g5 cap5 w5 h5; have H5 := Lib.hid h5; have z2 := HC2.out _ h5.2; have z8 := HC7.out _ h5.2; have f8 := HF.out _ h5.2; clear h5)
            refine hK.out _ _ ?_ ?_
            · ((try dsimp only); first | exact HC2.out _ HW.out.1 | exact HC2.out _ HW.out.2.1 | exact HC2.out _ HW.out.2.2.1 | exact HC2.out _ HW.out.2.2.2.1 | exact HC2.out _ HW.out.2.2.2.2 | exact HC2.out _ H4.out.1.2 | exact HC2.out _ (H4.out.1.alloc _).2 | exact HC2.out _ H5.out.2 | exact HK2.out _ _ (HC2.out _ H5.out.2))
            clear hK K hHeld
            intro hHeld
            (try simp only [Act.put, List.setIfInBounds_toArray, List.set_cons_zero, List.set_cons_succ])
            refine wpAnyH_take (i := 17) (v := ?_) rfl (by kernel_rfl) (by kernel_rfl) (by kernel_rfl) (fun _ _ _ h => h) (Or.inl ⟨by rfl, ?_⟩) (by assumption) ?_
            rotate_left
            · (intro W hSW; (try dsimp only at hSW); go_simp; try with_reducible rfl)
            (try simp only [Act.put, List.setIfInBounds_toArray, List.set_cons_zero, List.set_cons_succ])
            refine wpAnyH_ready (rs := [18]) (by kernel_rfl) (by simp) ?_
            refine AllReadyH.cons rfl (fun K hK => ?_) ?_
            · go_simp
              refine hK.out _ _ ?_ ?_
              · ((try dsimp only); first | exact HC2.out _ HW.out.1 | exact HC2.out _ HW.out.2.1 | exact HC2.out _ HW.out.2.2.1 | exact HC2.out _ HW.out.2.2.2.1 | exact HC2.out _ HW.out.2.2.2.2 | exact HC2.out _ H4.out.1.2 | exact HC2.out _ (H4.out.1.alloc _).2 | exact HC2.out _ H5.out.2 | exact HK2.out _ _ (HC2.out _ H5.out.2))
              clear hK K hHeld
              intro hHeld
              (try simp only [Act.put, List.setIfInBounds_toArray, List.set_cons_zero, List.set_cons_succ])
              refine wpAnyH_done (by kernel_rfl) ?_ _
              refine NoPanic.normal ?_
              clear hHeld
              go_wp2
              obtain ⟨wa, hwa⟩ : ∃ wa, wa = w5.setCell ⟨l, x, none⟩ (.slice (some ⟨g5, 0, none⟩) (N + 1) cap5) := ⟨_, rfl⟩
              have e2 : wa.cell? ⟨B, 2, none⟩ = some (.slice (some ⟨l, 0, none⟩) L cl) := by rw [hwa]; exact HK2.out _ _ z2
              have e7 : wa.cell? ⟨l, x, none⟩ = some (.slice (some ⟨g5, 0, none⟩) (N + 1) cap5) := by rw [hwa]; exact World.cell?_setCell_same _ _ _ z8
              have e3 : wa.cell? ⟨B, 3, none⟩ = some (.slice (some ⟨i, 0, none⟩) L ci) := by rw [hwa]; exact (HFAR.out _ H5.out.2).1
              have e5 : wa.cell? ⟨i, x, none⟩ = some (.int .i64 lm) := by rw [hwa]; exact (HFAR.out _ H5.out.2).2.1
              have e0 : wa.cell? ⟨B, 0, none⟩ = some (.slice (some ⟨t, 0, none⟩) L ct) := by rw [hwa]; exact (HFAR.out _ H5.out.2).2.2.1
              have e6 : wa.cell? ⟨t, x * 3 + 2, none⟩ = some (.int .i64 bb) := by rw [hwa]; exact (HFAR.out _ H5.out.2).2.2.2
              have HWA := Lib.hid hwa
              rw [← hwa]
              clear hwa z2 z8 f8 z7 y1 y2 y3 y4 c3 c5 c7
              go_quiet (fail)
              have HCALL := Lib.hid (by have := HO.out w5 g5 cap5 nq H5.out; rw [← HWA.out] at this; exact this)
              go_wp2_with (go_at_call 70; refine HCALL.out.mono ?_; rintro e w7 ⟨A1, c9, rfl, hrest⟩; have HOLD := Lib.hid hrest; obtain ⟨y0, y3, y5, yt, yf, ycl⟩ := HC9.out _ _ _ _ ⟨A1, c9, rfl, hrest⟩; have YCL := Lib.hid ycl; clear hrest ycl)
              clear e2 e7 e3 e5 e0 e6 d3 d4 d5
              rcases Nat.lt_or_ge lm bb with hlb | hlb
              · have q1 : decide ((lm : Int) < (bb : Int)) = true := decide_eq_true (by omega)
                have q2 : decide (lm < bb) = true := decide_eq_true hlb
                obtain ⟨R, hR⟩ : ∃ R, lm + 1 = R := ⟨_, rfl⟩
                have HLB := Lib.hid hlb
                have HRR := Lib.hid hR
                have r1 : (lm : Int) + 1 = (R : Int) := by omega
                have hR64 : R ≤ 129 := by omega
                have WE := Lib.hid (w64 (R : Int) (by omega))
                clear hlb hR hR64
                go_quiet (fail)
                obtain ⟨we1, we2⟩ := WE.out
                go_wp2
                go_ret2
                clear we1 we2
                have ho := HOLD.out
                rw [HWA.out] at ho
                exact HE2.out w5 w7 _ g5 cap5 _ A1 c9 H5.out HLB.out ⟨A1, c9, rfl, ho⟩ (by rw [HRR.out]; exact (YCL.out.of_block (w' := w7.drewN _) rfl).set x _) (keep_set (F := fun g => g = i) (Keep.of (belowN (Below.refl _ _) _)) rfl _)
              · have q1 : decide ((lm : Int) < (bb : Int)) = false := decide_eq_false (by omega)
                have q2 : decide (lm < bb) = false := decide_eq_false (by omega)
                have HLB := Lib.hid hlb
                clear hlb
                go_quiet (fail)
                go_wp2
                go_ret2
                have ho := HOLD.out
                rw [HWA.out] at ho
                exact HE1.out w5 w7 g5 cap5 _ _ A1 c9 H5.out HLB.out ⟨A1, c9, rfl, ho⟩
            exact AllReadyH.nil
          exact AllReadyH.nil
        exact AllReadyH.nil
      exact AllReadyH.nil
    exact AllReadyH.nil
  exact AllReadyH.nil
end Go.Proofs.Yticcjelaenhigaa
