/- The statement about a heap that nobody made: what its call returns. -/
import Derived.Test.YtnmejilpifmlnaaDoorNa
namespace Go.Proofs.YtnmejilpifmlnaaDoor
open Go.RowKit

theorem new2 (w : World) (a b : Value) (t : TypeId) : ∃ W0, w.alloc (.cells #[a, b] t) = W0 ∧ Below w.heap.size w W0 ∧ w.heap.size < W0.heap.size ∧ W0.cell? ⟨w.heap.size, 1, none⟩ = some b := by
  refine ⟨_, rfl, bnew _ _, by simp, ?_⟩
  go_simp

set_option maxRecDepth 100000 in
set_option maxHeartbeats 2000000 in
theorem none_walk (x : Ac) (o : Int) (w : World) (ht : Tab w) : Calls Tryd.prog 4 #[.agg #[.int .i64 x.k, .int .i64 x.a, .int .i64 x.b], .int .i64 o] w (Yes w) := by
  have HAL := Lib.hid (Alive w ht)
  obtain ⟨k, a, b⟩ := x
  dsimp only
  obtain ⟨W0, hW, hb0, hz, c0, c1, c2⟩ := new3 w (.int .i64 k) (.int .i64 a) (.int .i64 b) 33
  obtain ⟨W1, hW1, hb1, hz1, d0⟩ := new2 W0 (.int .i64 0) (.slice none 0 0) 42
  have hbx : ∀ i : Nat, W1.cell? ⟨w.heap.size, i, none⟩ = W0.cell? ⟨w.heap.size, i, none⟩ := fun i => hb1.cell (p := ⟨w.heap.size, i, none⟩) hz
  have HE := Lib.hid (And.intro ((hbx 0).trans c0) (And.intro ((hbx 1).trans c1) ((hbx 2).trans c2)))
  have HB := Lib.hid (btr hb0 hb1 (Nat.le_refl _))
  have HZ := Lib.hid (Nat.lt_of_lt_of_le hz hb1.size)
  have HU := Lib.hid (show NoH W1 (.pointer (some ⟨W0.heap.size, 0, none⟩)) from .inr ⟨_, 0, rfl, d0⟩)
  have HN := Lib.hid (show NoH W1 (.pointer none) from .inl rfl)
  clear hb0 hb1 hz hz1 hbx c0 c1 c2 d0 ht
  go_enter Tryd.func4, Tryd.ntmps4
  have e0 := HE.out.1
  have e1 := HE.out.2.1
  have e2 := HE.out.2.2
  go_wp2_with fail
  refine (play_no k a b HN.out).mono ?_
  rintro e w1 ⟨rfl, h⟩
  have HB1 := Lib.hid h
  clear h e0 e1 e2
  have f0 := (HB1.out.cell (p := ⟨w.heap.size, 0, none⟩) HZ.out).trans HE.out.1
  have f1 := (HB1.out.cell (p := ⟨w.heap.size, 1, none⟩) HZ.out).trans HE.out.2.1
  have f2 := (HB1.out.cell (p := ⟨w.heap.size, 2, none⟩) HZ.out).trans HE.out.2.2
  go_wp2_with fail
  refine (play_no k a b (HU.out.below HB1.out)).mono ?_
  rintro e w2 ⟨rfl, h⟩
  have HB2 := Lib.hid (btr HB1.out h (Nat.le_refl _))
  clear h f0 f1 f2
  go_wp2_with fail
  refine (Same_no (HN.out.below HB2.out)).mono ?_
  rintro e w3 ⟨rfl, h⟩
  have HB3 := Lib.hid (btr HB2.out h (Nat.le_refl _))
  clear h
  go_wp2_with fail
  refine (Same_no (HU.out.below HB3.out)).mono ?_
  rintro e w4 ⟨rfl, h⟩
  have HB4 := Lib.hid (btr HB3.out h (Nat.le_refl _))
  clear h
  have f1 := (HB4.out.cell (p := ⟨w.heap.size, 1, none⟩) HZ.out).trans HE.out.2.1
  go_wp2_with fail
  refine (Clone_no (HN.out.below HB4.out)).mono ?_
  rintro e _ ⟨rfl, rfl⟩
  go_wp2_with fail
  refine (Clone_no (HU.out.below HB4.out)).mono ?_
  rintro e _ ⟨rfl, rfl⟩
  go_wp2_with fail
  refine (Blocks_no o (HN.out.below HB4.out)).mono ?_
  rintro e _ ⟨rfl, rfl⟩
  go_wp2_with fail
  refine (Blocks_no o (HU.out.below HB4.out)).mono ?_
  rintro e _ ⟨rfl, rfl⟩
  go_wp2_with fail
  refine (IsFree_no a (HN.out.below HB4.out)).mono ?_
  rintro e _ ⟨rfl, rfl⟩
  go_wp2_with fail
  refine (IsFree_no a (HU.out.below HB4.out)).mono ?_
  rintro e _ ⟨rfl, rfl⟩
  clear f1
  go_wp2_with fail
  refine (HAL.out _ (btr HB.out HB4.out (Nat.le_refl _))).mono ?_
  rintro e w7 ⟨rfl, h⟩
  go_wp2_with fail
  go_ret
  exact ⟨rfl, h⟩

end Go.Proofs.YtnmejilpifmlnaaDoor
