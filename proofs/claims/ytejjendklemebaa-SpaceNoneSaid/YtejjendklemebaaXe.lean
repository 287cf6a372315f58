/- The statement about a space that nobody made: what its call returns. -/
import Derived.Test.YtejjendklemebaaNb
namespace Go.Proofs.Ytejjendklemebaa
open Go.RowKit

theorem new3 (w : World) (a b c : Value) (t : TypeId) : ∃ W0, w.alloc (.cells #[a, b, c] t) = W0 ∧ Below w.heap.size w W0 ∧ w.heap.size < W0.heap.size ∧ W0.cell? ⟨w.heap.size, 0, none⟩ = some a := by
  refine ⟨_, rfl, bnew _ _, by simp, ?_⟩
  go_simp

set_option maxRecDepth 100000 in
set_option maxHeartbeats 2000000 in
theorem none_walk (x : Ac) (w : World) (hx : AcR x) : Calls Try.prog 4 #[.agg #[.int .i64 x.k, .int .i64 x.a, .int .i64 x.b, .int .i64 x.c]] w (Yes w) := by
  have HAL := Lib.hid alive_any
  have hxa := hx.a
  obtain ⟨k, a, b, c⟩ := x
  dsimp only at hxa ⊢
  have HXA := Lib.hid hxa
  clear hx hxa
  obtain ⟨W0, hW, hb0, hz, c0, c1, c2, c3⟩ := new4 w (.int .i64 k) (.int .i64 a) (.int .i64 b) (.int .i64 c) 30
  obtain ⟨W1, hW1, hb1, hz1, d0⟩ := new3 W0 (.slice none 0 0) (.int .i64 0) (.int .i64 0) 38
  have hbx : ∀ i : Nat, W1.cell? ⟨w.heap.size, i, none⟩ = W0.cell? ⟨w.heap.size, i, none⟩ := fun i => hb1.cell (p := ⟨w.heap.size, i, none⟩) hz
  have HE := Lib.hid (And.intro ((hbx 0).trans c0) (And.intro ((hbx 1).trans c1) (And.intro ((hbx 2).trans c2) ((hbx 3).trans c3))))
  have HB := Lib.hid (btr hb0 hb1 (Nat.le_refl _))
  have HZ := Lib.hid (Nat.lt_of_lt_of_le hz hb1.size)
  have HU := Lib.hid (show NoS W1 (.pointer (some ⟨W0.heap.size, 0, none⟩)) from .inr ⟨_, 0, rfl, d0⟩)
  have HN := Lib.hid (show NoS W1 (.pointer none) from .inl rfl)
  clear hb0 hb1 hz hz1 hbx c0 c1 c2 c3 d0
  have hN : ∀ w', Below W1.heap.size W1 w' → NoS w' (.pointer none) := fun w' hb => HN.out.below hb
  have HNN := Lib.hid hN
  clear hN
  go_enter Try.func4, Try.ntmps4
  have e0 := HE.out.1
  have e1 := HE.out.2.1
  have e2 := HE.out.2.2.1
  have e3 := HE.out.2.2.2
  go_wp2_with fail
  refine (play_no k a b c HN.out).mono ?_
  rintro e w1 ⟨rfl, h⟩
  have HB1 := Lib.hid h
  clear h e0 e1 e2 e3
  have f0 := (HB1.out.cell (p := ⟨w.heap.size, 0, none⟩) HZ.out).trans HE.out.1
  have f1 := (HB1.out.cell (p := ⟨w.heap.size, 1, none⟩) HZ.out).trans HE.out.2.1
  have f2 := (HB1.out.cell (p := ⟨w.heap.size, 2, none⟩) HZ.out).trans HE.out.2.2.1
  have f3 := (HB1.out.cell (p := ⟨w.heap.size, 3, none⟩) HZ.out).trans HE.out.2.2.2
  go_wp2_with fail
  refine (play_no k a b c (HU.out.below HB1.out)).mono ?_
  rintro e w2 ⟨rfl, h⟩
  have HB2 := Lib.hid (btr HB1.out h (Nat.le_refl _))
  clear h f0 f1 f2 f3
  go_wp2_with fail
  refine (Same_no (HN.out.below HB2.out)).mono ?_
  rintro e w3 ⟨rfl, h⟩
  have HB3 := Lib.hid (btr HB2.out h (Nat.le_refl _))
  clear h
  go_wp2_with fail
  refine (Same_no (HU.out.below HB3.out)).mono ?_
  rintro e w4 ⟨rfl, h⟩
  have HB4 := Lib.hid (btr HB3.out h (Nat.le_refl _))
  clear h
  go_wp2_with fail
  refine (Clone_no (HN.out.below HB4.out)).mono ?_
  rintro e _ ⟨rfl, rfl⟩
  go_wp2_with fail
  refine (Clone_no (HU.out.below HB4.out)).mono ?_
  rintro e _ ⟨rfl, rfl⟩
  have f1 := (HB4.out.cell (p := ⟨w.heap.size, 1, none⟩) HZ.out).trans HE.out.2.1
  go_wp2_with fail
  refine (State_no _ (HN.out.below HB4.out)).mono ?_
  rintro e w5 ⟨rfl, h⟩
  have HB5 := Lib.hid (btr HB4.out h (Nat.le_refl _))
  clear h f1
  have f1 := (HB5.out.cell (p := ⟨w.heap.size, 1, none⟩) HZ.out).trans HE.out.2.1
  go_wp2_with fail
  refine (State_no _ (HU.out.below HB5.out)).mono ?_
  rintro e w6 ⟨rfl, h⟩
  have HB6 := Lib.hid (btr HB5.out h (Nat.le_refl _))
  clear h
  go_wp2_with fail
  refine (HAL.out _).mono ?_
  rintro e w7 ⟨rfl, h⟩
  have HB7 := Lib.hid (btr HB6.out h (Nat.le_refl _))
  clear h
  go_wp2_with fail
  go_ret
  exact ⟨rfl, btr HB.out HB7.out (Nat.le_refl _)⟩

end Go.Proofs.Ytejjendklemebaa
