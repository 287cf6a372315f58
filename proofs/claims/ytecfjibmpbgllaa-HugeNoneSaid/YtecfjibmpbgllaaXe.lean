/- The statement about a tracker that nobody made: what its call returns. -/
import Derived.Test.YtecfjibmpbgllaaNb
namespace Go.Proofs.Ytecfjibmpbgllaa
open Go.RowKit

theorem new1 (w : World) (a : Value) (t : TypeId) : ∃ W0, w.alloc (.cells #[a] t) = W0 ∧ Below w.heap.size w W0 ∧ w.heap.size < W0.heap.size ∧ W0.cell? ⟨w.heap.size, 0, none⟩ = some a := by
  refine ⟨_, rfl, bnew _ _, by simp, ?_⟩
  go_simp

set_option maxRecDepth 100000 in
set_option maxHeartbeats 2000000 in
theorem none_walk (x : Ac) (w : World) : Calls Try.prog 4 #[.agg #[.int .i64 x.k, .int .i64 x.a, .int .i64 x.b]] w (Yes w) := by
  have HAL := Lib.hid alive_any
  obtain ⟨k, a, b⟩ := x
  dsimp only
  obtain ⟨W0, hW, hb0, hz, c0, c1, c2⟩ := new3 w (.int .i64 k) (.int .i64 a) (.int .i64 b) 33
  obtain ⟨W1, hW1, hb1, hz1, d0⟩ := new1 W0 (.slice none 0 0) 41
  have hbx : ∀ i : Nat, W1.cell? ⟨w.heap.size, i, none⟩ = W0.cell? ⟨w.heap.size, i, none⟩ := fun i => hb1.cell (p := ⟨w.heap.size, i, none⟩) hz
  have HE := Lib.hid (And.intro ((hbx 0).trans c0) (And.intro ((hbx 1).trans c1) ((hbx 2).trans c2)))
  have HB := Lib.hid (btr hb0 hb1 (Nat.le_refl _))
  have HZ := Lib.hid (Nat.lt_of_lt_of_le hz hb1.size)
  have HU := Lib.hid (show NoT W1 (.pointer (some ⟨W0.heap.size, 0, none⟩)) from .inr ⟨_, 0, rfl, d0⟩)
  have HN := Lib.hid (show NoT W1 (.pointer none) from .inl rfl)
  clear hb0 hb1 hz hz1 hbx c0 c1 c2 d0
  go_enter Try.func4, Try.ntmps4
  have e0 := HE.out.1
  have e1 := HE.out.2.1
  have e2 := HE.out.2.2
  go_wp2_with fail
  refine (play_no k a b HN.out).mono ?_
  rintro e w1 ⟨rfl, h⟩
  have HB1 := Lib.hid h
  clear h e0 e1 e2
  have f0 := (HB1.out.cell (p := ⟨w.heap.size, 0, none⟩) HZ.out).trans HE.out.1
  have f1 := (HB1.out.cell (p := ⟨w.heap.size, 1, none⟩) HZ.out).trans HE.out.2.1
  have f2 := (HB1.out.cell (p := ⟨w.heap.size, 2, none⟩) HZ.out).trans HE.out.2.2
  go_wp2_with fail
  refine (play_no k a b (HU.out.below HB1.out)).mono ?_
  rintro e w2 ⟨rfl, h⟩
  have HB2 := Lib.hid (btr HB1.out h (Nat.le_refl _))
  clear h f0 f1 f2
  have f1 := (HB2.out.cell (p := ⟨w.heap.size, 1, none⟩) HZ.out).trans HE.out.2.1
  go_wp2_with fail
  refine (Same_no (HN.out.below HB2.out)).mono ?_
  rintro e _ ⟨rfl, rfl⟩
  go_wp2_with fail
  refine (Same_no (HU.out.below HB2.out)).mono ?_
  rintro e _ ⟨rfl, rfl⟩
  go_wp2_with fail
  refine (Clone_no (HN.out.below HB2.out)).mono ?_
  rintro e _ ⟨rfl, rfl⟩
  go_wp2_with fail
  refine (Clone_no (HU.out.below HB2.out)).mono ?_
  rintro e _ ⟨rfl, rfl⟩
  go_wp2_with fail
  refine (State_no a (HN.out.below HB2.out)).mono ?_
  rintro e _ ⟨rfl, rfl⟩
  go_wp2_with fail
  refine (State_no a (HU.out.below HB2.out)).mono ?_
  rintro e _ ⟨rfl, rfl⟩
  clear f1
  go_wp2_with fail
  refine (HAL.out _).mono ?_
  rintro e w7 ⟨rfl, h⟩
  go_wp2_with fail
  go_ret
  exact ⟨rfl, btr (btr HB.out HB2.out (Nat.le_refl _)) h (Nat.le_refl _)⟩

end Go.Proofs.Ytecfjibmpbgllaa
