/- Package huge: how two huge pages are compared. -/
import Derived.Test.YtecfjibmpbgllaaLe
import Derived.Test.YtecfjibmpbgllaaMc
import Derived.StillTailTactics
import Derived.Sort.Grow
namespace Go.Proofs.Ytecfjibmpbgllaa
open Go.RowKit Go.Sort

set_option maxHeartbeats 400000 in
theorem isNaN_k (x : Int) (w : World) : Calls Try.prog 84 #[.int .i64 x] w fun e w' => e = .returned (.bool false) ∧ w = w' := by
  go_enter Try.func84, Try.ntmps84
  go_wp2
  go_ret
  exact ⟨by simp, rfl⟩
set_option maxHeartbeats 400000 in
theorem isNaN_i (x : Int) (w : World) : Calls Try.prog 85 #[.int .i64 x] w fun e w' => e = .returned (.bool false) ∧ w = w' := by
  go_enter Try.func85, Try.ntmps85
  go_wp2
  go_ret
  exact ⟨by simp, rfl⟩

set_option maxHeartbeats 400000 in
theorem Compare_k (x y : Int) (w : World) : Calls Try.prog 76 #[.int .i64 x, .int .i64 y] w fun e w' => e = .returned (.int .i64 (cmpI x y)) ∧ w = w' := by
  have HN := Lib.hid isNaN_k
  unfold cmpI
  by_cases h1 : x < y
  · rw [if_pos h1]
    go_enter Try.func76, Try.ntmps76
    go_wp2_with (go_at_call 84; refine (HN.out _ _).mono ?_; rintro e w1 ⟨rfl, rfl⟩)
    go_ret
    exact ⟨rfl, rfl⟩
  · rw [if_neg h1]
    by_cases h2 : y < x
    · rw [if_pos h2]
      go_enter Try.func76, Try.ntmps76
      go_wp2_with (go_at_call 84; refine (HN.out _ _).mono ?_; rintro e w1 ⟨rfl, rfl⟩)
      go_ret
      exact ⟨rfl, rfl⟩
    · rw [if_neg h2]
      go_enter Try.func76, Try.ntmps76
      go_wp2_with (go_at_call 84; refine (HN.out _ _).mono ?_; rintro e w1 ⟨rfl, rfl⟩)
      go_ret
      exact ⟨rfl, rfl⟩
set_option maxHeartbeats 400000 in
theorem Compare_i (x y : Int) (w : World) : Calls Try.prog 77 #[.int .i64 x, .int .i64 y] w fun e w' => e = .returned (.int .i64 (cmpI x y)) ∧ w = w' := by
  have HN := Lib.hid isNaN_i
  unfold cmpI
  by_cases h1 : x < y
  · rw [if_pos h1]
    go_enter Try.func77, Try.ntmps77
    go_wp2_with (go_at_call 85; refine (HN.out _ _).mono ?_; rintro e w1 ⟨rfl, rfl⟩)
    go_ret
    exact ⟨rfl, rfl⟩
  · rw [if_neg h1]
    by_cases h2 : y < x
    · rw [if_pos h2]
      go_enter Try.func77, Try.ntmps77
      go_wp2_with (go_at_call 85; refine (HN.out _ _).mono ?_; rintro e w1 ⟨rfl, rfl⟩)
      go_ret
      exact ⟨rfl, rfl⟩
    · rw [if_neg h2]
      go_enter Try.func77, Try.ntmps77
      go_wp2_with (go_at_call 85; refine (HN.out _ _).mono ?_; rintro e w1 ⟨rfl, rfl⟩)
      go_ret
      exact ⟨rfl, rfl⟩

set_option maxHeartbeats 800000 in
theorem Or_any (X c : Nat) (f : Nat → Int) (w : World) (h : ∀ j, j < 3 → w.cell? ⟨X, j, none⟩ = some (.int .i64 (f j))) :
    Calls Try.prog 75 #[.slice (some ⟨X, 0, none⟩) 3 c] w fun e w' => e = .returned (.int .i64 (orV (f 0) (f 1) (f 2))) ∧ w = w' := by
  have HS := Lib.hid h
  clear h
  go_enter Try.func75, Try.ntmps75
  go_wp2
  go_loop [8] (fun i => ∃ k : Nat, k ≤ 3 ∧ i = .int .i64 k ∧ ∀ j, j < k → f j = 0) (fun i => 3 - (intOf i).toNat)
  case atStart => exact ⟨0, by omega, rfl, fun j hj => by omega⟩
  case round =>
    obtain ⟨k, hk, rfl, hno⟩ := hrel
    have HN := Lib.hid hno
    clear hno
    by_cases hlt : k < 3
    · have g := HS.out k hlt
      by_cases he : f k = 0
      · have HE := Lib.hid he
        rw [he] at g
        clear he
        go_wp2
        go_round
        case rel => exact ⟨k + 1, by omega, by go_num, fun j hj => by rcases Nat.lt_or_ge j k with hjk | hjk; exact HN.out j hjk; rw [show j = k from by omega]; exact HE.out⟩
        case measure => simp [intOf]; omega
      · have HV := Lib.hid (show orV (f 0) (f 1) (f 2) = f k from by
          unfold orV
          have hk3 : k = 0 ∨ k = 1 ∨ k = 2 := by omega
          rcases hk3 with rfl | rfl | rfl
          · rw [if_pos he]
          · rw [if_neg (by rw [HN.out 0 (by omega)]; simp), if_pos he]
          · rw [if_neg (by rw [HN.out 0 (by omega)]; simp), if_neg (by rw [HN.out 1 (by omega)]; simp)])
        generalize f k = x at g he HV
        go_wp2
        go_ret
        exact ⟨ret_int HV.out.symm, rfl⟩
    · have HV := Lib.hid (show orV (f 0) (f 1) (f 2) = 0 from by
        unfold orV
        rw [if_neg (by rw [HN.out 0 (by omega)]; simp), if_neg (by rw [HN.out 1 (by omega)]; simp), HN.out 2 (by omega)])
      go_wp2
      go_ret
      exact ⟨ret_int HV.out.symm, rfl⟩

theorem back {f : FuncId} {args : Array Value} {w : World} {v : Value} (h : Calls Try.prog f args w fun e w' => e = .returned v ∧ w = w') : Calls Try.prog f args w fun e w' => e = .returned v ∧ w' = w :=
  h.mono fun _ _ ⟨h1, h2⟩ => ⟨h1, h2.symm⟩

set_option maxRecDepth 100000 in
set_option maxHeartbeats 2000000 in
theorem closure_any {O : Nat → Prop} {B Z : Nat} {m : Mo} {w : World} (x y : Nat) (h : Tk w O B m) (hz : w.cell? ⟨Z, 0, none⟩ = some (.pointer (some ⟨B, 0, none⟩))) (hx : x < m.h) (hy : y < m.h) :
    Calls Try.prog 74 #[.int .i64 x, .int .i64 y, .pointer (some ⟨Z, 0, none⟩)] w fun e w' => e = .returned (.int .i64 (cfv m.S x y)) ∧ ∃ q os', w' = grow (w.drewN q) os' := by
  have hd : Below w.heap.size w w.drew := belowN (Below.refl _ _) 1
  have hT := h.below hd
  have hx64 : x < 64 := by have := h.wf.h2; omega
  have hy64 : y < 64 := by have := h.wf.h2; omega
  have HK1 := Lib.hid (back (kindOf_any x hT hx))
  have HK2 := Lib.hid (back (kindOf_any y hT hy))
  have u1 := back (Used_any (x : Int) hT)
  have u2 := back (Used_any (y : Int) hT)
  rw [show usV m (x : Int) = (cnt m.S 1 (16 * x) 16 : Nat) from by unfold usV; rw [if_pos (by omega)]; simp] at u1
  rw [show usV m (y : Int) = (cnt m.S 1 (16 * y) 16 : Nat) from by unfold usV; rw [if_pos (by omega)]; simp] at u2
  have HU1 := Lib.hid u1
  have HU2 := Lib.hid u2
  have HC1 := Lib.hid (fun a b => back (Compare_k a b w.drew))
  have HC2 := Lib.hid (fun a b => back (Compare_i a b w.drew))
  have hz' : w.drew.cell? ⟨Z, 0, none⟩ = some (.pointer (some ⟨B, 0, none⟩)) := hz
  have HV := Lib.hid (show cfv m.S x y = orV (cmpI (kdS m.S x) (kdS m.S y)) (cmpI (cnt m.S 1 (16 * x) 16) (cnt m.S 1 (16 * y) 16)) (cmpI y x) from rfl)
  have hm : Try.prog.follows .mixedOrders = true := by kernel_rfl
  clear h hT hd u1 u2
  generalize kdS m.S x = k1 at *
  generalize kdS m.S y = k2 at *
  generalize cnt m.S 1 (16 * x) 16 = c1 at *
  generalize cnt m.S 1 (16 * y) 16 = c2 at *
  go_enter Try.func74, Try.ntmps74
  go_wp2
  refine wp_region_still_tail 17 hm (by kernel_rfl) ?_
  simp only [List.take_succ_cons, List.take_zero, List.drop_succ_cons, List.drop_zero]
  change wpStill _ _ w.drew _ _ _
  still_step
  still_step
  still_call HK1.out
  still_step
  still_step
  still_call HK2.out
  still_call HC1.out _ _
  still_step
  still_step
  still_call HU1.out
  still_step
  still_step
  still_call HU2.out
  still_call HC2.out _ _
  still_step
  still_step
  still_call HC2.out _ _
  refine wpStill_nil ?_
  change wpList _ _ _ _ _ w.drew
  obtain ⟨w2, hw2⟩ : ∃ w2, w.drew = w2 := ⟨_, rfl⟩
  have HW := Lib.hid hw2
  have hs : w.heap.size = w2.heap.size := by rw [← hw2]; rfl
  rw [hw2]
  generalize hv1 : cmpI (k1 : Int) (k2 : Int) = v1 at *
  generalize hv2 : cmpI (c1 : Int) (c2 : Int) = v2 at *
  generalize hv3 : cmpI (y : Int) (x : Int) = v3 at *
  have HO := Lib.hid (Or_any w2.heap.size 3 (fun j => if j = 0 then v1 else if j = 1 then v2 else v3) (w2.alloc (.cells #[.int .i64 v1, .int .i64 v2, .int .i64 v3] 3)) (fun j hj => by
    have hj3 : j = 0 ∨ j = 1 ∨ j = 2 := by omega
    rcases hj3 with rfl | rfl | rfl <;> go_simp))
  clear hw2 hz hz' HK1 HK2 HU1 HU2 HC1 HC2 hs hv1 hv2 hv3
  go_wp2_with (go_at_call 75; refine HO.out.mono ?_; rintro e w3 ⟨rfl, rfl⟩)
  go_ret
  refine ⟨ret_int HV.out.symm, 1, #[.cells #[.int .i64 v1, .int .i64 v2, .int .i64 v3] 3], ?_⟩
  rw [alloc_eq_grow, ← HW.out]
  rfl

end Go.Proofs.Ytecfjibmpbgllaa
