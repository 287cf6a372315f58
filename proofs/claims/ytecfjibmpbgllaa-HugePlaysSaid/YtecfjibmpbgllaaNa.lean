/- A tracker that nobody made, on both sides: what its functions return. -/
import Derived.Test.YtecfjibmpbgllaaLk
import Derived.Test.YtecfjibmpbgllaaFc
import Derived.Deep.RegionHeld3
namespace Go.Proofs.Ytecfjibmpbgllaa
open Go.RowKit

theorem turn_no {v : Value} {w : World} (g : Int) (f : Int) (t : Int) (h : NoT w v) : Calls Try.prog 62 #[v, .int .i64 g, .int .i64 f, .int .u8 t] w fun e w' => e = .returned (.int .i64 5) ∧ w = w' := by
  have HM := Lib.hid (made_no h)
  clear h
  go_enter Try.func62, Try.ntmps62
  go_wp2_with (go_at_call 39; refine HM.out.mono ?_; rintro e w1 ⟨rfl, rfl⟩)
  go_ret
  exact ⟨rfl, rfl⟩
theorem change_no {v : Value} {w : World} (s : Int) (k : Int) (t : Int) (x : Value) (h : NoT w v) : Calls Try.prog 61 #[v, .int .i64 s, .int .i64 k, .int .u8 t, x] w fun e w' => e = .returned (.int .i64 5) ∧ w = w' := by
  have HM := Lib.hid (made_no h)
  clear h
  go_enter Try.func61, Try.ntmps61
  go_wp2_with (go_at_call 39; refine HM.out.mono ?_; rintro e w1 ⟨rfl, rfl⟩)
  go_ret
  exact ⟨rfl, rfl⟩
theorem State_no {v : Value} {w : World} (p : Int) (h : NoT w v) : Calls Try.prog 20 #[v, .int .i64 p] w fun e w' => e = .returned (.int .i64 (-1)) ∧ w = w' := by
  have HM := Lib.hid (made_no h)
  clear h
  go_enter Try.func20, Try.ntmps20
  go_wp2_with (go_at_call 39; refine HM.out.mono ?_; rintro e w1 ⟨rfl, rfl⟩)
  go_ret
  exact ⟨rfl, rfl⟩
theorem Used_no {v : Value} {w : World} (g : Int) (h : NoT w v) : Calls Try.prog 26 #[v, .int .i64 g] w fun e w' => e = .returned (.int .i64 0) ∧ w = w' := by
  have HM := Lib.hid (made_no h)
  clear h
  go_enter Try.func26, Try.ntmps26
  go_wp2_with (go_at_call 39; refine HM.out.mono ?_; rintro e w1 ⟨rfl, rfl⟩)
  go_ret
  exact ⟨rfl, rfl⟩
theorem Count_no {v : Value} {w : World} (k : Int) (h : NoT w v) : Calls Try.prog 27 #[v, .int .i64 k] w fun e w' => e = .returned (.int .i64 0) ∧ w = w' := by
  have HM := Lib.hid (made_no h)
  clear h
  go_enter Try.func27, Try.ntmps27
  go_wp2_with (go_at_call 39; refine HM.out.mono ?_; rintro e w1 ⟨rfl, rfl⟩)
  go_ret
  exact ⟨rfl, rfl⟩
theorem list_no {v : Value} {w : World} (f : Int) (h : NoT w v) : Calls Try.prog 55 #[v, .int .i64 f] w fun e w' => e = .returned (.slice none 0 0) ∧ w = w' := by
  have HM := Lib.hid (made_no h)
  clear h
  go_enter Try.func55, Try.ntmps55
  go_wp2_with (go_at_call 39; refine HM.out.mono ?_; rintro e w1 ⟨rfl, rfl⟩)
  go_ret
  exact ⟨rfl, rfl⟩
theorem Clone_no {v : Value} {w : World} (h : NoT w v) : Calls Try.prog 16 #[v] w fun e w' => e = .returned (.pointer none) ∧ w = w' := by
  have HM := Lib.hid (made_no h)
  clear h
  go_enter Try.func16, Try.ntmps16
  go_wp2_with (go_at_call 39; refine HM.out.mono ?_; rintro e w1 ⟨rfl, rfl⟩)
  go_ret
  exact ⟨rfl, rfl⟩
theorem Add_no {v : Value} {w : World} (g : Int) (h : NoT w v) : Calls Try.prog 35 #[v, .int .i64 g] w fun e w' => e = .returned (.int .i64 5) ∧ w = w' := by
  have HM := Lib.hid (turn_no g 0 3 h)
  clear h
  go_enter Try.func35, Try.ntmps35
  go_wp2_with (go_at_call 62; refine HM.out.mono ?_; rintro e w1 ⟨rfl, rfl⟩)
  go_ret
  exact ⟨rfl, rfl⟩
theorem Remove_no {v : Value} {w : World} (g : Int) (h : NoT w v) : Calls Try.prog 38 #[v, .int .i64 g] w fun e w' => e = .returned (.int .i64 5) ∧ w = w' := by
  have HM := Lib.hid (turn_no g 1 0 h)
  clear h
  go_enter Try.func38, Try.ntmps38
  go_wp2_with (go_at_call 62; refine HM.out.mono ?_; rintro e w1 ⟨rfl, rfl⟩)
  go_ret
  exact ⟨rfl, rfl⟩
theorem Idle_no {v : Value} {w : World} (h : NoT w v) : Calls Try.prog 23 #[v] w fun e w' => e = .returned (.slice none 0 0) ∧ w = w' := by
  have HM := Lib.hid (list_no 1 h)
  clear h
  go_enter Try.func23, Try.ntmps23
  go_wp2_with (go_at_call 55; refine HM.out.mono ?_; rintro e w1 ⟨rfl, rfl⟩)
  go_ret
  exact ⟨rfl, rfl⟩
theorem Broken_no {v : Value} {w : World} (h : NoT w v) : Calls Try.prog 24 #[v] w fun e w' => e = .returned (.slice none 0 0) ∧ w = w' := by
  have HM := Lib.hid (list_no 2 h)
  clear h
  go_enter Try.func24, Try.ntmps24
  go_wp2_with (go_at_call 55; refine HM.out.mono ?_; rintro e w1 ⟨rfl, rfl⟩)
  go_ret
  exact ⟨rfl, rfl⟩
theorem Whole_no {v : Value} {w : World} (h : NoT w v) : Calls Try.prog 25 #[v] w fun e w' => e = .returned (.slice none 0 0) ∧ w = w' := by
  have HM := Lib.hid (list_no 3 h)
  clear h
  go_enter Try.func25, Try.ntmps25
  go_wp2_with (go_at_call 55; refine HM.out.mono ?_; rintro e w1 ⟨rfl, rfl⟩)
  go_ret
  exact ⟨rfl, rfl⟩
theorem Use_no {v : Value} {w : World} (s k : Int) (h : NoT w v) : Calls Try.prog 33 #[v, .int .i64 s, .int .i64 k] w fun e w' => e = .returned (.int .i64 5) ∧ Below w.heap.size w w' := by
  have HM := Lib.hid (fun o x => change_no s k 1 x (h.below (bnew w o)))
  clear h
  go_enter Try.func33, Try.ntmps33
  go_wp2_with (go_at_call 61; refine (HM.out _ _).mono ?_; rintro e w1 ⟨rfl, rfl⟩)
  go_ret
  exact ⟨rfl, bnew w _⟩
theorem Unuse_no {v : Value} {w : World} (s k : Int) (h : NoT w v) : Calls Try.prog 32 #[v, .int .i64 s, .int .i64 k] w fun e w' => e = .returned (.int .i64 5) ∧ Below w.heap.size w w' := by
  have HM := Lib.hid (fun o x => change_no s k 2 x (h.below (bnew w o)))
  clear h
  go_enter Try.func32, Try.ntmps32
  go_wp2_with (go_at_call 61; refine (HM.out _ _).mono ?_; rintro e w1 ⟨rfl, rfl⟩)
  go_ret
  exact ⟨rfl, bnew w _⟩
theorem Release_no {v : Value} {w : World} (s k : Int) (h : NoT w v) : Calls Try.prog 31 #[v, .int .i64 s, .int .i64 k] w fun e w' => e = .returned (.int .i64 5) ∧ Below w.heap.size w w' := by
  have HM := Lib.hid (fun o x => change_no s k 3 x (h.below (bnew w o)))
  clear h
  go_enter Try.func31, Try.ntmps31
  go_wp2_with (go_at_call 61; refine (HM.out _ _).mono ?_; rintro e w1 ⟨rfl, rfl⟩)
  go_ret
  exact ⟨rfl, bnew w _⟩

theorem rmade_nil (w : World) : Calls Try.prog 41 #[.pointer none] w fun e w' => e = .returned (.bool false) ∧ w = w' := by
  go_enter Try.func41, Try.ntmps41
  go_wp2
  go_ret
  exact ⟨rfl, rfl⟩
theorem rturn_nil (w : World) (s : Int) (k : Int) (a : Int) (b : Int) (c : Int) : Calls Try.prog 66 #[.pointer none, .int .i64 s, .int .i64 k, .int .i64 a, .int .i64 b, .int .i64 c] w fun e w' => e = .returned (.int .i64 5) ∧ w = w' := by
  have HM := Lib.hid (rmade_nil w)
  go_enter Try.func66, Try.ntmps66
  go_wp2_with (go_at_call 41; refine HM.out.mono ?_; rintro e w1 ⟨rfl, rfl⟩)
  go_ret
  exact ⟨rfl, rfl⟩
theorem rAdd_nil (w : World) (g : Int) : Calls Try.prog 42 #[.pointer none, .int .i64 g] w fun e w' => e = .returned (.int .i64 5) ∧ w = w' := by
  have HM := Lib.hid (rmade_nil w)
  go_enter Try.func42, Try.ntmps42
  go_wp2_with (go_at_call 41; refine HM.out.mono ?_; rintro e w1 ⟨rfl, rfl⟩)
  go_ret
  exact ⟨rfl, rfl⟩
theorem rRemove_nil (w : World) (g : Int) : Calls Try.prog 43 #[.pointer none, .int .i64 g] w fun e w' => e = .returned (.int .i64 5) ∧ w = w' := by
  have HM := Lib.hid (rmade_nil w)
  go_enter Try.func43, Try.ntmps43
  go_wp2_with (go_at_call 41; refine HM.out.mono ?_; rintro e w1 ⟨rfl, rfl⟩)
  go_ret
  exact ⟨rfl, rfl⟩
theorem rUse_nil (w : World) (s : Int) (k : Int) : Calls Try.prog 44 #[.pointer none, .int .i64 s, .int .i64 k] w fun e w' => e = .returned (.int .i64 5) ∧ w = w' := by
  have HM := Lib.hid (rturn_nil w s k 2 3 1)
  go_enter Try.func44, Try.ntmps44
  go_wp2_with (go_at_call 66; refine HM.out.mono ?_; rintro e w1 ⟨rfl, rfl⟩)
  go_ret
  exact ⟨rfl, rfl⟩
theorem rUnuse_nil (w : World) (s : Int) (k : Int) : Calls Try.prog 45 #[.pointer none, .int .i64 s, .int .i64 k] w fun e w' => e = .returned (.int .i64 5) ∧ w = w' := by
  have HM := Lib.hid (rturn_nil w s k 1 1 2)
  go_enter Try.func45, Try.ntmps45
  go_wp2_with (go_at_call 66; refine HM.out.mono ?_; rintro e w1 ⟨rfl, rfl⟩)
  go_ret
  exact ⟨rfl, rfl⟩
theorem rRelease_nil (w : World) (s : Int) (k : Int) : Calls Try.prog 46 #[.pointer none, .int .i64 s, .int .i64 k] w fun e w' => e = .returned (.int .i64 5) ∧ w = w' := by
  have HM := Lib.hid (rturn_nil w s k 2 2 3)
  go_enter Try.func46, Try.ntmps46
  go_wp2_with (go_at_call 66; refine HM.out.mono ?_; rintro e w1 ⟨rfl, rfl⟩)
  go_ret
  exact ⟨rfl, rfl⟩
theorem rPlan_nil (w : World) (n : Int) : Calls Try.prog 47 #[.pointer none, .int .i64 n] w fun e w' => e = .returned (.tuple #[.slice none 0 0, .int .i64 5]) ∧ w = w' := by
  have HM := Lib.hid (rmade_nil w)
  go_enter Try.func47, Try.ntmps47
  go_wp2_with (go_at_call 41; refine HM.out.mono ?_; rintro e w1 ⟨rfl, rfl⟩)
  go_ret2
  exact ⟨rfl, rfl⟩
theorem rCount_nil (w : World) (k : Int) : Calls Try.prog 48 #[.pointer none, .int .i64 k] w fun e w' => e = .returned (.int .i64 0) ∧ w = w' := by
  have HM := Lib.hid (rmade_nil w)
  go_enter Try.func48, Try.ntmps48
  go_wp2_with (go_at_call 41; refine HM.out.mono ?_; rintro e w1 ⟨rfl, rfl⟩)
  go_ret
  exact ⟨rfl, rfl⟩
theorem rState_nil (w : World) (p : Int) : Calls Try.prog 49 #[.pointer none, .int .i64 p] w fun e w' => e = .returned (.int .i64 (-1)) ∧ w = w' := by
  have HM := Lib.hid (rmade_nil w)
  go_enter Try.func49, Try.ntmps49
  go_wp2_with (go_at_call 41; refine HM.out.mono ?_; rintro e w1 ⟨rfl, rfl⟩)
  go_ret
  exact ⟨rfl, rfl⟩
theorem rUsed_nil (w : World) (g : Int) : Calls Try.prog 50 #[.pointer none, .int .i64 g] w fun e w' => e = .returned (.int .i64 0) ∧ w = w' := by
  have HM := Lib.hid (rmade_nil w)
  go_enter Try.func50, Try.ntmps50
  go_wp2_with (go_at_call 41; refine HM.out.mono ?_; rintro e w1 ⟨rfl, rfl⟩)
  go_ret
  exact ⟨rfl, rfl⟩
theorem rkinds_nil (w : World) (k : Int) : Calls Try.prog 69 #[.pointer none, .int .i64 k] w fun e w' => e = .returned (.slice none 0 0) ∧ w = w' := by
  have HM := Lib.hid (rmade_nil w)
  go_enter Try.func69, Try.ntmps69
  go_wp2_with (go_at_call 41; refine HM.out.mono ?_; rintro e w1 ⟨rfl, rfl⟩)
  go_ret
  exact ⟨rfl, rfl⟩
theorem rIdle_nil (w : World) : Calls Try.prog 51 #[.pointer none] w fun e w' => e = .returned (.slice none 0 0) ∧ w = w' := by
  have HM := Lib.hid (rkinds_nil w 1)
  go_enter Try.func51, Try.ntmps51
  go_wp2_with (go_at_call 69; refine HM.out.mono ?_; rintro e w1 ⟨rfl, rfl⟩)
  go_ret
  exact ⟨rfl, rfl⟩
theorem rBroken_nil (w : World) : Calls Try.prog 52 #[.pointer none] w fun e w' => e = .returned (.slice none 0 0) ∧ w = w' := by
  have HM := Lib.hid (rkinds_nil w 2)
  go_enter Try.func52, Try.ntmps52
  go_wp2_with (go_at_call 69; refine HM.out.mono ?_; rintro e w1 ⟨rfl, rfl⟩)
  go_ret
  exact ⟨rfl, rfl⟩
theorem rWhole_nil (w : World) : Calls Try.prog 53 #[.pointer none] w fun e w' => e = .returned (.slice none 0 0) ∧ w = w' := by
  have HM := Lib.hid (rkinds_nil w 3)
  go_enter Try.func53, Try.ntmps53
  go_wp2_with (go_at_call 69; refine HM.out.mono ?_; rintro e w1 ⟨rfl, rfl⟩)
  go_ret
  exact ⟨rfl, rfl⟩
theorem Ints_nil (w : World) : Calls Try.prog 36 #[.slice none 0 0, .slice none 0 0] w fun e w' => e = .returned (.bool true) ∧ w = w' := by
  go_enter Try.func36, Try.ntmps36
  go_wp2
  go_loopw [5] (fun i wr => i = .int .i64 0 ∧ w = wr) (fun _ _ => 0)
  case atStart => exact ⟨rfl, rfl⟩
  case round =>
    obtain ⟨rfl, rfl⟩ := hrel
    go_wp2
    go_ret
    exact ⟨rfl, rfl⟩
theorem Runs_nil (w : World) : Calls Try.prog 37 #[.slice none 0 0, .slice none 0 0] w fun e w' => e = .returned (.bool true) ∧ w = w' := by
  go_enter Try.func37, Try.ntmps37
  go_wp2
  go_loopw [5] (fun i wr => i = .int .i64 0 ∧ w = wr) (fun _ _ => 0)
  case atStart => exact ⟨rfl, rfl⟩
  case round =>
    obtain ⟨rfl, rfl⟩ := hrel
    go_wp2
    go_ret
    exact ⟨rfl, rfl⟩

end Go.Proofs.Ytecfjibmpbgllaa
