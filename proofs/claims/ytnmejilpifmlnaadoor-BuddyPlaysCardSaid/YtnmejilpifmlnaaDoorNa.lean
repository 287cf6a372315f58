/- A heap that nobody made, on both sides: what its functions return. -/
import Derived.Test.YtnmejilpifmlnaaDoorXa
import Derived.Deep.RegionHeld3
namespace Go.Proofs.YtnmejilpifmlnaaDoor
open Go.RowKit

theorem Give_no {v : Value} {w : World} (a b : Int) (h : NoH w v) : Calls Tryd.prog 29 #[v, .int .i64 a, .int .i64 b] w fun e w' => e = .returned (.int .i64 5) ∧ w = w' := by
  have HM := Lib.hid (made_no h)
  clear h
  go_enter Tryd.func29, Tryd.ntmps29
  go_wp2_with (go_at_call 33; refine HM.out.mono ?_; rintro e w1 ⟨rfl, rfl⟩)
  go_ret
  exact ⟨rfl, rfl⟩
theorem TakeRun_no {v : Value} {w : World} (a b : Int) (h : NoH w v) : Calls Tryd.prog 38 #[v, .int .i64 a, .int .i64 b] w fun e w' => e = .returned (.int .i64 5) ∧ w = w' := by
  have HM := Lib.hid (made_no h)
  clear h
  go_enter Tryd.func38, Tryd.ntmps38
  go_wp2_with (go_at_call 33; refine HM.out.mono ?_; rintro e w1 ⟨rfl, rfl⟩)
  go_ret
  exact ⟨rfl, rfl⟩
theorem Free_no {v : Value} {w : World} (h : NoH w v) : Calls Tryd.prog 24 #[v] w fun e w' => e = .returned (.int .i64 0) ∧ w = w' := by
  have HM := Lib.hid (made_no h)
  clear h
  go_enter Tryd.func24, Tryd.ntmps24
  go_wp2_with (go_at_call 33; refine HM.out.mono ?_; rintro e w1 ⟨rfl, rfl⟩)
  go_ret
  exact ⟨rfl, rfl⟩
theorem Order_no {v : Value} {w : World} (h : NoH w v) : Calls Tryd.prog 28 #[v] w fun e w' => e = .returned (.int .i64 (-1)) ∧ w = w' := by
  have HM := Lib.hid (made_no h)
  clear h
  go_enter Tryd.func28, Tryd.ntmps28
  go_wp2_with (go_at_call 33; refine HM.out.mono ?_; rintro e w1 ⟨rfl, rfl⟩)
  go_ret
  exact ⟨rfl, rfl⟩
theorem Runs_no {v : Value} {w : World} (h : NoH w v) : Calls Tryd.prog 43 #[v] w fun e w' => e = .returned (.slice none 0 0) ∧ w = w' := by
  have HM := Lib.hid (made_no h)
  clear h
  go_enter Tryd.func43, Tryd.ntmps43
  go_wp2_with (go_at_call 33; refine HM.out.mono ?_; rintro e w1 ⟨rfl, rfl⟩)
  go_ret
  exact ⟨rfl, rfl⟩
theorem Blocks_no {v : Value} {w : World} (a : Int) (h : NoH w v) : Calls Tryd.prog 22 #[v, .int .i64 a] w fun e w' => e = .returned (.slice none 0 0) ∧ w = w' := by
  have HM := Lib.hid (made_no h)
  clear h
  go_enter Tryd.func22, Tryd.ntmps22
  go_wp2_with (go_at_call 33; refine HM.out.mono ?_; rintro e w1 ⟨rfl, rfl⟩)
  go_ret
  exact ⟨rfl, rfl⟩
theorem IsFree_no {v : Value} {w : World} (a : Int) (h : NoH w v) : Calls Tryd.prog 20 #[v, .int .i64 a] w fun e w' => e = .returned (.bool false) ∧ w = w' := by
  have HM := Lib.hid (made_no h)
  clear h
  go_enter Tryd.func20, Tryd.ntmps20
  go_wp2_with (go_at_call 33; refine HM.out.mono ?_; rintro e w1 ⟨rfl, rfl⟩)
  go_ret
  exact ⟨rfl, rfl⟩
theorem Clone_no {v : Value} {w : World} (h : NoH w v) : Calls Tryd.prog 16 #[v] w fun e w' => e = .returned (.pointer none) ∧ w = w' := by
  have HM := Lib.hid (made_no h)
  clear h
  go_enter Tryd.func16, Tryd.ntmps16
  go_wp2_with (go_at_call 33; refine HM.out.mono ?_; rintro e w1 ⟨rfl, rfl⟩)
  go_ret
  exact ⟨rfl, rfl⟩

set_option maxRecDepth 100000 in
set_option maxHeartbeats 1000000 in
theorem Take_no {v : Value} {w : World} (p a : Int) (h : NoH w v) :
    Calls Tryd.prog 25 #[v, .int .i64 p, .int .i64 a] w fun e w' => e = .returned (.tuple #[.int .i64 0, .int .i64 5]) ∧ Below w.heap.size w w' := by
  have HM := Lib.hid (made_no (h.below (by exact ((((Below.refl w.heap.size w).alloc (Nat.le_refl _) (.cells #[v] 25)).alloc (by simp) (.cells #[.int .i64 p] 3)).alloc (by simp; omega) (.cells #[.int .i64 0] 3)).alloc (by simp; omega) (.cells #[.int .i64 0] 26))))
  have hone : v.oneCell' = true := by
    rcases h with rfl | ⟨_, _, rfl, _⟩ <;> rfl
  have hv : ∃ g, v = .pointer g := by
    rcases h with rfl | ⟨_, _, rfl, _⟩
    · exact ⟨_, rfl⟩
    · exact ⟨_, rfl⟩
  obtain ⟨g, rfl⟩ := hv
  clear h hone
  go_enter Tryd.func25, Tryd.ntmps25
  go_wp2_with (go_at_call 33; refine HM.out.mono ?_; rintro x _ ⟨rfl, rfl⟩)
  refine bodyPost_ret (v := .tuple #[.int .i64 0, .int .i64 5]) (by simp [results, Tryd.results25, go_sem]) rfl ⟨rfl, ?_⟩
  exact ((((Below.refl w.heap.size w).alloc (Nat.le_refl _) _).alloc (by simp) _).alloc (by simp; omega) _).alloc (by simp; omega) _

theorem rmade_nil (w : World) : Calls Tryd.prog 35 #[.pointer none] w fun e w' => e = .returned (.bool false) ∧ w = w' := by
  go_enter Tryd.func35, Tryd.ntmps35
  go_wp2
  go_ret
  exact ⟨rfl, rfl⟩
theorem rGive_nil (w : World) (a b : Int) : Calls Tryd.prog 36 #[.pointer none, .int .i64 a, .int .i64 b] w fun e w' => e = .returned (.int .i64 5) ∧ w = w' := by
  have HM := Lib.hid (rmade_nil w)
  go_enter Tryd.func36, Tryd.ntmps36
  go_wp2_with (go_at_call 35; refine HM.out.mono ?_; rintro e w1 ⟨rfl, rfl⟩)
  go_ret
  exact ⟨rfl, rfl⟩
theorem rTake_nil (w : World) (a b : Int) : Calls Tryd.prog 37 #[.pointer none, .int .i64 a, .int .i64 b] w fun e w' => e = .returned (.tuple #[.int .i64 0, .int .i64 5]) ∧ w = w' := by
  have HM := Lib.hid (rmade_nil w)
  go_enter Tryd.func37, Tryd.ntmps37
  go_wp2_with (go_at_call 35; refine HM.out.mono ?_; rintro e w1 ⟨rfl, rfl⟩)
  go_ret2
  exact ⟨rfl, rfl⟩
theorem rTakeRun_nil (w : World) (a b : Int) : Calls Tryd.prog 39 #[.pointer none, .int .i64 a, .int .i64 b] w fun e w' => e = .returned (.int .i64 5) ∧ w = w' := by
  have HM := Lib.hid (rmade_nil w)
  go_enter Tryd.func39, Tryd.ntmps39
  go_wp2_with (go_at_call 35; refine HM.out.mono ?_; rintro e w1 ⟨rfl, rfl⟩)
  go_ret
  exact ⟨rfl, rfl⟩
theorem rFree_nil (w : World) : Calls Tryd.prog 40 #[.pointer none] w fun e w' => e = .returned (.int .i64 0) ∧ w = w' := by
  have HM := Lib.hid (rmade_nil w)
  go_enter Tryd.func40, Tryd.ntmps40
  go_wp2_with (go_at_call 35; refine HM.out.mono ?_; rintro e w1 ⟨rfl, rfl⟩)
  go_ret
  exact ⟨rfl, rfl⟩
theorem rOrder_nil (w : World) : Calls Tryd.prog 41 #[.pointer none] w fun e w' => e = .returned (.int .i64 (-1)) ∧ w = w' := by
  have HM := Lib.hid (rmade_nil w)
  go_enter Tryd.func41, Tryd.ntmps41
  go_wp2_with (go_at_call 35; refine HM.out.mono ?_; rintro e w1 ⟨rfl, rfl⟩)
  go_ret
  exact ⟨rfl, rfl⟩
theorem rRuns_nil (w : World) : Calls Tryd.prog 44 #[.pointer none] w fun e w' => e = .returned (.slice none 0 0) ∧ w = w' := by
  have HM := Lib.hid (rmade_nil w)
  go_enter Tryd.func44, Tryd.ntmps44
  go_wp2_with (go_at_call 35; refine HM.out.mono ?_; rintro e w1 ⟨rfl, rfl⟩)
  go_ret
  exact ⟨rfl, rfl⟩
theorem rBlocks_nil (w : World) (a : Int) : Calls Tryd.prog 45 #[.pointer none, .int .i64 a] w fun e w' => e = .returned (.slice none 0 0) ∧ w = w' := by
  have HM := Lib.hid (rmade_nil w)
  go_enter Tryd.func45, Tryd.ntmps45
  go_wp2_with (go_at_call 35; refine HM.out.mono ?_; rintro e w1 ⟨rfl, rfl⟩)
  go_ret
  exact ⟨rfl, rfl⟩

theorem Ints_nil (w : World) : Calls Tryd.prog 31 #[.slice none 0 0, .slice none 0 0] w fun e w' => e = .returned (.bool true) ∧ w = w' := by
  go_enter Tryd.func31, Tryd.ntmps31
  go_wp2
  go_loopw [5] (fun i wr => i = .int .i64 0 ∧ w = wr) (fun _ _ => 0)
  case atStart => exact ⟨rfl, rfl⟩
  case round =>
    obtain ⟨rfl, rfl⟩ := hrel
    go_wp2
    go_ret
    exact ⟨rfl, rfl⟩
theorem RunsE_nil (w : World) : Calls Tryd.prog 42 #[.slice none 0 0, .slice none 0 0] w fun e w' => e = .returned (.bool true) ∧ w = w' := by
  go_enter Tryd.func42, Tryd.ntmps42
  go_wp2
  go_loopw [5] (fun i wr => i = .int .i64 0 ∧ w = wr) (fun _ _ => 0)
  case atStart => exact ⟨rfl, rfl⟩
  case round =>
    obtain ⟨rfl, rfl⟩ := hrel
    go_wp2
    go_ret
    exact ⟨rfl, rfl⟩

set_option maxRecDepth 100000 in
set_option maxHeartbeats 2000000 in
theorem play_no {v : Value} {w : World} (k a b : Int) (h : NoH w v) :
    Calls Tryd.prog 18 #[v, .pointer none, .agg #[.int .i64 k, .int .i64 a, .int .i64 b]] w (Yes w) := by
  obtain ⟨W0, hW, hb0, hz, c0, c1, c2⟩ := new3 w (.int .i64 k) (.int .i64 a) (.int .i64 b) 33
  have hs := h.below hb0
  have HS := Lib.hid hs
  have HB := Lib.hid hb0
  have HC := Lib.hid (And.intro c1 c2)
  have HZ := Lib.hid hz
  clear h hb0 hz hs
  have hk : k = 0 ∨ k = 1 ∨ k = 2 ∨ ¬ (k = 0 ∨ k = 1 ∨ k = 2) := by omega
  rcases hk with rfl | rfl | rfl | hk
  · go_enter Tryd.func18, Tryd.ntmps18
    go_wp2_with fail
    go_region_held3 (fun w' => w'.cell? ⟨w.heap.size, 1, none⟩ = some (.int .i64 a) ∧ w'.cell? ⟨w.heap.size, 2, none⟩ = some (.int .i64 b)) (first | exact ⟨c1, c2⟩)
      (first
      | (go_at_call 29; refine (Give_no a b (HS.out.below (belowN (Below.refl _ _) _))).mono ?_; rintro e w1 ⟨rfl, rfl⟩)
      | (go_at_call 36; refine (rGive_nil _ a b).mono ?_; rintro e w2 ⟨rfl, rfl⟩))
    go_wp2_with fail
    go_ret
    exact ⟨rfl, btr HB.out (belowN (Below.refl _ _) 1) (Nat.le_refl _)⟩
  · go_enter Tryd.func18, Tryd.ntmps18
    go_wp2_with fail
    refine (Take_no a b HS.out).mono ?_
    rintro e w1 ⟨rfl, hb1⟩
    have d1 := (hb1.cell (p := ⟨w.heap.size, 1, none⟩) HZ.out).trans HC.out.1
    have d2 := (hb1.cell (p := ⟨w.heap.size, 2, none⟩) HZ.out).trans HC.out.2
    go_wp2_with fail
    refine (rTake_nil _ a b).mono ?_
    rintro e _ ⟨rfl, rfl⟩
    go_wp2_with fail
    go_ret
    exact ⟨rfl, btr HB.out hb1 (Nat.le_refl _)⟩
  · go_enter Tryd.func18, Tryd.ntmps18
    go_wp2_with fail
    go_region_held3 (fun w' => w'.cell? ⟨w.heap.size, 1, none⟩ = some (.int .i64 a) ∧ w'.cell? ⟨w.heap.size, 2, none⟩ = some (.int .i64 b)) (first | exact ⟨c1, c2⟩)
      (first
      | (go_at_call 38; refine (TakeRun_no a b (HS.out.below (belowN (Below.refl _ _) _))).mono ?_; rintro e w1 ⟨rfl, rfl⟩)
      | (go_at_call 39; refine (rTakeRun_nil _ a b).mono ?_; rintro e w2 ⟨rfl, rfl⟩))
    go_wp2_with fail
    go_ret
    exact ⟨rfl, btr HB.out (belowN (Below.refl _ _) 1) (Nat.le_refl _)⟩
  · have k0 : (k == 0) = false := by simp; omega
    have k1 : (k == 1) = false := by simp; omega
    have k2 : (k == 2) = false := by simp; omega
    clear hk
    go_enter Tryd.func18, Tryd.ntmps18
    go_wp2_with fail
    go_ret
    exact ⟨rfl, HB.out⟩

set_option maxRecDepth 100000 in
set_option maxHeartbeats 1000000 in
theorem Same_no {v : Value} {w : World} (h : NoH w v) : Calls Tryd.prog 19 #[v, .pointer none] w (Yes w) := by
  have HS := Lib.hid h
  have H0 := Lib.hid (Below.refl w.heap.size w)
  clear h
  go_enter Tryd.func19, Tryd.ntmps19
  go_wp2_with fail
  refine (Free_no HS.out).mono ?_; rintro e _ ⟨rfl, rfl⟩
  go_wp2_with fail
  refine (rFree_nil _).mono ?_; rintro e _ ⟨rfl, rfl⟩
  go_wp2_with fail
  refine (Order_no HS.out).mono ?_; rintro e _ ⟨rfl, rfl⟩
  go_wp2_with fail
  refine (rOrder_nil _).mono ?_; rintro e _ ⟨rfl, rfl⟩
  go_wp2_with fail
  refine (Runs_no HS.out).mono ?_; rintro e _ ⟨rfl, rfl⟩
  go_wp2_with fail
  refine (rRuns_nil _).mono ?_; rintro e _ ⟨rfl, rfl⟩
  go_wp2_with fail
  refine (RunsE_nil _).mono ?_; rintro e _ ⟨rfl, rfl⟩
  go_wp2_with fail
  go_loopw [5] (fun i wr => ∃ k : Int, (-1 ≤ k ∧ k ≤ 12) ∧ i = .int .i64 k ∧ Below w.heap.size w wr) (fun i _ => (12 - intOf i).toNat)
  case atStart => exact ⟨-1, by omega, rfl, H0.out⟩
  case round =>
    obtain ⟨k, ⟨hk0, hk1⟩, rfl, hb⟩ := hrel
    have HB := Lib.hid hb
    clear hb
    by_cases hlt : k ≤ 11
    · go_wp2_with fail
      refine (Blocks_no _ (HS.out.below HB.out)).mono ?_; rintro e _ ⟨rfl, rfl⟩
      go_wp2_with fail
      refine (rBlocks_nil _ _).mono ?_; rintro e _ ⟨rfl, rfl⟩
      go_wp2_with fail
      refine (Ints_nil _).mono ?_; rintro e _ ⟨rfl, rfl⟩
      go_wp2_with fail
      go_roundw
      case rel => exact ⟨k + 1, by omega, rfl, HB.out⟩
      case measure => simp [intOf]; omega
    · go_wp2_with fail
      go_ret
      exact ⟨rfl, HB.out⟩

end Go.Proofs.YtnmejilpifmlnaaDoor
