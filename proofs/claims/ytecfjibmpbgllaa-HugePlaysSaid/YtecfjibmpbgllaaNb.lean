/- The statement about a tracker that nobody made: what its call returns. -/
import Derived.Test.YtecfjibmpbgllaaNa
import Derived.Test.YtecfjibmpbgllaaXa
namespace Go.Proofs.Ytecfjibmpbgllaa
open Go.RowKit

theorem plan_no_end {w W : World} {tmps : Array Value} (h4 : tmps[4]? = some (.slice none 0 0)) (h5 : tmps[5]? = some (.int .i64 5)) (hb0 : Below w.heap.size w W) :
    LeavesInM Fence.wide 9 Try.prog Try.f28 tmps (fun e w' => e = .returned (.tuple #[.slice none 0 0, .int .i64 5]) ∧ Below w.heap.size w w') [] .returning W := by
  refine leaves_ok (N := w.heap.size) (M := 0) [] W List.nodup_nil (fun D h => by cases h) (fun W' hb hc => ⟨.tuple #[.slice none 0 0, .int .i64 5], ?_, rfl, hb0.trans hb⟩)
  simp [results, Try.results28, go_sem, h4, h5]

set_option maxHeartbeats 800000 in
theorem Plan_no {v : Value} {w : World} (want : Int) (h : NoT w v) :
    Calls Try.prog 28 #[v, .int .i64 want] w fun e w' => e = .returned (.tuple #[.slice none 0 0, .int .i64 5]) ∧ Below w.heap.size w w' := by
  have HM := Lib.hid (made_no (h.below (bnew w (.cells #[.int .i64 want] 3))))
  clear h
  refine (callsIn_wide (n := 9)).1 ?_
  refine callsIn_of_wp_marks Try.func28 rfl trivial ?_ rfl
  simp only [Try.ntmps28, List.size_toArray, List.length_cons, List.length_nil, Nat.reduceAdd, Nat.reduceSub, Array.replicate_succ, Array.replicate_zero, List.push_toArray, List.append_toArray, List.nil_append, List.cons_append]
  gi_wp2
  refine wpIn_scope ?_
  gi_wp2_with (first | (refine ⟨trivial, ?_⟩; gi_at_call 39; refine (callsIn_wide.2 HM.out).mono ?_; rintro x _ ⟨rfl, rfl⟩))
  exact plan_no_end rfl rfl (bnew w _)

set_option maxRecDepth 100000 in
set_option maxHeartbeats 1000000 in
theorem play_no {v : Value} {w : World} (k a b : Int) (h : NoT w v) :
    Calls Try.prog 18 #[v, .pointer none, .agg #[.int .i64 k, .int .i64 a, .int .i64 b]] w (Yes w) := by
  obtain ⟨W0, hW, hb0, hz, c0, c1, c2⟩ := new3 w (.int .i64 k) (.int .i64 a) (.int .i64 b) 33
  have hmx : Try.prog.follows .mixedOrders = true := by kernel_rfl
  have hs := h.below hb0
  have HS := Lib.hid hs
  have HB := Lib.hid hb0
  have HC := Lib.hid (And.intro c1 c2)
  have HZ := Lib.hid hz
  clear h hb0 hz hs
  have hk : k = 0 ∨ k = 1 ∨ k = 2 ∨ k = 3 ∨ k = 4 ∨ k = 5 ∨ ¬ (k = 0 ∨ k = 1 ∨ k = 2 ∨ k = 3 ∨ k = 4 ∨ k = 5) := by omega
  rcases hk with rfl | rfl | rfl | rfl | rfl | rfl | hk
  · go_enter Try.func18, Try.ntmps18
    go_wp2_with fail
    go_region_held3 (fun w' => w'.cell? ⟨w.heap.size, 1, none⟩ = some (.int .i64 a) ∧ w'.cell? ⟨w.heap.size, 2, none⟩ = some (.int .i64 b)) (first | exact ⟨c1, c2⟩)
      (first
      | (go_at_call 35; refine (Add_no a (HS.out.below (belowN (Below.refl _ _) _))).mono ?_; rintro e w1 ⟨rfl, rfl⟩)
      | (go_at_call 42; refine (rAdd_nil _ a).mono ?_; rintro e w2 ⟨rfl, rfl⟩))
    go_wp2_with fail
    go_ret
    exact ⟨rfl, btr HB.out (belowN (Below.refl _ _) 1) (Nat.le_refl _)⟩
  · go_enter Try.func18, Try.ntmps18
    go_wp2_with fail
    go_region_held3 (fun w' => w'.cell? ⟨w.heap.size, 1, none⟩ = some (.int .i64 a) ∧ w'.cell? ⟨w.heap.size, 2, none⟩ = some (.int .i64 b)) (first | exact ⟨c1, c2⟩)
      (first
      | (go_at_call 38; refine (Remove_no a (HS.out.below (belowN (Below.refl _ _) _))).mono ?_; rintro e w1 ⟨rfl, rfl⟩)
      | (go_at_call 43; refine (rRemove_nil _ a).mono ?_; rintro e w2 ⟨rfl, rfl⟩))
    go_wp2_with fail
    go_ret
    exact ⟨rfl, btr HB.out (belowN (Below.refl _ _) 1) (Nat.le_refl _)⟩
  · go_enter Try.func18, Try.ntmps18
    go_wp2_with fail
    go_region_held3 (fun w' => w'.cell? ⟨w.heap.size, 1, none⟩ = some (.int .i64 a) ∧ w'.cell? ⟨w.heap.size, 2, none⟩ = some (.int .i64 b)) (first | exact ⟨c1, c2⟩ | exact ⟨(hb1.cell (p := ⟨w.heap.size, 1, none⟩) HZ.out).trans c1, (hb1.cell (p := ⟨w.heap.size, 2, none⟩) HZ.out).trans c2⟩)
      (first
      | (go_at_call 33; refine (Use_no a b (HS.out.below (belowN (Below.refl _ _) _))).mono ?_; rintro e w1 ⟨rfl, hb1⟩)
      | (go_at_call 44; refine (rUse_nil _ a b).mono ?_; rintro e w2 ⟨rfl, rfl⟩))
    go_wp2_with fail
    go_ret
    exact ⟨rfl, btr (btr HB.out (belowN (Below.refl _ _) _) (Nat.le_refl _)) hb1 (Nat.le_refl _)⟩
  · go_enter Try.func18, Try.ntmps18
    go_wp2_with fail
    go_region_held3 (fun w' => w'.cell? ⟨w.heap.size, 1, none⟩ = some (.int .i64 a) ∧ w'.cell? ⟨w.heap.size, 2, none⟩ = some (.int .i64 b)) (first | exact ⟨c1, c2⟩ | exact ⟨(hb1.cell (p := ⟨w.heap.size, 1, none⟩) HZ.out).trans c1, (hb1.cell (p := ⟨w.heap.size, 2, none⟩) HZ.out).trans c2⟩)
      (first
      | (go_at_call 32; refine (Unuse_no a b (HS.out.below (belowN (Below.refl _ _) _))).mono ?_; rintro e w1 ⟨rfl, hb1⟩)
      | (go_at_call 45; refine (rUnuse_nil _ a b).mono ?_; rintro e w2 ⟨rfl, rfl⟩))
    go_wp2_with fail
    go_ret
    exact ⟨rfl, btr (btr HB.out (belowN (Below.refl _ _) _) (Nat.le_refl _)) hb1 (Nat.le_refl _)⟩
  · go_enter Try.func18, Try.ntmps18
    go_wp2_with fail
    go_region_held3 (fun w' => w'.cell? ⟨w.heap.size, 1, none⟩ = some (.int .i64 a) ∧ w'.cell? ⟨w.heap.size, 2, none⟩ = some (.int .i64 b)) (first | exact ⟨c1, c2⟩ | exact ⟨(hb1.cell (p := ⟨w.heap.size, 1, none⟩) HZ.out).trans c1, (hb1.cell (p := ⟨w.heap.size, 2, none⟩) HZ.out).trans c2⟩)
      (first
      | (go_at_call 31; refine (Release_no a b (HS.out.below (belowN (Below.refl _ _) _))).mono ?_; rintro e w1 ⟨rfl, hb1⟩)
      | (go_at_call 46; refine (rRelease_nil _ a b).mono ?_; rintro e w2 ⟨rfl, rfl⟩))
    go_wp2_with fail
    go_ret
    exact ⟨rfl, btr (btr HB.out (belowN (Below.refl _ _) _) (Nat.le_refl _)) hb1 (Nat.le_refl _)⟩
  · go_enter Try.func18, Try.ntmps18
    go_wp2_with fail
    refine (Plan_no a HS.out).mono ?_
    rintro e w1 ⟨rfl, hb1⟩
    have d1 := (hb1.cell (p := ⟨w.heap.size, 1, none⟩) HZ.out).trans HC.out.1
    go_wp2_with fail
    refine (rPlan_nil _ a).mono ?_
    rintro e _ ⟨rfl, rfl⟩
    go_wp2_with fail
    refine (Runs_nil _).mono ?_
    rintro e _ ⟨rfl, rfl⟩
    go_wp2_with fail
    go_ret
    exact ⟨rfl, btr HB.out hb1 (Nat.le_refl _)⟩
  · have k0 : (k == 0) = false := by simp; omega
    have k1 : (k == 1) = false := by simp; omega
    have k2 : (k == 2) = false := by simp; omega
    have k3 : (k == 3) = false := by simp; omega
    have k4 : (k == 4) = false := by simp; omega
    have k5 : (k == 5) = false := by simp; omega
    clear hk
    go_enter Try.func18, Try.ntmps18
    go_wp2_with fail
    go_ret
    exact ⟨rfl, HB.out⟩

set_option maxRecDepth 100000 in
set_option maxHeartbeats 1000000 in
theorem Same_no {v : Value} {w : World} (h : NoT w v) : Calls Try.prog 19 #[v, .pointer none, .int .i64 16] w fun e w' => e = .returned (.bool true) ∧ w = w' := by
  have HS := Lib.hid h
  clear h
  go_enter Try.func19, Try.ntmps19
  go_wp2_with fail
  go_loopw [7] (fun i wr => ∃ k : Int, (-1 ≤ k ∧ k ≤ 5) ∧ i = .int .i64 k ∧ w = wr) (fun i _ => (5 - intOf i).toNat)
  case atStart => exact ⟨-1, by omega, rfl, rfl⟩
  case round =>
    obtain ⟨k7, ⟨hk0, hk1⟩, rfl, rfl⟩ := hrel
    by_cases hlt : k7 ≤ 4
    · go_wp2_with fail
      refine (Count_no _ HS.out).mono ?_; rintro e _ ⟨rfl, rfl⟩
      go_wp2_with fail
      refine (rCount_nil _ _).mono ?_; rintro e _ ⟨rfl, rfl⟩
      go_wp2_with fail
      go_roundw
      case rel => exact ⟨k7 + 1, by omega, by go_num, trivial⟩
      case measure => simp [intOf]; omega
    · go_wp2_with fail
      go_loopw [8] (fun i wr => ∃ k : Int, (-1 ≤ k ∧ k ≤ 17) ∧ i = .int .i64 k ∧ w = wr) (fun i _ => (17 - intOf i).toNat)
      case atStart => exact ⟨-1, by omega, rfl, rfl⟩
      case round =>
        obtain ⟨k8, ⟨hk0, hk1⟩, rfl, rfl⟩ := hrel
        by_cases hlt : k8 ≤ 16
        · go_wp2_with fail
          refine (State_no _ HS.out).mono ?_; rintro e _ ⟨rfl, rfl⟩
          go_wp2_with fail
          refine (rState_nil _ _).mono ?_; rintro e _ ⟨rfl, rfl⟩
          go_wp2_with fail
          go_roundw
          case rel => exact ⟨k8 + 1, by omega, by go_num, trivial⟩
          case measure => simp [intOf]; omega
        · go_wp2_with fail
          go_loopw [9] (fun i wr => ∃ k : Int, (-1 ≤ k ∧ k ≤ 2) ∧ i = .int .i64 k ∧ w = wr) (fun i _ => (2 - intOf i).toNat)
          case atStart => exact ⟨-1, by omega, rfl, rfl⟩
          case round =>
            obtain ⟨k9, ⟨hk0, hk1⟩, rfl, rfl⟩ := hrel
            by_cases hlt : k9 ≤ 1
            · go_wp2_with fail
              refine (Used_no _ HS.out).mono ?_; rintro e _ ⟨rfl, rfl⟩
              go_wp2_with fail
              refine (rUsed_nil _ _).mono ?_; rintro e _ ⟨rfl, rfl⟩
              go_wp2_with fail
              go_roundw
              case rel => exact ⟨k9 + 1, by omega, by go_num, trivial⟩
              case measure => simp [intOf]; omega
            · go_wp2_with fail
              refine (Idle_no HS.out).mono ?_; rintro e _ ⟨rfl, rfl⟩
              go_wp2_with fail
              refine (rIdle_nil _).mono ?_; rintro e _ ⟨rfl, rfl⟩
              go_wp2_with fail
              refine (Ints_nil _).mono ?_; rintro e _ ⟨rfl, rfl⟩
              go_wp2_with fail
              refine (Broken_no HS.out).mono ?_; rintro e _ ⟨rfl, rfl⟩
              go_wp2_with fail
              refine (rBroken_nil _).mono ?_; rintro e _ ⟨rfl, rfl⟩
              go_wp2_with fail
              refine (Ints_nil _).mono ?_; rintro e _ ⟨rfl, rfl⟩
              go_wp2_with fail
              refine (Whole_no HS.out).mono ?_; rintro e _ ⟨rfl, rfl⟩
              go_wp2_with fail
              refine (rWhole_nil _).mono ?_; rintro e _ ⟨rfl, rfl⟩
              go_wp2_with fail
              refine (Ints_nil _).mono ?_; rintro e _ ⟨rfl, rfl⟩
              go_wp2_with fail
              go_ret
              exact ⟨rfl, rfl⟩

end Go.Proofs.Ytecfjibmpbgllaa
