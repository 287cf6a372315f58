/- A space that nobody made, on both sides: the statement's play. -/
import Derived.Test.YtejjendklemebaaNa
namespace Go.Proofs.Ytejjendklemebaa
open Go.RowKit

/-- True, and nothing that lay before has changed. -/
def YesB (w : World) (e : Ending) (w' : World) : Prop := e = .returned (.bool true) ∧ Below w.heap.size w w'

theorem bdr {W w1 : World} {k : Nat} (h : Below (W.drewN k).heap.size (W.drewN k) w1) : Below W.heap.size W w1 := (belowN (Below.refl _ _) k).trans h

set_option maxRecDepth 100000 in
set_option maxHeartbeats 2000000 in
theorem play_no {v : Value} {w : World} (k a b c : Int) (h : NoS w v) :
    Calls Try.prog 17 #[v, .pointer none, .agg #[.int .i64 k, .int .i64 a, .int .i64 b, .int .i64 c]] w (YesB w) := by
  obtain ⟨W0, hW, hb0, hz, c0, c1, c2, c3⟩ := new4 w (.int .i64 k) (.int .i64 a) (.int .i64 b) (.int .i64 c) 30
  have hs := h.below hb0
  have HS := Lib.hid hs
  have HB := Lib.hid hb0
  have HC := Lib.hid (And.intro c1 (And.intro c2 c3))
  have HZ := Lib.hid hz
  clear h hb0 hz hs
  have hk : k = 0 ∨ k = 1 ∨ k = 2 ∨ k = 3 ∨ k = 4 ∨ k = 5 ∨ k = 6 ∨ k = 7 ∨ ¬ (k = 0 ∨ k = 1 ∨ k = 2 ∨ k = 3 ∨ k = 4 ∨ k = 5 ∨ k = 6 ∨ k = 7) := by omega
  rcases hk with rfl | rfl | rfl | rfl | rfl | rfl | rfl | rfl | hk
  · go_enter Try.func17, Try.ntmps17
    go_wp2_with fail
    go_region_held3 (fun w' => w'.cell? ⟨w.heap.size, 1, none⟩ = some (.int .i64 a) ∧ w'.cell? ⟨w.heap.size, 2, none⟩ = some (.int .i64 b)) (first | exact ⟨c1, c2⟩ | exact ⟨(hb1.cell (p := ⟨w.heap.size, 1, none⟩) HZ.out).trans c1, (hb1.cell (p := ⟨w.heap.size, 2, none⟩) HZ.out).trans c2⟩)
      (first
      | (go_at_call 34; refine (Map_no a b (HS.out.below (belowN (Below.refl _ _) _))).mono ?_; rintro e w1 ⟨rfl, hb1⟩)
      | (go_at_call 41; refine (rMap_nil _ a b).mono ?_; rintro e w2 ⟨rfl, rfl⟩))
    go_wp2_with fail
    go_ret
    exact ⟨rfl, btr HB.out (bdr hb1) (Nat.le_refl _)⟩
  · go_enter Try.func17, Try.ntmps17
    go_wp2_with fail
    go_region_held3 (fun w' => w'.cell? ⟨w.heap.size, 1, none⟩ = some (.int .i64 a) ∧ w'.cell? ⟨w.heap.size, 2, none⟩ = some (.int .i64 b)) (first | exact ⟨c1, c2⟩ | exact ⟨(hb1.cell (p := ⟨w.heap.size, 1, none⟩) HZ.out).trans c1, (hb1.cell (p := ⟨w.heap.size, 2, none⟩) HZ.out).trans c2⟩)
      (first
      | (go_at_call 33; refine (Unmap_no a b (HS.out.below (belowN (Below.refl _ _) _))).mono ?_; rintro e w1 ⟨rfl, hb1⟩)
      | (go_at_call 42; refine (rUnmap_nil _ a b).mono ?_; rintro e w2 ⟨rfl, rfl⟩))
    go_wp2_with fail
    go_ret
    exact ⟨rfl, btr HB.out (bdr hb1) (Nat.le_refl _)⟩
  · go_enter Try.func17, Try.ntmps17
    go_wp2_with fail
    go_region_held3 (fun w' => w'.cell? ⟨w.heap.size, 1, none⟩ = some (.int .i64 a) ∧ w'.cell? ⟨w.heap.size, 2, none⟩ = some (.int .i64 b)) (first | exact ⟨c1, c2⟩ | exact ⟨(hb1.cell (p := ⟨w.heap.size, 1, none⟩) HZ.out).trans c1, (hb1.cell (p := ⟨w.heap.size, 2, none⟩) HZ.out).trans c2⟩)
      (first
      | (go_at_call 35; refine (Release_no a b (HS.out.below (belowN (Below.refl _ _) _))).mono ?_; rintro e w1 ⟨rfl, hb1⟩)
      | (go_at_call 43; refine (rRelease_nil _ a b).mono ?_; rintro e w2 ⟨rfl, rfl⟩))
    go_wp2_with fail
    go_ret
    exact ⟨rfl, btr HB.out (bdr hb1) (Nat.le_refl _)⟩
  · go_enter Try.func17, Try.ntmps17
    go_wp2_with fail
    refine (Read_no a HS.out).mono ?_
    rintro e w1 ⟨rfl, hb1⟩
    have d1 := (hb1.cell (p := ⟨w.heap.size, 1, none⟩) HZ.out).trans HC.out.1
    go_wp2_with fail
    refine (rRead_nil _ a).mono ?_
    rintro e _ ⟨rfl, rfl⟩
    go_wp2_with fail
    go_ret
    exact ⟨rfl, btr HB.out hb1 (Nat.le_refl _)⟩
  · go_enter Try.func17, Try.ntmps17
    go_wp2_with fail
    go_region_held3 (fun w' => w'.cell? ⟨w.heap.size, 1, none⟩ = some (.int .i64 a) ∧ w'.cell? ⟨w.heap.size, 2, none⟩ = some (.int .i64 b)) (first | exact ⟨c1, c2⟩ | exact ⟨(hb1.cell (p := ⟨w.heap.size, 1, none⟩) HZ.out).trans c1, (hb1.cell (p := ⟨w.heap.size, 2, none⟩) HZ.out).trans c2⟩)
      (first
      | (go_at_call 22; refine (Write_no a b (HS.out.below (belowN (Below.refl _ _) _))).mono ?_; rintro e w1 ⟨rfl, hb1⟩)
      | (go_at_call 45; refine (rWrite_nil _ a b).mono ?_; rintro e w2 ⟨rfl, rfl⟩))
    go_wp2_with fail
    go_ret
    exact ⟨rfl, btr HB.out (bdr hb1) (Nat.le_refl _)⟩
  · go_enter Try.func17, Try.ntmps17
    go_wp2_with fail
    refine (Words_no a b HS.out).mono ?_
    rintro e w1 ⟨rfl, hb1⟩
    have d1 := (hb1.cell (p := ⟨w.heap.size, 1, none⟩) HZ.out).trans HC.out.1
    have d2 := (hb1.cell (p := ⟨w.heap.size, 2, none⟩) HZ.out).trans HC.out.2.1
    go_wp2_with fail
    refine (rWords_nil _ a b).mono ?_
    rintro e _ ⟨rfl, rfl⟩
    go_wp2_with fail
    refine (Ints_nil _).mono ?_
    rintro e _ ⟨rfl, rfl⟩
    go_wp2_with fail
    go_ret
    exact ⟨rfl, btr HB.out hb1 (Nat.le_refl _)⟩
  · go_enter Try.func17, Try.ntmps17
    go_wp2_with fail
    go_region_held3 (fun w' => w'.cell? ⟨w.heap.size, 1, none⟩ = some (.int .i64 a) ∧ w'.cell? ⟨w.heap.size, 2, none⟩ = some (.int .i64 b) ∧ w'.cell? ⟨w.heap.size, 3, none⟩ = some (.int .i64 c)) (first | exact ⟨c1, c2, c3⟩ | exact ⟨(hb1.cell (p := ⟨w.heap.size, 1, none⟩) HZ.out).trans c1, (hb1.cell (p := ⟨w.heap.size, 2, none⟩) HZ.out).trans c2, (hb1.cell (p := ⟨w.heap.size, 3, none⟩) HZ.out).trans c3⟩)
      (first
      | (go_at_call 31; refine (Fill_no a b c (HS.out.below (belowN (Below.refl _ _) _))).mono ?_; rintro e w1 ⟨rfl, hb1⟩)
      | (go_at_call 48; refine (rFill_nil _ a b c).mono ?_; rintro e w2 ⟨rfl, rfl⟩))
    go_wp2_with fail
    go_ret
    exact ⟨rfl, btr HB.out (bdr hb1) (Nat.le_refl _)⟩
  · go_enter Try.func17, Try.ntmps17
    go_wp2_with fail
    go_region_held3 (fun w' => w'.cell? ⟨w.heap.size, 1, none⟩ = some (.int .i64 a) ∧ w'.cell? ⟨w.heap.size, 2, none⟩ = some (.int .i64 b) ∧ w'.cell? ⟨w.heap.size, 3, none⟩ = some (.int .i64 c)) (first | exact ⟨c1, c2, c3⟩ | exact ⟨(hb1.cell (p := ⟨w.heap.size, 1, none⟩) HZ.out).trans c1, (hb1.cell (p := ⟨w.heap.size, 2, none⟩) HZ.out).trans c2, (hb1.cell (p := ⟨w.heap.size, 3, none⟩) HZ.out).trans c3⟩)
      (first
      | (go_at_call 32; refine (Copy_no a b c (HS.out.below (belowN (Below.refl _ _) _))).mono ?_; rintro e w1 ⟨rfl, hb1⟩)
      | (go_at_call 49; refine (rCopy_nil _ a b c).mono ?_; rintro e w2 ⟨rfl, rfl⟩))
    go_wp2_with fail
    go_ret
    exact ⟨rfl, btr HB.out (bdr hb1) (Nat.le_refl _)⟩
  · have k0 : (k == 0) = false := by simp; omega
    have k1 : (k == 1) = false := by simp; omega
    have k2 : (k == 2) = false := by simp; omega
    have k3 : (k == 3) = false := by simp; omega
    have k4 : (k == 4) = false := by simp; omega
    have k5 : (k == 5) = false := by simp; omega
    have k6 : (k == 6) = false := by simp; omega
    have k7 : (k == 7) = false := by simp; omega
    clear hk
    go_enter Try.func17, Try.ntmps17
    go_wp2_with fail
    go_ret
    exact ⟨rfl, HB.out⟩

set_option maxRecDepth 100000 in
set_option maxHeartbeats 2000000 in
theorem Same_no {v : Value} {w : World} (h : NoS w v) : Calls Try.prog 18 #[v, .pointer none] w (YesB w) := by
  have HS := Lib.hid h
  have H0 := Lib.hid (Below.refl w.heap.size w)
  clear h
  go_enter Try.func18, Try.ntmps18
  go_wp2_with fail
  refine (Pages_no HS.out).mono ?_; rintro e _ ⟨rfl, rfl⟩
  go_wp2_with fail
  refine (rPages_nil _).mono ?_; rintro e _ ⟨rfl, rfl⟩
  go_wp2_with fail
  refine (Mapped_no HS.out).mono ?_; rintro e _ ⟨rfl, rfl⟩
  go_wp2_with fail
  refine (rMapped_nil _).mono ?_; rintro e _ ⟨rfl, rfl⟩
  go_wp2_with fail
  refine (Dirty_no HS.out).mono ?_; rintro e _ ⟨rfl, rfl⟩
  go_wp2_with fail
  refine (rDirty_nil _).mono ?_; rintro e _ ⟨rfl, rfl⟩
  go_wp2_with fail
  refine (Peak_no HS.out).mono ?_; rintro e _ ⟨rfl, rfl⟩
  go_wp2_with fail
  refine (rPeak_nil _).mono ?_; rintro e _ ⟨rfl, rfl⟩
  go_wp2_with fail
  go_loopw [5] (fun i wr => ∃ k : Int, (-1 ≤ k ∧ k ≤ 4) ∧ i = .int .i64 k ∧ Below w.heap.size w wr) (fun i _ => (4 - intOf i).toNat)
  case atStart => exact ⟨-1, by omega, rfl, H0.out⟩
  case round =>
    obtain ⟨k, ⟨hk0, hk1⟩, rfl, hb⟩ := hrel
    have HB0 := Lib.hid hb
    clear hb
    by_cases hlt : k ≤ 3
    · go_wp2_with fail
      refine (Runs_no _ (HS.out.below HB0.out)).mono ?_; rintro e _ ⟨rfl, rfl⟩
      go_wp2_with fail
      refine (rRuns_nil _ _).mono ?_; rintro e _ ⟨rfl, rfl⟩
      go_wp2_with fail
      refine (RunsEq_nil _).mono ?_; rintro e _ ⟨rfl, rfl⟩
      go_wp2_with fail
      go_roundw
      case rel => exact ⟨k + 1, by omega, rfl, HB0.out⟩
      case measure => simp [intOf]; omega
    · go_wp2_with fail
      go_loopw [6] (fun i wr => ∃ k : Int, (-1 ≤ k ∧ k ≤ 1) ∧ i = .int .i64 k ∧ Below w.heap.size w wr) (fun i _ => (1 - intOf i).toNat)
      case atStart => exact ⟨-1, by omega, rfl, HB0.out⟩
      case round =>
        obtain ⟨k, ⟨hk0, hk1⟩, rfl, hb⟩ := hrel
        have HB := Lib.hid hb
        clear hb
        by_cases hlt : k ≤ 0
        · go_wp2_with fail
          refine (rPages_nil _).mono ?_; rintro e _ ⟨rfl, rfl⟩
          go_wp2_with fail
          refine (State_no _ (HS.out.below HB.out)).mono ?_; rintro e w1 ⟨rfl, hb1⟩
          have HB1 := Lib.hid (btr HB.out hb1 (Nat.le_refl _))
          clear hb1
          go_wp2_with fail
          refine (rState_nil _ _).mono ?_; rintro e _ ⟨rfl, rfl⟩
          go_wp2_with fail
          refine (rState_nil _ _).mono ?_; rintro e _ ⟨rfl, rfl⟩
          go_wp2_with fail
          go_roundw
          case rel => exact ⟨k + 1, by omega, rfl, HB1.out⟩
          case measure => simp [intOf]; omega
        · go_wp2_with fail
          refine (rPages_nil _).mono ?_; rintro e _ ⟨rfl, rfl⟩
          go_wp2_with fail
          go_ret
          exact ⟨rfl, HB.out⟩

end Go.Proofs.Ytejjendklemebaa
