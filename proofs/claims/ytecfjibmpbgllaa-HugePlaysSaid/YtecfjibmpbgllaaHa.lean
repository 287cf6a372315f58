/- Both trackers: the same. -/
import Derived.Test.YtecfjibmpbgllaaGe
import Derived.Test.YtecfjibmpbgllaaNb
namespace Go.Proofs.Ytecfjibmpbgllaa
open Go.RowKit

set_option maxRecDepth 100000 in
set_option maxHeartbeats 2000000 in
theorem Same_any {O1 O2 : Nat → Prop} {B C : Nat} {m : Mo} {w : World} (p : Nat) (hp : p ≤ 1024) (h1 : Tk w O1 B m) (h2 : Rf w O2 C m) :
    Calls Try.prog 19 #[.pointer (some ⟨B, 0, none⟩), .pointer (some ⟨C, 0, none⟩), .int .i64 p] w (Yes w) := by
  have H1 := Lib.hid h1
  have H2 := Lib.hid h2
  have HC1 := Lib.hid (fun v => Count_any v h1)
  have HC2 := Lib.hid (fun v => rCount_any v h2)
  have HS1 := Lib.hid (fun q hq => State_any q h1 hq)
  have HS2 := Lib.hid (fun q => rState_any q h2)
  have HU1 := Lib.hid (fun g => Used_any g h1)
  have HU2 := Lib.hid (fun g => rUsed_any g h2)
  have HL := Lib.hid (fun f => kinds_len m.S f m.h)
  have hmh := h1.wf.h2
  have HMH := Lib.hid hmh
  clear h1 h2 hmh
  go_enter Try.func19, Try.ntmps19
  go_wp2_with fail
  go_loopw [7] (fun i wr => ∃ k : Int, (-1 ≤ k ∧ k ≤ 5) ∧ i = .int .i64 k ∧ w = wr) (fun i _ => (5 - intOf i).toNat)
  case atStart => exact ⟨-1, by omega, rfl, rfl⟩
  case round =>
    obtain ⟨k7, ⟨hk0, hk1⟩, rfl, rfl⟩ := hrel
    by_cases hlt : k7 ≤ 4
    · have hc1 := HC1.out k7
      have hc2 := HC2.out k7
      generalize coV m k7 = cv at hc1 hc2
      have HA := Lib.hid hc1
      have HB := Lib.hid hc2
      clear hc1 hc2
      go_wp2_with fail
      refine HA.out.mono ?_; rintro e _ ⟨rfl, rfl⟩
      go_wp2_with fail
      refine HB.out.mono ?_; rintro e _ ⟨rfl, rfl⟩
      go_wp2_with fail
      go_roundw
      case rel => exact ⟨k7 + 1, by omega, by go_num, trivial⟩
      case measure => simp [intOf]; omega
    · go_wp2_with fail
      go_loopw [8] (fun i wr => ∃ k : Int, (-1 ≤ k ∧ k ≤ p + 1) ∧ i = .int .i64 k ∧ w = wr) (fun i _ => (p + 1 - intOf i).toNat)
      case atStart => exact ⟨-1, by omega, rfl, rfl⟩
      case round =>
        obtain ⟨k8, ⟨hk0, hk1⟩, rfl, rfl⟩ := hrel
        by_cases hlt : k8 ≤ p
        · have hc1 := HS1.out k8 ⟨by omega, by omega⟩
          have hc2 := HS2.out k8
          generalize stV m k8 = cv at hc1 hc2
          have HA := Lib.hid hc1
          have HB := Lib.hid hc2
          clear hc1 hc2
          go_wp2_with fail
          refine HA.out.mono ?_; rintro e _ ⟨rfl, rfl⟩
          go_wp2_with fail
          refine HB.out.mono ?_; rintro e _ ⟨rfl, rfl⟩
          go_wp2_with fail
          go_roundw
          case rel => exact ⟨k8 + 1, by omega, by go_num, trivial⟩
          case measure => simp [intOf]; omega
        · go_wp2_with fail
          go_loopw [9] (fun i wr => ∃ k : Int, (-1 ≤ k ∧ k ≤ (p : Int) / 16 + 1) ∧ i = .int .i64 k ∧ w = wr) (fun i _ => ((p : Int) / 16 + 1 - intOf i).toNat)
          case atStart => exact ⟨-1, by omega, rfl, rfl⟩
          case round =>
            obtain ⟨k9, ⟨hk0, hk1⟩, rfl, rfl⟩ := hrel
            have HP := Lib.hid (show (p : Int) / 16 ≤ 64 by omega)
            by_cases hlt : k9 ≤ (p : Int) / 16
            · have hc1 := HU1.out k9
              have hc2 := HU2.out k9
              generalize usV m k9 = cv at hc1 hc2
              have HA := Lib.hid hc1
              have HB := Lib.hid hc2
              clear hc1 hc2
              go_wp2_with fail
              refine HA.out.mono ?_; rintro e _ ⟨rfl, rfl⟩
              go_wp2_with fail
              refine HB.out.mono ?_; rintro e _ ⟨rfl, rfl⟩
              go_wp2_with fail
              go_roundw
              case rel => exact ⟨k9 + 1, by omega, by go_num, trivial⟩
              case measure => simp [intOf]; omega
            · go_wp2_with fail
              refine (Idle_any H1.out).mono ?_
              rintro e w1 ⟨A1, c1, rfl, hn1, hb1⟩
              have HN1 := Lib.hid hn1
              have HB1 := Lib.hid hb1
              have HT1 := Lib.hid (H1.out.below hb1)
              have HR1 := Lib.hid (H2.out.below hb1)
              clear hn1 hb1
              go_wp2_with fail
              refine (rIdle_any HR1.out).mono ?_
              rintro e w2 ⟨A2, c2, rfl, hn2, hb2⟩
              have hq2 := IntsEq_any A1 A2 c1 c2 _ _ _ w2 (by have := HL.out 1; have := HMH.out; omega) (HN1.out.below hb2) hn2
              have HQ2 := Lib.hid hq2
              have HB2 := Lib.hid (btr HB1.out hb2 (Nat.le_refl _))
              have HT2 := Lib.hid (HT1.out.below hb2)
              have HR2 := Lib.hid (HR1.out.below hb2)
              clear hn2 hb2 hq2
              go_wp2_with fail
              refine HQ2.out.mono ?_
              rintro e w3 ⟨rfl, hb3⟩
              have HB3 := Lib.hid (btr HB2.out hb3 (Nat.le_refl _))
              have HT3 := Lib.hid (HT2.out.below hb3)
              have HR3 := Lib.hid (HR2.out.below hb3)
              clear hb3
              go_wp2_with fail
              refine (Broken_any HT3.out).mono ?_
              rintro e w4 ⟨A4, c4, rfl, hn4, hb4⟩
              have HN4 := Lib.hid hn4
              have HB4 := Lib.hid (btr HB3.out hb4 (Nat.le_refl _))
              have HT4 := Lib.hid (HT3.out.below hb4)
              have HR4 := Lib.hid (HR3.out.below hb4)
              clear hn4 hb4
              go_wp2_with fail
              refine (rBroken_any HR4.out).mono ?_
              rintro e w5 ⟨A5, c5, rfl, hn5, hb5⟩
              have hq5 := IntsEq_any A4 A5 c4 c5 _ _ _ w5 (by have := HL.out 2; have := HMH.out; omega) (HN4.out.below hb5) hn5
              have HQ5 := Lib.hid hq5
              have HB5 := Lib.hid (btr HB4.out hb5 (Nat.le_refl _))
              have HT5 := Lib.hid (HT4.out.below hb5)
              have HR5 := Lib.hid (HR4.out.below hb5)
              clear hn5 hb5 hq5
              go_wp2_with fail
              refine HQ5.out.mono ?_
              rintro e w6 ⟨rfl, hb6⟩
              have HB6 := Lib.hid (btr HB5.out hb6 (Nat.le_refl _))
              have HT6 := Lib.hid (HT5.out.below hb6)
              have HR6 := Lib.hid (HR5.out.below hb6)
              clear hb6
              go_wp2_with fail
              refine (Whole_any HT6.out).mono ?_
              rintro e w7 ⟨A7, c7, rfl, hn7, hb7⟩
              have HN7 := Lib.hid hn7
              have HB7 := Lib.hid (btr HB6.out hb7 (Nat.le_refl _))
              have HR7 := Lib.hid (HR6.out.below hb7)
              clear hn7 hb7
              go_wp2_with fail
              refine (rWhole_any HR7.out).mono ?_
              rintro e w8 ⟨A8, c8, rfl, hn8, hb8⟩
              have hq8 := IntsEq_any A7 A8 c7 c8 _ _ _ w8 (by have := HL.out 3; have := HMH.out; omega) (HN7.out.below hb8) hn8
              have HQ8 := Lib.hid hq8
              have HB8 := Lib.hid (btr HB7.out hb8 (Nat.le_refl _))
              clear hn8 hb8 hq8
              go_wp2_with fail
              refine HQ8.out.mono ?_
              rintro e w9 ⟨rfl, hb9⟩
              go_wp2_with fail
              go_ret
              exact ⟨rfl, btr HB8.out hb9 (Nat.le_refl _)⟩

end Go.Proofs.Ytecfjibmpbgllaa
