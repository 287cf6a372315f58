/- Both heaps: the same. -/
import Derived.Test.YtnmejilpifmlnaaDoorGf
namespace Go.Proofs.YtnmejilpifmlnaaDoor
open Go.RowKit

set_option maxRecDepth 100000 in
set_option maxHeartbeats 2000000 in
theorem Same_any {O1 O2 : Nat → Prop} {B C : Nat} {m : Mo} {w : World} (h1 : Hp w O1 B m) (h2 : Rf w O2 C m) :
    Calls Tryd.prog 19 #[.pointer (some ⟨B, 0, none⟩), .pointer (some ⟨C, 0, none⟩)] w (Yes w) := by
  have hn2 := h1.wf.n2
  have H1 := Lib.hid h1
  have H2 := Lib.hid h2
  have hrl := rs_len m
  have HFR := Lib.hid (And.intro (Free_any h1) (rFree_any h2))
  have HOD := Lib.hid (And.intro (Order_any h1) (rOrder_any h2))
  have HRS := Lib.hid (fun w' (hb : Below w.heap.size w w') => And.intro (Runs_any (h1.below hb)) (rRuns_any (h2.below hb)))
  have hbl := blV_len m
  have HBV := Lib.hid hbl
  clear h1 h2 hbl
  generalize m.fr = fr at HFR
  generalize m.od = od at HOD
  generalize m.rs = rs at HRS hrl
  go_enter Tryd.func19, Tryd.ntmps19
  go_wp2_with fail
  refine HFR.out.1.mono ?_
  rintro e _ ⟨rfl, rfl⟩
  go_wp2_with fail
  refine HFR.out.2.mono ?_
  rintro e _ ⟨rfl, rfl⟩
  go_wp2_with fail
  refine HOD.out.1.mono ?_
  rintro e _ ⟨rfl, rfl⟩
  go_wp2_with fail
  refine HOD.out.2.mono ?_
  rintro e w0 ⟨rfl, hb0⟩
  have HB0 := Lib.hid hb0
  clear hb0
  go_wp2_with fail
  refine (HRS.out _ HB0.out).1.mono ?_
  rintro e w1 ⟨A1, c1, rfl, hn1, hb1⟩
  have HB1 := Lib.hid (btr HB0.out hb1 (Nat.le_refl _))
  have HN1 := Lib.hid hn1
  clear hn1 hb1
  go_wp2_with fail
  refine (HRS.out _ HB1.out).2.mono ?_
  rintro e w2 ⟨A2, c2, rfl, hn2', hb2⟩
  have HQ := Lib.hid (RunsE_any A1 A2 c1 c2 _ _ (by omega) (HN1.out.rd.below hb2) hn2'.rd)
  have HB2 := Lib.hid (btr HB1.out hb2 (Nat.le_refl _))
  clear hn2' hb2
  go_wp2_with fail
  refine HQ.out.mono ?_
  rintro e w3 ⟨rfl, hb3⟩
  have HB3 := Lib.hid (btr HB2.out hb3 (Nat.le_refl _))
  clear hb3
  go_wp2_with fail
  go_loopw [5] (fun i wr => ∃ k : Int, (-1 ≤ k ∧ k ≤ 12) ∧ i = .int .i64 k ∧ Below w.heap.size w wr) (fun i _ => (12 - intOf i).toNat)
  case atStart => exact ⟨-1, by omega, rfl, HB3.out⟩
  case round =>
    clear HB3
    obtain ⟨k, ⟨hk0, hk1⟩, rfl, hb⟩ := hrel
    have HB := Lib.hid hb
    clear hb
    by_cases hlt : k ≤ 11
    · have HA1 := Lib.hid (Blocks_any k (H1.out.below HB.out) ⟨by omega, by omega⟩)
      have HA2 := Lib.hid (fun w' (hb : Below w.heap.size w w') => rBlocks_any k (H2.out.below hb))
      have hbl := HBV.out k
      generalize blV m k = l at HA1 HA2 hbl
      go_wp2_with fail
      refine HA1.out.mono ?_
      rintro e w4 ⟨A4, c4, rfl, hn4, hb4⟩
      have HB4 := Lib.hid (btr HB.out hb4 (Nat.le_refl _))
      have HN4 := Lib.hid hn4
      clear hn4 hb4
      go_wp2_with fail
      refine (HA2.out _ HB4.out).mono ?_
      rintro e w5 ⟨A5, c5, rfl, hn5, hb5⟩
      have HQ5 := Lib.hid (Ints_any A4 A5 c4 c5 l _ (by omega) (HN4.out.rd.below hb5) hn5.rd)
      have HB5 := Lib.hid (btr HB4.out hb5 (Nat.le_refl _))
      clear hn5 hb5
      go_wp2_with fail
      refine HQ5.out.mono ?_
      rintro e w6 ⟨rfl, hb6⟩
      have HB6 := Lib.hid (btr HB5.out hb6 (Nat.le_refl _))
      clear hb6
      go_wp2_with fail
      go_roundw
      case rel => exact ⟨k + 1, by omega, rfl, HB6.out⟩
      case measure => simp [intOf]; omega
    · go_wp2_with fail
      go_ret
      exact ⟨rfl, HB.out⟩

end Go.Proofs.YtnmejilpifmlnaaDoor
