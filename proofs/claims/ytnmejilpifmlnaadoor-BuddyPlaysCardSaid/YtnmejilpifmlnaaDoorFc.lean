/- The statements' helpers: alike. -/
import Derived.Test.YtnmejilpifmlnaaDoorFb
namespace Go.Proofs.YtnmejilpifmlnaaDoor
open Go.RowKit

theorem blV_len (m : Mo) (k : Int) : (blV m k).length ≤ m.n := by
  unfold blV
  split
  · exact bl_len _ _ _
  · exact Nat.zero_le _
theorem rs_len (m : Mo) : m.rs.length ≤ m.n := by
  unfold Mo.rs runsL
  rw [List.length_reverse]
  exact rr_len _ _ _

set_option maxRecDepth 100000 in
set_option maxHeartbeats 1000000 in
theorem alike_any {O1 O2 : Nat → Prop} {B1 B2 : Nat} {m : Mo} {w : World} (h1 : Hp w O1 B1 m) (h2 : Hp w O2 B2 m) :
    Calls Tryd.prog 27 #[.pointer (some ⟨B1, 0, none⟩), .pointer (some ⟨B2, 0, none⟩)] w fun e w' => e = .returned (.bool true) ∧ Below w.heap.size w w' := by
  have hn2 := h1.wf.n2
  have H1 := Lib.hid h1
  have hrl := rs_len m
  have H2 := Lib.hid h2
  have HFR := Lib.hid (fun w' (hb : Below w.heap.size w w') => And.intro (Free_any (h1.below hb)) (Free_any (h2.below hb)))
  have HOD := Lib.hid (fun w' (hb : Below w.heap.size w w') => And.intro (Order_any (h1.below hb)) (Order_any (h2.below hb)))
  have HRS := Lib.hid (fun w' (hb : Below w.heap.size w w') => And.intro (Runs_any (h1.below hb)) (Runs_any (h2.below hb)))
  clear h1 h2
  generalize m.fr = fr at HFR
  generalize m.od = od at HOD
  go_enter Tryd.func27, Tryd.ntmps27
  go_wp2
  go_loopw [5] (fun i wr => ∃ k : Nat, k ≤ 11 ∧ i = .int .i64 k ∧ Below w.heap.size w wr) (fun i _ => 11 - (intOf i).toNat)
  case atStart => exact ⟨0, by omega, rfl, Below.refl _ _⟩
  case round =>
    obtain ⟨k, hk, rfl, hB⟩ := hrel
    by_cases hlt : k < 11
    · have HB1 := Lib.hid (Blocks_any (k : Int) (H1.out.below hB) ⟨by omega, by omega⟩)
      have HB2 := Lib.hid (fun w' (hb : Below w.heap.size w w') => Blocks_any (k : Int) (H2.out.below hb) ⟨by omega, by omega⟩)
      have hbl := blV_len m (k : Int)
      generalize blV m (k : Int) = l at HB1 HB2 hbl
      go_wp2_with fail
      refine HB1.out.mono ?_
      rintro e w1 ⟨A1, c1, rfl, hn1, hb1⟩
      have hB1 := btr hB hb1 (Nat.le_refl _)
      go_wp2_with fail
      refine (HB2.out _ hB1).mono ?_
      rintro e w2 ⟨A2, c2, rfl, hn2, hb2⟩
      have hB2 := btr hB1 hb2 (Nat.le_refl _)
      go_wp2_with fail
      refine (Ints_any A1 A2 c1 c2 l _ (by omega) (hn1.rd.below hb2) hn2.rd).mono ?_
      rintro e w3 ⟨rfl, hb3⟩
      have hB3 := btr hB2 hb3 (Nat.le_refl _)
      clear hB hn1 hn2 hb1 hb2 hb3 hB1 hB2
      go_wp2_with fail
      go_roundw
      case rel => exact ⟨k + 1, by omega, by go_num, hB3⟩
      case measure => simp [intOf]; omega
    · go_wp2_with fail
      refine (HFR.out _ hB).1.mono ?_
      rintro e _ ⟨rfl, rfl⟩
      go_wp2_with fail
      refine (HFR.out _ hB).2.mono ?_
      rintro e _ ⟨rfl, rfl⟩
      go_wp2_with fail
      refine (HOD.out _ hB).1.mono ?_
      rintro e _ ⟨rfl, rfl⟩
      go_wp2_with fail
      refine (HOD.out _ hB).2.mono ?_
      rintro e _ ⟨rfl, rfl⟩
      go_wp2_with fail
      refine (HRS.out _ hB).1.mono ?_
      rintro e w1 ⟨A1, c1, rfl, hn1, hb1⟩
      have hB1 := btr hB hb1 (Nat.le_refl _)
      go_wp2_with fail
      refine (HRS.out _ hB1).2.mono ?_
      rintro e w2 ⟨A2, c2, rfl, hn2, hb2⟩
      have hB2 := btr hB1 hb2 (Nat.le_refl _)
      go_wp2_with fail
      refine (RunsE_any A1 A2 c1 c2 _ _ (by omega) (hn1.rd.below hb2) hn2.rd).mono ?_
      rintro e w3 ⟨rfl, hb3⟩
      have hB3 := btr hB2 hb3 (Nat.le_refl _)
      clear hB hn1 hn2 hb1 hb2 hb3 hB1 hB2
      go_wp2_with fail
      go_ret
      exact ⟨rfl, hB3⟩

end Go.Proofs.YtnmejilpifmlnaaDoor
