/- The statements' helpers: Same. -/
import Derived.Test.YticcjelaenhigaaFd
import Derived.Test.YticcjelaenhigaaRc
namespace Go.Proofs.Yticcjelaenhigaa
open Go.RowKit Go.Lib

theorem objT_le {r : Bool} {w : World} {O : Nat → Prop} {v : Value} {om : Option Tc} (h : TOb r w O v om) (x : Int) : (objT om x).length ≤ 256 := by
  unfold objT
  cases hk : atK om x with
  | none => exact Nat.zero_le _
  | some k =>
    cases om with
    | none => cases hk
    | some c => exact (h.wf.at hk).2.2.2.len
set_option maxRecDepth 100000 in
set_option maxHeartbeats 8000000 in
theorem Same_any {w : World} {a b : Value} {om : Option Tc} {O1 O2 : Nat → Prop} (n : Nat) (hn : n ≤ 100) (h1 : TOb false w O1 a om) (h2 : TOb true w O2 b om) : Calls Try.prog 21 #[a, b, .int .i64 n] w (Yes w) := by
  have H1 := Lib.hid (fun W (hb : Below w.heap.size w W) => h1.below hb)
  have H2 := Lib.hid (fun W (hb : Below w.heap.size w W) => h2.below hb)
  have HL := Lib.hid (objT_le h1)
  clear h1 h2
  go_enter Try.func21, Try.ntmps21
  go_wp2
  go_loopw [7] (fun i wr => ∃ k : Int, -1 ≤ k ∧ k ≤ (n : Int) + 1 ∧ i = .int .i64 k ∧ Below w.heap.size w wr) (fun i _ => ((n : Int) + 1 - intOf i).toNat)
  case atStart => exact ⟨-1, by omega, by omega, rfl, Below.refl _ _⟩
  case round =>
    obtain ⟨k, hk1, hk2, rfl, hB⟩ := hrel
    have HB := Lib.hid hB
    by_cases hlt : k ≤ (n : Int)
    · have d0 : decide (k ≤ (n : Int)) = true := decide_eq_true hlt
      have hx : InR k := ⟨by omega, by omega⟩
      have ha := H1.out _ hB
      have hb := H2.out _ hB
      have L1 := Lib.hid (cLen_any ha hx)
      have L2 := Lib.hid (dLen_any (x := k) hb)
      have M1 := Lib.hid (cLimit_any ha hx)
      have M2 := Lib.hid (dLimit_any (x := k) hb)
      have W1 := Lib.hid (cLow_any ha hx)
      have W2 := Lib.hid (dLow_any (x := k) hb)
      have B1 := Lib.hid (cObjects_any ha hx)
      have B2 := Lib.hid (fun W (hbb : Below w.heap.size w W) => dObjects_any (x := k) (H2.out _ hbb))
      have hol := HL.out k
      have HI := Lib.hid (fun (A A' : Option Addr) (c c' : Nat) (W : World) (P P' : Nat → Prop) (hT : IAt P W A (objT om k)) (hT' : IAt P' W A' (objT om k)) => Ints_any A A' c c' (objT om k) W (by omega) hT hT')
      generalize lenT om k = ln at *
      generalize limT om k = lm at *
      generalize lowT om k = lw at *
      generalize objT om k = lo at *
      clear ha hb hB hol
      go_wp2_with fail
      refine L1.out.mono ?_
      rintro e _ ⟨rfl, rfl⟩
      go_wp2_with fail
      refine L2.out.mono ?_
      rintro e _ ⟨rfl, rfl⟩
      go_wp2_with fail
      refine M1.out.mono ?_
      rintro e _ ⟨rfl, rfl⟩
      go_wp2_with fail
      refine M2.out.mono ?_
      rintro e _ ⟨rfl, rfl⟩
      go_wp2_with fail
      refine W1.out.mono ?_
      rintro e _ ⟨rfl, rfl⟩
      go_wp2_with fail
      refine W2.out.mono ?_
      rintro e _ ⟨rfl, rfl⟩
      go_wp2_with fail
      refine B1.out.mono ?_
      rintro e w1 ⟨A1, c1, rfl, hi, hb⟩
      have P1 := Lib.hid (And.intro hi (btr HB.out hb (Nat.le_refl _)))
      clear hi hb
      go_wp2_with fail
      refine (B2.out _ P1.out.2).mono ?_
      rintro e w2 ⟨A2, c2, rfl, hi, hb⟩
      have P2 := Lib.hid (And.intro hi (btr P1.out.2 hb (Nat.le_refl _)))
      have P3 := Lib.hid (P1.out.1.below hb)
      clear hi hb
      go_wp2_with fail
      refine (HI.out _ _ _ _ _ _ _ P3.out P2.out.1).mono ?_
      rintro e w3 ⟨rfl, hb⟩
      have HB3 := Lib.hid (btr P2.out.2 hb (Nat.le_refl _))
      clear hb
      go_wp2_with fail
      go_roundw
      case rel => exact ⟨k + 1, by omega, by omega, by go_num, HB3.out⟩
      case measure => simp [intOf]; omega
    · have d0 : decide (k ≤ (n : Int)) = false := decide_eq_false hlt
      have Y1 := Lib.hid (cBytes_any (H1.out _ hB))
      have Y2 := Lib.hid (fun W (hbb : Below w.heap.size w W) => dBytes_any (H2.out _ hbb))
      have V1 := Lib.hid (fun W (hbb : Below w.heap.size w W) => cOver_any (H1.out _ hbb))
      have V2 := Lib.hid (fun W (hbb : Below w.heap.size w W) => dOver_any (H2.out _ hbb))
      generalize byT om = bt at *
      generalize ovT om = ov at *
      clear hB
      go_wp2_with fail
      refine Y1.out.mono ?_
      rintro e w1 ⟨rfl, hb⟩
      have B1 := Lib.hid (btr HB.out hb (Nat.le_refl _))
      clear hb
      go_wp2_with fail
      refine (Y2.out _ B1.out).mono ?_
      rintro e w2 ⟨rfl, hb⟩
      have B2 := Lib.hid (btr B1.out hb (Nat.le_refl _))
      clear hb
      go_wp2_with fail
      refine (V1.out _ B2.out).mono ?_
      rintro e w3 ⟨rfl, hb⟩
      have B3 := Lib.hid (btr B2.out hb (Nat.le_refl _))
      clear hb
      go_wp2_with fail
      refine (V2.out _ B3.out).mono ?_
      rintro e w4 ⟨rfl, hb⟩
      have B4 := Lib.hid (btr B3.out hb (Nat.le_refl _))
      clear hb
      go_wp2_with fail
      go_ret
      exact ⟨by simp, B4.out⟩
end Go.Proofs.Yticcjelaenhigaa
