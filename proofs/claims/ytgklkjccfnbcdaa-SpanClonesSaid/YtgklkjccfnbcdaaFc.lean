/- The statements' Same; the examples of the chapter. -/
import Derived.Test.YtgklkjccfnbcdaaFb
namespace Go.Proofs.Ytgklkjccfnbcdaa
open Go.RowKit

theorem ob_pt {r : Bool} {w : World} {O : Nat → Prop} {v : Value} {om : Option Mo} (h : Ob r w O v om) : ∃ p, v = .pointer p := by
  cases om with
  | none =>
    rcases h.1 with h | ⟨B, h, _⟩
    · exact ⟨_, h⟩
    · exact ⟨_, h⟩
  | some m =>
    obtain ⟨B, _, _, e, _⟩ := h
    exact ⟨_, e⟩

set_option maxRecDepth 100000 in
set_option maxHeartbeats 4000000 in
theorem Same_any {w : World} {O1 O2 : Nat → Prop} {v r : Value} {om : Option Mo} (h1 : Ob false w O1 v om) (h2 : Ob true w O2 r om) :
    Calls Try.prog 17 #[v, r] w (Yes w) := by
  obtain ⟨p, rfl⟩ := ob_pt h1
  obtain ⟨q, rfl⟩ := ob_pt h2
  have hll := lst_len h1
  have A1 := Lib.hid (Objects_any h1)
  have A2 := Lib.hid (rObjects_any h2)
  have A3 := Lib.hid (Taken_any h1)
  have A4 := Lib.hid (fun W (hb : Below w.heap.size w W) => rTaken_any (h2.below hb))
  have A5 := Lib.hid (fun W (hb : Below w.heap.size w W) => Bits_any (h1.below hb))
  have A6 := Lib.hid (fun W (hb : Below w.heap.size w W) => rBits_any (h2.below hb))
  have A7 := Lib.hid (fun W (hb : Below w.heap.size w W) => List_any (h1.below hb))
  have A8 := Lib.hid (fun W (hb : Below w.heap.size w W) => rList_any (h2.below hb))
  have A9 := Lib.hid (fun W (hb : Below w.heap.size w W) => Run_any (h1.below hb))
  have A10 := Lib.hid (fun W (hb : Below w.heap.size w W) => rRun_any (h2.below hb))
  have A11 := Lib.hid (fun W (hb : Below w.heap.size w W) => Class_any (h1.below hb))
  have A12 := Lib.hid (fun W (hb : Below w.heap.size w W) => rClass_any (h2.below hb))
  have A0 := Lib.hid (fun (A A' : Option Addr) (c c' : Nat) (W : World) (hT : LAt W A (lst om)) (hT' : LAt W A' (lst om)) => Ints_any A A' c c' (lst om) W (by omega) hT hT')
  have hq1 := eq_runV om
  have hq2 := eq_clsV om
  clear h1 h2 hll
  obtain ⟨RV, hRV⟩ : ∃ xs, runV om = .agg xs := by cases om <;> exact ⟨_, rfl⟩
  obtain ⟨CV, hCV⟩ : ∃ xs, clsV om = .agg xs := by cases om <;> exact ⟨_, rfl⟩
  rw [hRV] at A9 A10 hq1
  rw [hCV] at A11 A12 hq2
  have hg1 : ∀ (x y : Operand) (W : World), (eqGuard .eql 62 x y (.agg RV) (.agg RV)).run Try.prog W = .ok () W := fun x y W => run_eqGuard_agg W .eql 62 x y RV RV (by kernel_rfl)
  have hg2 : ∀ (x y : Operand) (W : World), (eqGuard .eql 23 x y (.agg CV) (.agg CV)).run Try.prog W = .ok () W := fun x y W => run_eqGuard_agg W .eql 23 x y CV CV (by kernel_rfl)
  clear hRV hCV
  generalize bitsS om = S at *
  generalize (tkO om).length = T at *
  generalize numO om = Nn at *
  obtain ⟨L, hL⟩ : ∃ L, lst om = L := ⟨_, rfl⟩
  rw [hL] at A7 A8 A0
  obtain ⟨n, hn⟩ : ∃ n, L.length = n := ⟨_, rfl⟩
  have HN := Lib.hid hn
  skip
  clear hL hn
  go_enter Try.func17, Try.ntmps17
  go_wp2_with (first
    | (go_at_call 19; refine A1.out.mono ?_; rintro e _ ⟨rfl, rfl⟩)
    | (go_at_call 43; refine A2.out.mono ?_; rintro e _ ⟨rfl, rfl⟩)
    | (go_at_call 25; refine A3.out.mono ?_; rintro e w3 ⟨rfl, hb⟩; have B3 := Lib.hid hb; clear hb)
    | (go_at_call 44; refine (A4.out _ B3.out).mono ?_; rintro e w4 ⟨rfl, hb⟩; have B4 := Lib.hid (btr B3.out hb (Nat.le_refl _)); clear hb)
    | (go_at_call 24; refine (A5.out _ B4.out).mono ?_; rintro e w5 ⟨rfl, hb⟩; have B5 := Lib.hid (btr B4.out hb (Nat.le_refl _)); clear hb)
    | (go_at_call 45; refine (A6.out _ B5.out).mono ?_; rintro e w6 ⟨rfl, hb⟩; have B6 := Lib.hid (btr B5.out hb (Nat.le_refl _)); clear hb)
    | (go_at_call 26; refine (A7.out _ B6.out).mono ?_; rintro e w7 ⟨P7, c7, rfl, hl7, hb⟩; have L7 := Lib.hid (LstP.at hl7); have B7 := Lib.hid (btr B6.out hb (Nat.le_refl _)); clear hb hl7)
    | (go_at_call 47; refine (A8.out _ B7.out).mono ?_; rintro e w8 ⟨P8, c8, rfl, hl8, hb⟩; have L8 := Lib.hid (LstP.at hl8); have L7' := Lib.hid (L7.out.below hb); have B8 := Lib.hid (btr B7.out hb (Nat.le_refl _)); clear hb hl8)
    | (go_at_call 46; refine (A0.out _ _ _ _ _ L7'.out L8.out).mono ?_; rintro e w9 ⟨rfl, hb⟩; have B9 := Lib.hid (btr B8.out hb (Nat.le_refl _)); clear hb)
    | (go_at_call 30; refine (A9.out _ B9.out).mono ?_; rintro e w10 ⟨rfl, hb⟩; have B10 := Lib.hid (btr B9.out hb (Nat.le_refl _)); clear hb)
    | (go_at_call 48; refine (A10.out _ B10.out).mono ?_; rintro e w11 ⟨rfl, hb⟩; have B11 := Lib.hid (btr B10.out hb (Nat.le_refl _)); clear hb)
    | (go_at_call 31; refine (A11.out _ B11.out).mono ?_; rintro e w12 ⟨rfl, hb⟩; have B12 := Lib.hid (btr B11.out hb (Nat.le_refl _)); clear hb)
    | (go_at_call 49; refine (A12.out _ B12.out).mono ?_; rintro e w13 ⟨rfl, hb⟩; have B13 := Lib.hid (btr B12.out hb (Nat.le_refl _)); clear hb))
  go_ret
  exact ⟨rfl, B13.out⟩

end Go.Proofs.Ytgklkjccfnbcdaa
