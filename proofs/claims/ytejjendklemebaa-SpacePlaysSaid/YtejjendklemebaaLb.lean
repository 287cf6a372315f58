/- Package space: which pages of a run are mapped, which words can be accessed. -/
import Derived.Test.YtejjendklemebaaLa
namespace Go.Proofs.Ytejjendklemebaa
open Go.RowKit

theorem allM_true {m : Mo} {s L : Nat} (h : ∀ j : Nat, j < L → m.st (s + j) ≠ 0) : allM m s L = true := decide_eq_true h
theorem allM_false {m : Mo} {s L k : Nat} (hk : k < L) (h : m.st (s + k) = 0) : allM m s L = false := decide_eq_false fun hh => hh k hk h
theorem noneM_true {m : Mo} {s L : Nat} (h : ∀ j : Nat, j < L → m.st (s + j) = 0) : noneM m s L = true := decide_eq_true h
theorem noneM_false {m : Mo} {s L k : Nat} (hk : k < L) (h : m.st (s + k) ≠ 0) : noneM m s L = false := decide_eq_false fun hh => h (hh k hk)

set_option maxHeartbeats 400000 in
theorem allMapped_any {O : Nat → Prop} {B A cap : Nat} {pt : Nat → Option Nat} {m : Mo} {w : World} (h : SpA w O B A cap pt m) (s L c : Nat) (hL : s + L ≤ m.n) :
    Calls Try.prog 75 #[.slice (some ⟨A, s * 2, none⟩) L c] w fun e w' => e = .returned (.bool (allM m s L)) ∧ Below w.heap.size w w' := by
  have hn2 := h.wf.n2
  have HS := Lib.hid h
  clear h
  go_enter Try.func75, Try.ntmps75
  go_wp2
  go_loopw [7] (fun i wr => ∃ k : Nat, k ≤ L ∧ i = .int .i64 k ∧ (∀ j : Nat, j < k → m.st (s + j) ≠ 0) ∧ Below w.heap.size w wr) (fun i _ => L - (intOf i).toNat)
  case atStart => exact ⟨0, by omega, rfl, fun _ h => absurd h (by omega), Below.refl _ _⟩
  case round =>
    obtain ⟨k, hk, rfl, hall, hB⟩ := hrel
    have HA := Lib.hid hall
    clear hall
    by_cases hlt : k < L
    · have hS := HS.out.below hB
      have g0 := hS.a0 (k := s + k) (by omega)
      have g1 := hS.a1 (k := s + k) (by omega)
      rw [show (s + k) * 2 = s * 2 + k * 2 from by omega] at g0 g1
      clear hS
      by_cases hz : m.st (s + k) = 0
      · rw [decide_eq_false (by omega)] at g0
        have HZ := Lib.hid hz
        clear hz
        go_wp2_with (go_at_call 61; refine (isMapped_any _ _ _).mono ?_; rintro e w1 ⟨rfl, hb1⟩)
        go_ret
        exact ⟨ret_bool (allM_false hlt HZ.out).symm, btr hB (btr (bnew wr _) hb1 (Nat.le_refl _)) (Nat.le_refl _)⟩
      · rw [decide_eq_true hz] at g0
        have HZ := Lib.hid hz
        clear hz
        go_wp2_with (go_at_call 61; refine (isMapped_any _ _ _).mono ?_; rintro e w1 ⟨rfl, hb1⟩)
        go_roundw
        case rel => exact ⟨k + 1, by omega, by go_num, fun j hj => (by rcases Nat.lt_or_ge j k with hjk | hjk; exact HA.out j hjk; rw [show j = k from by omega]; exact HZ.out), btr hB (btr (bnew wr _) hb1 (Nat.le_refl _)) (Nat.le_refl _)⟩
        case measure => simp [intOf]; omega
    · go_wp2
      go_ret
      obtain rfl : k = L := by omega
      exact ⟨ret_bool (allM_true HA.out).symm, hB⟩

set_option maxHeartbeats 400000 in
/-- The first page of a run that is mapped. -/
theorem indexFunc_any {O : Nat → Prop} {B A cap : Nat} {pt : Nat → Option Nat} {m : Mo} {w : World} (h : SpA w O B A cap pt m) (s L c : Nat) (hL : s + L ≤ m.n) :
    Calls Try.prog 76 #[.slice (some ⟨A, s * 2, none⟩) L c, .func (.func 61) #[] #[]] w fun e w' => (∃ r : Int, -1 ≤ r ∧ r < 1024 ∧ (0 ≤ r ↔ noneM m s L = false) ∧ e = .returned (.int .i64 r)) ∧ Below w.heap.size w w' := by
  have hn2 := h.wf.n2
  have HS := Lib.hid h
  clear h
  go_enter Try.func76, Try.ntmps76
  go_wp2
  go_loopw [8] (fun i wr => ∃ k : Nat, k ≤ L ∧ i = .int .i64 k ∧ (∀ j : Nat, j < k → m.st (s + j) = 0) ∧ Below w.heap.size w wr) (fun i _ => L - (intOf i).toNat)
  case atStart => exact ⟨0, by omega, rfl, fun _ h => absurd h (by omega), Below.refl _ _⟩
  case round =>
    obtain ⟨k, hk, rfl, hall, hB⟩ := hrel
    have HA := Lib.hid hall
    clear hall
    by_cases hlt : k < L
    · have hS := HS.out.below hB
      have g0 := hS.a0 (k := s + k) (by omega)
      have g1 := hS.a1 (k := s + k) (by omega)
      rw [show (s + k) * 2 = s * 2 + k * 2 from by omega] at g0 g1
      clear hS
      by_cases hz : m.st (s + k) = 0
      · rw [decide_eq_false (by omega)] at g0
        have HZ := Lib.hid hz
        clear hz
        go_wp2_with (go_at_call 61; refine (isMapped_any _ _ _).mono ?_; rintro e w1 ⟨rfl, hb1⟩)
        go_roundw
        case rel => exact ⟨k + 1, by omega, by go_num, fun j hj => (by rcases Nat.lt_or_ge j k with hjk | hjk; exact HA.out j hjk; rw [show j = k from by omega]; exact HZ.out), btr hB hb1 (Nat.le_refl _)⟩
        case measure => simp [intOf]; omega
      · rw [decide_eq_true hz] at g0
        have HZ := Lib.hid hz
        clear hz
        go_wp2_with (go_at_call 61; refine (isMapped_any _ _ _).mono ?_; rintro e w1 ⟨rfl, hb1⟩)
        go_ret
        exact ⟨⟨k, by omega, by omega, ⟨fun _ => noneM_false hlt HZ.out, fun _ => by omega⟩, rfl⟩, btr hB hb1 (Nat.le_refl _)⟩
    · go_wp2
      go_ret
      obtain rfl : k = L := by omega
      exact ⟨⟨-1, by omega, by omega, ⟨fun h => by omega, fun h => by rw [noneM_true HA.out] at h; cases h⟩, rfl⟩, hB⟩

set_option maxHeartbeats 400000 in
theorem containsFunc_any {O : Nat → Prop} {B A cap : Nat} {pt : Nat → Option Nat} {m : Mo} {w : World} (h : SpA w O B A cap pt m) (s L c : Nat) (hL : s + L ≤ m.n) :
    Calls Try.prog 66 #[.slice (some ⟨A, s * 2, none⟩) L c, .func (.func 61) #[] #[]] w fun e w' => e = .returned (.bool (!noneM m s L)) ∧ Below w.heap.size w w' := by
  have HC := Lib.hid (fun w' (h : SpA w' O B A cap pt m) => indexFunc_any h s L c hL)
  have HS := Lib.hid h
  clear h
  go_enter Try.func66, Try.ntmps66
  go_wp2_with fail
  refine (HC.out _ HS.out).mono ?_
  rintro e w1 ⟨⟨r, h1, h2, h3, rfl⟩, hb1⟩
  have H3 := Lib.hid h3
  clear h3
  go_wp2
  go_ret
  exact ⟨ret_bool (by rw [Bool.eq_iff_iff]; simp [H3.out]), hb1⟩

end Go.Proofs.Ytejjendklemebaa
