/- The statements' helper Power. -/
import Derived.Test.YtnmejilpifmlnaaDoorXd
namespace Go.Proofs.YtnmejilpifmlnaaDoor
open Go.RowKit

theorem powI_iff {a : Int} : powI a = true ↔ ∃ i : Nat, i ≤ 10 ∧ a = ((2 ^ i : Nat) : Int) := by
  unfold powI
  rw [decide_eq_true_eq]
  constructor
  · rintro (h | h | h | h | h | h | h | h | h | h | h)
    · exact ⟨0, by omega, h⟩
    · exact ⟨1, by omega, h⟩
    · exact ⟨2, by omega, h⟩
    · exact ⟨3, by omega, h⟩
    · exact ⟨4, by omega, h⟩
    · exact ⟨5, by omega, h⟩
    · exact ⟨6, by omega, h⟩
    · exact ⟨7, by omega, h⟩
    · exact ⟨8, by omega, h⟩
    · exact ⟨9, by omega, h⟩
    · exact ⟨10, by omega, h⟩
  · rintro ⟨i, hi, h⟩
    have : i = 0 ∨ i = 1 ∨ i = 2 ∨ i = 3 ∨ i = 4 ∨ i = 5 ∨ i = 6 ∨ i = 7 ∨ i = 8 ∨ i = 9 ∨ i = 10 := by omega
    rcases this with rfl | rfl | rfl | rfl | rfl | rfl | rfl | rfl | rfl | rfl | rfl <;> (subst h; decide)

/-- The powers up to the limit, one after the other. -/
structure Pw (a : Int) (i P : Nat) : Prop where
  i11 : i ≤ 11
  p : P = 2 ^ i
  lo : i ≤ 10 → P ≤ 1024
  hi : i = 11 → P = 2048
  pos : 1 ≤ P
  no : ∀ j, j < i → a ≠ ((2 ^ j : Nat) : Int)
theorem Pw.start (a : Int) : Pw a 0 1 := ⟨by omega, rfl, (fun _ => by omega), (fun h => by omega), by omega, (fun j h => absurd h (Nat.not_lt_zero _))⟩
theorem Pw.step {a : Int} {i P : Nat} (h : Pw a i P) (hi : i ≤ 10) (hn : a ≠ (P : Int)) : Pw a (i + 1) (2 * P) := by
  refine ⟨by omega, by rw [Nat.pow_succ, h.p, Nat.mul_comm], fun h2 => ?_, fun h2 => ?_, by have := h.pos; omega, fun j hj => ?_⟩
  · have := pow_le (j := i + 1) (k := 10) h2
    rw [h.p, Nat.mul_comm, ← Nat.pow_succ]
    omega
  · have e : i = 10 := by omega
    subst e
    rw [h.p]
  · by_cases e : j = i
    · subst e; rw [← h.p]; exact hn
    · exact h.no j (by omega)
theorem Pw.none {a : Int} {P : Nat} (h : Pw a 11 P) : powI a = false := by
  cases hp : powI a
  · rfl
  · obtain ⟨i, hi, e⟩ := powI_iff.1 hp
    exact absurd e (h.no i (by omega))
theorem Pw.yes {a : Int} {i P : Nat} (h : Pw a i P) (hi : i ≤ 10) (e : a = (P : Int)) : powI a = true := powI_iff.2 ⟨i, hi, by rw [← h.p]; exact e⟩

set_option maxHeartbeats 400000 in
theorem Power_any (a : Int) (w : World) : Calls Tryd.prog 26 #[.int .i64 a, .int .i64 1024] w fun e w' => e = .returned (.bool (powI a)) ∧ w = w' := by
  go_enter Tryd.func26, Tryd.ntmps26
  go_wp2
  go_loopw [5] (fun v wr => ∃ i P : Nat, v = .int .i64 P ∧ Pw a i P ∧ w = wr) (fun v _ => 4096 - (intOf v).toNat)
  case atStart => exact ⟨0, 1, rfl, Pw.start a, rfl⟩
  case round =>
    obtain ⟨i, P, rfl, hP, rfl⟩ := hrel
    have hpos := hP.pos
    by_cases hi : i ≤ 10
    · have hlo := hP.lo hi
      by_cases e : a = (P : Int)
      · have hy := hP.yes hi e
        subst e
        clear hP
        go_wp2_with fail
        go_ret
        exact ⟨ret_bool hy.symm, rfl⟩
      · have hst := hP.step hi e
        have hne : ¬ (P : Int) = a := fun h => e h.symm
        have hw : IntKind.i64.wrap (2 * (P : Int)) = ((2 * P : Nat) : Int) := by rw [show (2 : Int) * P = ((2 * P : Nat) : Int) from by omega]; exact IntWalk.i64_in _ (by omega)
        have HST := Lib.hid hst
        clear hP hst
        go_wp2_with fail
        go_roundw
        case rel => exact ⟨i + 1, 2 * P, by congr 1, HST.out, trivial⟩
        case measure => simp [intOf]; omega
    · obtain rfl : i = 11 := by have := hP.i11; omega
      have h48 := hP.hi rfl
      have hno := hP.none
      clear hP
      go_wp2_with fail
      go_ret
      exact ⟨ret_bool hno.symm, rfl⟩

end Go.Proofs.YtnmejilpifmlnaaDoor
