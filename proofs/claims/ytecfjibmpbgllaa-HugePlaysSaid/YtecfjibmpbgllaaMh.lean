/- The pages of a huge page, counted by their states. -/
import Derived.Test.YtecfjibmpbgllaaMg
import Derived.Test.YtecfjibmpbgllaaXc
import Derived.Deep.RegionHeld3
namespace Go.Proofs.Ytecfjibmpbgllaa
open Go.RowKit

theorem kd_cases {m : Mo} (hwf : WF m) {k : Nat} (hk : k < m.h) :
    (kdS m.S k = 0 ∧ cnt m.S 0 (16 * k) 16 = 16 ∧ cnt m.S 1 (16 * k) 16 = 0) ∨ (kdS m.S k = 1 ∧ cnt m.S 0 (16 * k) 16 = 0 ∧ cnt m.S 1 (16 * k) 16 = 0) ∨
    (kdS m.S k = 2 ∧ cnt m.S 0 (16 * k) 16 = 0 ∧ 1 ≤ cnt m.S 1 (16 * k) 16 ∧ 1 ≤ cnt m.S 3 (16 * k) 16) ∨ (kdS m.S k = 3 ∧ cnt m.S 0 (16 * k) 16 = 0 ∧ 1 ≤ cnt m.S 1 (16 * k) 16 ∧ cnt m.S 3 (16 * k) 16 = 0) := by
  rcases hwf.u k hk with h | h
  · left
    refine ⟨?_, cnt_all h, cnt_none (fun j hj => by rw [h j hj]; omega)⟩
    unfold kdS
    rw [if_pos (by have := h 0 (by omega); rwa [Nat.add_zero] at this)]
  · right
    have h0 : cnt m.S 0 (16 * k) 16 = 0 := cnt_none h
    have h00 : m.S (16 * k) ≠ 0 := by have := h 0 (by omega); rwa [Nat.add_zero] at this
    have p1 := cnt_pos m.S 1 (16 * k) 16
    have p3 := cnt_pos m.S 3 (16 * k) 16
    unfold kdS
    rw [if_neg h00]
    by_cases e1 : anyS m.S 1 (16 * k) 16 = true
    · rw [if_pos e1]
      right
      have q1 := p1.2 e1
      by_cases e3 : anyS m.S 3 (16 * k) 16 = true
      · rw [if_pos e3]
        exact .inl ⟨rfl, h0, q1, p3.2 e3⟩
      · rw [if_neg e3]
        exact .inr ⟨rfl, h0, q1, Nat.eq_zero_of_not_pos (fun h => e3 (p3.1 h))⟩
    · rw [if_neg e1]
      exact .inl ⟨rfl, h0, Nat.eq_zero_of_not_pos (fun h => e1 (p1.1 h))⟩
theorem cnt_four {S : Nat → Nat} (h : ∀ i, S i ≤ 3) (a : Nat) : ∀ k, cnt S 0 a k + cnt S 1 a k + cnt S 2 a k + cnt S 3 a k = k
  | 0 => rfl
  | k + 1 => by
    have ih := cnt_four h a k
    have := h (a + k)
    have hc : S (a + k) = 0 ∨ S (a + k) = 1 ∨ S (a + k) = 2 ∨ S (a + k) = 3 := by omega
    unfold cnt
    rcases hc with e | e | e | e <;> rw [e] <;> simp <;> omega
theorem new4 (w : World) : Cl (w.alloc (.cells #[.int .i64 0, .int .i64 0, .int .i64 0, .int .i64 0] 45)) w.heap.size 4 (fun _ => .int .i64 ((0 : Nat) : Int)) := by
  constructor
  · intro i hi
    have : i = 0 ∨ i = 1 ∨ i = 2 ∨ i = 3 := by omega
    rcases this with rfl | rfl | rfl | rfl <;> go_simp
  · intro i hi
    have : i = 0 ∨ i = 1 ∨ i = 2 ∨ i = 3 := by omega
    rcases this with rfl | rfl | rfl | rfl <;> go_simp

theorem cl_vals {w : World} {g a : Nat} {S : Nat → Nat} (h : Cl w g 4 (fun j => .int .i64 ((cnt S j a 16 : Nat) : Int))) {v0 v1 v3 : Int} (hv : (cnt S 0 a 16 : Int) = v0 ∧ (cnt S 1 a 16 : Int) = v1 ∧ (cnt S 3 a 16 : Int) = v3) :
    w.cell? ⟨g, 0, none⟩ = some (.int .i64 v0) ∧ w.cell? ⟨g, 1, none⟩ = some (.int .i64 v1) ∧ w.cell? ⟨g, 3, none⟩ = some (.int .i64 v3) := by
  obtain ⟨rfl, rfl, rfl⟩ := hv
  exact ⟨h.cell 0 (by omega), h.cell 1 (by omega), h.cell 3 (by omega)⟩
theorem cl_next {w : World} {g a t s : Nat} {S : Nat → Nat} (h : Cl w g 4 (fun j => .int .i64 ((cnt S j a t : Nat) : Int))) (hs : S (a + t) = s) {v : Int} (hv : v = ((cnt S s a t : Nat) : Int) + 1) :
    Cl (w.setCell ⟨g, s, none⟩ (.int .i64 v)) g 4 (fun j => .int .i64 ((cnt S j a (t + 1) : Nat) : Int)) := by
  refine (h.set s _).congr fun j _ => ?_
  by_cases e : j = s
  · subst e
    rw [if_pos rfl, cnt_hit hs, hv]
    rfl
  · rw [if_neg e, cnt_miss (fun h => e (h.symm.trans hs))]

theorem Used_quiet {O : Nat → Prop} {B : Nat} {m : Mo} {w : World} {g v : Int} (h : Tk w O B m) (hv : usV m g = v) (n : Nat) :
    Calls Try.prog 26 #[.pointer (some ⟨B, 0, none⟩), .int .i64 g] (w.drewN n) fun e w'' => e = .returned (.int .i64 v) ∧ ∃ k, w'' = w.drewN k := by
  subst hv
  exact Calls.quiet_of_same (back (Used_any g (h.below (belowN (Below.refl _ _) n))))

end Go.Proofs.Ytecfjibmpbgllaa
