/- The statement about states: what it has counted so far. -/
import Derived.Test.YtejjendklemebaaRb
namespace Go.Proofs.Ytejjendklemebaa
open Go.RowKit

theorem sumR_append (l k : List (Nat × Nat)) : sumR (l ++ k) = sumR l + sumR k := by
  induction l with
  | nil => simp [sumR]
  | cons x t ih => simp [sumR] at ih ⊢; omega
theorem sumR_le (st : Nat → Int) (s : Int) (n i : Nat) : sumR ((runsL st s n).take i) ≤ n := by
  have h : sumR (runsL st s n) = sumR ((runsL st s n).take i) + sumR ((runsL st s n).drop i) := by rw [← sumR_append, List.take_append_drop]
  have h2 := sumR_runs st s n
  have h3 : cntS st s n ≤ n := by
    unfold cntS
    have := List.countP_le_length (p := fun k => decide (st k = s)) (l := List.range n)
    simpa using this
  omega

/-- The pages that were told: all of the states before, and those of this state before e. -/
def tld (st : Nat → Int) (s e : Nat) : Nat → Value := fun p => .int .i64 (if st p < s ∨ (st p = s ∧ p < e) then 1 else 0)
/-- The sums: all of the states before, and so many of this state. -/
def sms (st : Nat → Int) (n s q : Nat) : Nat → Value := fun j => .int .i64 (if j < s then (cntS st j n : Nat) else if j = s then (q : Int) else 0)

def Two (T S : Nat) : Nat → Prop := fun k => k = T ∨ k = S
theorem Keep.tr {O : Nat → Prop} {w w1 w2 : World} (h : Keep O w w1) (k : Keep O w1 w2) : Keep O w w2 := h.trans (k.mono fun _ _ hk => .inl hk)

structure Told (w2 wr : World) (m : Mo) (T S : Nat) (s e q : Nat) : Prop where
  k : Keep (Two T S) w2 wr
  t : Cl wr T m.n (tld m.st s e)
  s : Cl wr S 3 (sms m.st m.n s q)
  ne : T ≠ S
  tl : T < wr.heap.size
  sl : S < wr.heap.size

section
variable {w2 wr w1 : World} {m : Mo} {T S s e q : Nat}
theorem Told.then (h : Told w2 wr m T S s e q) (hb : Below wr.heap.size wr w1) : Told w2 w1 m T S s e q :=
  ⟨h.k.tr (Keep.of hb), h.t.of_block (hb.block _ h.tl), h.s.of_block (hb.block _ h.sl), h.ne, Nat.lt_of_lt_of_le h.tl hb.size, Nat.lt_of_lt_of_le h.sl hb.size⟩
theorem Told.cell (h : Told w2 wr m T S s e q) {p : Nat} (hp : p < m.n) (hs : m.st p = s) (he : e ≤ p) : wr.cell? ⟨T, p, none⟩ = some (.int .i64 0) ∧ wr.frozen? ⟨T, p, none⟩ = false := by
  refine ⟨?_, h.t.free p hp⟩
  rw [h.t.cell p hp]
  unfold tld
  rw [if_neg (by omega)]
theorem Told.sum (h : Told w2 wr m T S s e q) (hs : s < 3) : wr.cell? ⟨S, s, none⟩ = some (.int .i64 q) ∧ wr.frozen? ⟨S, s, none⟩ = false := by
  refine ⟨?_, h.s.free s hs⟩
  rw [h.s.cell s hs]
  unfold sms
  rw [if_neg (by omega), if_pos rfl]
theorem Told.tick (h : Told w2 wr m T S s e q) (hs : m.st e = s) : Told w2 (wr.setCell ⟨T, e, none⟩ (.int .i64 1)) m T S s (e + 1) q := by
  refine ⟨h.k.set (.inl (.inl rfl)) _, (h.t.set e _).congr fun p hp => ?_, h.s.other (a := ⟨T, e, none⟩) (fun e => h.ne e.symm) _, h.ne, by rw [World.size_setCell]; exact h.tl, by rw [World.size_setCell]; exact h.sl⟩
  unfold tld
  by_cases hpe : p = e
  · rw [if_pos hpe, hpe, if_pos (.inr ⟨hs, by omega⟩)]
  · rw [if_neg hpe]
    by_cases hc : m.st p < s ∨ (m.st p = s ∧ p < e)
    · rw [if_pos hc, if_pos (by omega)]
    · rw [if_neg hc, if_neg (by omega)]
theorem Told.skip (h : Told w2 wr m T S s e q) {a : Nat} (ha : e ≤ a) (hs : ∀ p, e ≤ p → p < a → m.st p ≠ s) : Told w2 wr m T S s a q := by
  refine ⟨h.k, h.t.congr fun p hp => ?_, h.s, h.ne, h.tl, h.sl⟩
  unfold tld
  by_cases hc : m.st p < s ∨ (m.st p = s ∧ p < e)
  · rw [if_pos hc, if_pos (by omega)]
  · have : ¬ (e ≤ p ∧ p < a ∧ m.st p = s) := fun hh => hs p hh.1 hh.2.1 hh.2.2
    rw [if_neg hc, if_neg (by omega)]
theorem Told.add (h : Told w2 wr m T S s e q) (b : Nat) (v : Int) (hv : v = (q : Int) + b) : Told w2 (wr.setCell ⟨S, s, none⟩ (.int .i64 v)) m T S s e (q + b) := by
  refine ⟨(h.k.set (.inl (.inr rfl)) _), (h.t.other (a := ⟨S, s, none⟩) h.ne _), ((h.s.set s _).congr fun j hj => ?_), h.ne, by simp; exact h.tl, by simp; exact h.sl⟩
  unfold sms
  by_cases hjs : j = s
  · subst hjs
    rw [if_pos rfl, if_neg (by omega), if_pos rfl, hv]
    simp
  · rw [if_neg hjs]
    by_cases hc : j < s
    · rw [if_pos hc, if_pos hc]
    · rw [if_neg hc, if_neg hjs, if_neg hc, if_neg hjs]
theorem Told.next (h : Told w2 wr m T S s e q) (hs : ∀ p, e ≤ p → p < m.n → m.st p ≠ s) (hq : q = cntS m.st s m.n) : Told w2 wr m T S (s + 1) 0 0 := by
  refine ⟨h.k, h.t.congr fun p hp => ?_, h.s.congr fun j hj => ?_, h.ne, h.tl, h.sl⟩
  · unfold tld
    by_cases hc : m.st p < s ∨ (m.st p = s ∧ p < e)
    · rw [if_pos hc, if_pos (by omega)]
    · have : ¬ (e ≤ p ∧ m.st p = s) := fun hh => hs p hh.1 hp hh.2
      rw [if_neg hc, if_neg (by omega)]
  · unfold sms
    by_cases hjs : j = s
    · subst hjs
      rw [if_neg (by omega), if_pos rfl, if_pos (by omega), hq]
    · by_cases hc : j < s
      · rw [if_pos hc, if_pos (by omega)]
      · rw [if_neg hc, if_neg hjs, if_neg (by omega)]
        split <;> simp
end
theorem Told.first {w2 : World} {m : Mo} {T S : Nat} (hwf : WF m) (ht : Cl w2 T m.n (fun _ => .int .i64 0)) (hs : Cl w2 S 3 (fun _ => .int .i64 0)) (ne : T ≠ S) : Told w2 w2 m T S 0 0 0 := by
  refine ⟨Keep.refl _ _, ht.congr fun p hp => ?_, hs.congr fun j hj => ?_, ne, ht.lt hwf.n1, hs.lt (by omega)⟩
  · unfold tld
    have := hwf.s p
    rw [if_neg (by omega)]
  · unfold sms
    rw [if_neg (by omega)]
    split <;> simp
theorem Told.last {w2 wr : World} {m : Mo} {T S : Nat} (hwf : WF m) (h : Told w2 wr m T S 3 0 0) {p : Nat} (hp : p < m.n) : wr.cell? ⟨T, p, none⟩ = some (.int .i64 1) := by
  rw [h.t.cell p hp]
  unfold tld
  have := hwf.s p
  rw [if_pos (by omega)]
theorem Told.sums {w2 wr : World} {m : Mo} {T S : Nat} (h : Told w2 wr m T S 3 0 0) : wr.cell? ⟨S, 1, none⟩ = some (.int .i64 (cntS m.st 1 m.n : Nat)) ∧ wr.cell? ⟨S, 2, none⟩ = some (.int .i64 (cntS m.st 2 m.n : Nat)) := by
  refine ⟨?_, ?_⟩
  · rw [h.s.cell 1 (by omega)]; rfl
  · rw [h.s.cell 2 (by omega)]; rfl

end Go.Proofs.Ytejjendklemebaa
