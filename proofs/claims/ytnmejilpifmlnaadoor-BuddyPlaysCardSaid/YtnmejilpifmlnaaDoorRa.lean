/- The maximal runs of pages in a state, and what holds of them. -/
import Derived.Test.YtnmejilpifmlnaaDoorMa
namespace Go.Proofs.YtnmejilpifmlnaaDoor
open Go.RowKit

/-- One more page of the state, behind runs that are written from the last one on. -/
def addR : List (Nat × Nat) → Nat → List (Nat × Nat)
  | [], k => [(k, 1)]
  | (a, b) :: t, k => if a + b = k then (a, b + 1) :: t else (k, 1) :: (a, b) :: t
theorem addR_cons (a b : Nat) (t : List (Nat × Nat)) (k : Nat) : addR ((a, b) :: t) k = if a + b = k then (a, b + 1) :: t else (k, 1) :: (a, b) :: t := rfl
/-- The runs of the first pages, from the last one on. -/
def rr (st : Nat → Int) (s : Int) : Nat → List (Nat × Nat)
  | 0 => []
  | k + 1 => if st k = s then addR (rr st s k) k else rr st s k
def runsL (st : Nat → Int) (s : Int) (n : Nat) : List (Nat × Nat) := (rr st s n).reverse

def RevOK (st : Nat → Int) (s : Int) : Nat → List (Nat × Nat) → Prop
  | k, [] => ∀ p, p < k → st p ≠ s
  | k, (a, b) :: t => 1 ≤ b ∧ a + b ≤ k ∧ (∀ p, a ≤ p → p < a + b → st p = s) ∧ (∀ p, a + b ≤ p → p < k → st p ≠ s) ∧ (0 < a → st (a - 1) ≠ s) ∧ RevOK st s a t

theorem rr_ok (st : Nat → Int) (s : Int) : ∀ k, RevOK st s k (rr st s k)
  | 0 => fun p hp => by omega
  | k + 1 => by
    have ih := rr_ok st s k
    unfold rr
    split
    · rename_i hk
      cases h : rr st s k with
      | nil =>
        rw [h] at ih
        have ih' : ∀ p, p < k → st p ≠ s := ih
        refine ⟨by omega, by omega, fun p h1 h2 => ?_, fun p h1 h2 => by omega, fun h0 => ih' _ (by omega), ih'⟩
        obtain rfl : p = k := by omega
        exact hk
      | cons x t =>
        obtain ⟨a, b⟩ := x
        rw [h] at ih
        obtain ⟨h1, h2, h3, h4, h5, h6⟩ := ih
        show RevOK st s (k + 1) (if a + b = k then (a, b + 1) :: t else (k, 1) :: (a, b) :: t)
        split
        · rename_i he
          refine ⟨by omega, by omega, fun p q1 q2 => ?_, fun p q1 q2 => by omega, h5, h6⟩
          by_cases hp : p = k
          · rw [hp]; exact hk
          · exact h3 p q1 (by omega)
        · rename_i he
          refine ⟨by omega, by omega, fun p q1 q2 => ?_, fun p q1 q2 => by omega, fun h0 => h4 _ (by omega) (by omega), ⟨h1, h2, h3, h4, h5, h6⟩⟩
          obtain rfl : p = k := by omega
          exact hk
    · rename_i hk
      cases h : rr st s k with
      | nil =>
        rw [h] at ih
        intro p hp
        by_cases e : p = k
        · rw [e]; exact hk
        · exact ih p (by omega)
      | cons x t =>
        obtain ⟨a, b⟩ := x
        rw [h] at ih
        obtain ⟨h1, h2, h3, h4, h5, h6⟩ := ih
        refine ⟨h1, by omega, h3, fun p q1 q2 => ?_, h5, h6⟩
        by_cases e : p = k
        · rw [e]; exact hk
        · exact h4 p q1 (by omega)

/-- Where the first i runs end. -/
def endAt (l : List (Nat × Nat)) : Nat → Nat
  | 0 => 0
  | j + 1 => (l.getD j (0, 0)).1 + (l.getD j (0, 0)).2
theorem endAt_at {l : List (Nat × Nat)} {i a b : Nat} (h : l[i]? = some (a, b)) : endAt l (i + 1) = a + b := by
  show (l.getD i (0, 0)).1 + (l.getD i (0, 0)).2 = a + b
  rw [List.getD_eq_getElem?_getD, h]; rfl
theorem endAt_app (l : List (Nat × Nat)) (x : Nat × Nat) (i : Nat) (h : i ≤ l.length) : endAt (l ++ [x]) i = endAt l i := by
  cases i with
  | zero => rfl
  | succ j =>
    show ((l ++ [x]).getD j (0, 0)).1 + ((l ++ [x]).getD j (0, 0)).2 = (l.getD j (0, 0)).1 + (l.getD j (0, 0)).2
    rw [List.getD_eq_getElem?_getD, List.getD_eq_getElem?_getD, List.getElem?_append_left (by omega)]

/-- What holds of the i-th run. -/
structure RunAt (st : Nat → Int) (s : Int) (n : Nat) (l : List (Nat × Nat)) (i a b : Nat) : Prop where
  b1 : 1 ≤ b
  le : a + b ≤ n
  on : ∀ p, a ≤ p → p < a + b → st p = s
  lo : endAt l i ≤ a
  gap : 0 < i → endAt l i < a
  off : ∀ p, endAt l i ≤ p → p < a → st p ≠ s

theorem fw (st : Nat → Int) (s : Int) : ∀ (l : List (Nat × Nat)) (n : Nat), RevOK st s n l →
    (∀ i a b, l.reverse[i]? = some (a, b) → RunAt st s n l.reverse i a b) ∧ endAt l.reverse l.length ≤ n ∧ (∀ p, endAt l.reverse l.length ≤ p → p < n → st p ≠ s)
  | [], n, h => ⟨fun i a b hi => by simp at hi, by show 0 ≤ n; omega, fun p _ hp => h p hp⟩
  | (a, b) :: t, n, h => by
    obtain ⟨h1, h2, h3, h4, h5, h6⟩ := h
    obtain ⟨i1, i2, i3⟩ := fw st s t a h6
    have hl : t.reverse.length = t.length := List.length_reverse
    have hlast : (t.reverse ++ [(a, b)])[t.length]? = some (a, b) := by rw [List.getElem?_append_right (by omega), hl]; simp
    have hend : endAt (t.reverse ++ [(a, b)]) t.length = endAt t.reverse t.length := endAt_app _ _ _ (by omega)
    rw [List.reverse_cons]
    refine ⟨fun i a' b' hi => ?_, ?_, ?_⟩
    · rcases Nat.lt_or_ge i t.length with hlt | hge
      · have hi' := hi
        rw [List.getElem?_append_left (by omega)] at hi'
        obtain ⟨j1, j2, j3, j4, j5, j6⟩ := i1 i a' b' hi'
        have he : endAt (t.reverse ++ [(a, b)]) i = endAt t.reverse i := endAt_app _ _ _ (by omega)
        exact ⟨j1, by omega, j3, by rw [he]; exact j4, fun h0 => by rw [he]; exact j5 h0, fun p q1 q2 => j6 p (by rw [← he]; exact q1) q2⟩
      · have hlt : i < (t.reverse ++ [(a, b)]).length := (List.getElem?_eq_some_iff.1 hi).1
        obtain rfl : i = t.length := by simp at hlt; omega
        rw [hlast] at hi
        cases hi
        refine ⟨h1, h2, h3, by rw [hend]; exact i2, fun h0 => ?_, fun p q1 q2 => i3 p (by rw [← hend]; exact q1) q2⟩
        rw [hend]
        rcases Nat.lt_or_eq_of_le i2 with hlt2 | heq
        · exact hlt2
        · exfalso
          obtain ⟨j, hj⟩ : ∃ j, t.length = j + 1 := ⟨t.length - 1, by omega⟩
          obtain ⟨⟨x, y⟩, hx⟩ : ∃ r, t.reverse[j]? = some r := ⟨_, List.getElem?_eq_getElem (by omega)⟩
          have hr := i1 j x y hx
          have he := endAt_at hx
          rw [← hj] at he
          have := hr.b1
          have := hr.le
          exact h5 (by omega) (hr.on (a - 1) (by omega) (by omega))
    · show endAt (t.reverse ++ [(a, b)]) (t.length + 1) ≤ n
      rw [endAt_at hlast]; exact h2
    · show ∀ p, endAt (t.reverse ++ [(a, b)]) (t.length + 1) ≤ p → p < n → st p ≠ s
      rw [endAt_at hlast]; exact h4

theorem runs_at (st : Nat → Int) (s : Int) (n i a b : Nat) (h : (runsL st s n)[i]? = some (a, b)) : RunAt st s n (runsL st s n) i a b := (fw st s _ n (rr_ok st s n)).1 i a b h
theorem runs_end (st : Nat → Int) (s : Int) (n : Nat) : endAt (runsL st s n) (runsL st s n).length ≤ n ∧ ∀ p, endAt (runsL st s n) (runsL st s n).length ≤ p → p < n → st p ≠ s := by
  have := (fw st s _ n (rr_ok st s n)).2
  unfold runsL
  rw [List.length_reverse]
  exact this

/-- How many pages the first i runs have. -/
def sumR (l : List (Nat × Nat)) : Nat := (l.map (·.2)).foldr (· + ·) 0
theorem sumR_app (l : List (Nat × Nat)) (r : Nat × Nat) : sumR (l ++ [r]) = sumR l + r.2 := by
  induction l with
  | nil => simp [sumR]
  | cons x t ih => simp [sumR] at ih ⊢; omega
theorem sumR_rev (l : List (Nat × Nat)) : sumR l.reverse = sumR l := by
  induction l with
  | nil => rfl
  | cons x t ih =>
    rw [List.reverse_cons, sumR_app, ih]
    simp [sumR]; omega
def cntS (st : Nat → Int) (s : Int) (n : Nat) : Nat := (List.range n).countP fun k => decide (st k = s)
theorem cntS_succ (st : Nat → Int) (s : Int) (n : Nat) : cntS st s (n + 1) = cntS st s n + if st n = s then 1 else 0 := by
  unfold cntS
  rw [List.range_succ, List.countP_append]
  simp only [List.countP_cons, List.countP_nil, decide_eq_true_eq]
  omega
theorem sumR_rr (st : Nat → Int) (s : Int) : ∀ n, sumR (rr st s n) = cntS st s n
  | 0 => rfl
  | n + 1 => by
    have ih := sumR_rr st s n
    rw [cntS_succ]
    unfold rr
    split
    · cases h : rr st s n with
      | nil =>
        rw [h] at ih
        rw [← ih]
        simp [sumR, addR]
      | cons x t =>
        obtain ⟨a, b⟩ := x
        rw [h] at ih
        rw [← ih]
        rw [addR_cons]
        by_cases e : a + b = n
        · rw [if_pos e]; simp [sumR]; omega
        · rw [if_neg e]; simp [sumR]; omega
    · omega
theorem sumR_runs (st : Nat → Int) (s : Int) (n : Nat) : sumR (runsL st s n) = cntS st s n := by unfold runsL; rw [sumR_rev, sumR_rr]
theorem sumR_take {l : List (Nat × Nat)} {i a b : Nat} (h : l[i]? = some (a, b)) : sumR (l.take (i + 1)) = sumR (l.take i) + b := by
  rw [List.take_add_one, h]
  exact sumR_app _ _
theorem rr_len (st : Nat → Int) (s : Int) : ∀ n, (rr st s n).length ≤ n
  | 0 => Nat.le_refl _
  | n + 1 => by
    have ih := rr_len st s n
    unfold rr
    split
    · cases h : rr st s n with
      | nil => simp [addR]
      | cons x t =>
        rw [h] at ih
        simp at ih
        obtain ⟨a, b⟩ := x
        rw [addR_cons]
        by_cases e : a + b = n
        · rw [if_pos e]; simp; omega
        · rw [if_neg e]; simp; omega
    · omega

def cellsR (l : List (Nat × Nat)) : List Value := l.flatMap fun r => [.int .i64 r.1, .int .i64 r.2]
theorem cellsR_len (l : List (Nat × Nat)) : (cellsR l).length = l.length * 2 := by
  induction l with
  | nil => rfl
  | cons x t ih => simp [cellsR] at ih ⊢; omega
theorem cellsR_app (l k : List (Nat × Nat)) : cellsR (l ++ k) = cellsR l ++ cellsR k := by simp [cellsR]
theorem cellsR_at : ∀ (l : List (Nat × Nat)) (i a b : Nat), l[i]? = some (a, b) → (cellsR l)[i * 2]? = some (.int .i64 a) ∧ (cellsR l)[i * 2 + 1]? = some (.int .i64 b)
  | [], i, a, b, h => by simp at h
  | x :: t, 0, a, b, h => by
    simp at h
    subst h
    exact ⟨rfl, rfl⟩
  | x :: t, i + 1, a, b, h => by
    obtain ⟨h1, h2⟩ := cellsR_at t i a b (by simpa using h)
    have e : cellsR (x :: t) = .int .i64 x.1 :: .int .i64 x.2 :: cellsR t := rfl
    rw [e, show (i + 1) * 2 = i * 2 + 1 + 1 from by omega]
    exact ⟨by simpa using h1, by simpa using h2⟩
theorem cellsR_one (l : List (Nat × Nat)) : ∀ u ∈ cellsR l, u.oneCell' = true := by
  intro u hu
  unfold cellsR at hu
  rw [List.mem_flatMap] at hu
  obtain ⟨r, _, hr⟩ := hu
  simp at hr
  rcases hr with rfl | rfl <;> rfl
/-- One page more in the last run. -/
theorem cellsR_set (l : List (Nat × Nat)) (a b : Nat) : (cellsR (l ++ [(a, b)])).set (l.length * 2 + 1) (.int .i64 ((b : Int) + 1)) = cellsR (l ++ [(a, b + 1)]) := by
  rw [cellsR_app, cellsR_app, List.set_append_right _ _ (by rw [cellsR_len]; omega), cellsR_len, show l.length * 2 + 1 - l.length * 2 = 1 from by omega]
  rfl

end Go.Proofs.YtnmejilpifmlnaaDoor
