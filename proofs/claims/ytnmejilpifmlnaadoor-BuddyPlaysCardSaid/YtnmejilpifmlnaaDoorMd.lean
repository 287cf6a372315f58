/- How many pages are free: by the pages, and by the blocks. -/
import Derived.Test.YtnmejilpifmlnaaDoorMa
namespace Go.Proofs.YtnmejilpifmlnaaDoor

def cntF (F : Nat → Bool) (n : Nat) : Nat := (List.range n).countP F
theorem cntF_succ (F : Nat → Bool) (n : Nat) : cntF F (n + 1) = cntF F n + if F n = true then 1 else 0 := by
  unfold cntF
  rw [List.range_succ, List.countP_append]
  simp only [List.countP_cons, List.countP_nil]
  omega
theorem cntF_le (F : Nat → Bool) (n : Nat) : cntF F n ≤ n := by
  unfold cntF
  have := List.countP_le_length (p := F) (l := List.range n)
  simpa using this
theorem cntF_congr {F G : Nat → Bool} {n : Nat} (h : ∀ p, p < n → F p = G p) : cntF F n = cntF G n := by
  unfold cntF
  apply List.countP_congr
  intro x hx
  rw [h x (List.mem_range.1 hx)]
theorem cntF_or {F G H : Nat → Bool} (h : ∀ p, H p = (F p || G p)) (hd : ∀ p, F p = true → G p = true → False) : ∀ n, cntF H n = cntF F n + cntF G n
  | 0 => rfl
  | n + 1 => by
    rw [cntF_succ, cntF_succ, cntF_succ, cntF_or h hd n, h n]
    cases hf : F n <;> cases hg : G n
    · simp
    · simp; omega
    · simp; omega
    · exact absurd hg (fun h => hd n hf h)
theorem cntF_past {F : Nat → Bool} {n : Nat} (hF : ∀ p, F p = true → p < n) : ∀ d, cntF F (n + d) = cntF F n
  | 0 => rfl
  | d + 1 => by
    rw [show n + (d + 1) = (n + d) + 1 from by omega, cntF_succ, cntF_past hF d, if_neg]
    · rfl
    · intro h
      have := hF _ h
      omega

theorem bl_succ' (F : Nat → Bool) (p k : Nat) : bl F (p + 1) k = bl F p k ++ (if Bk F k p then [p] else []) := by
  unfold bl
  rw [List.range_succ, List.filter_append]
  congr 1
  simp only [List.filter_cons, List.filter_nil, decide_eq_true_eq]
theorem bl_step' {F : Nat → Bool} {p k : Nat} (hp : p % 2 ^ k = 0) : bl F (p + 2 ^ k) k = bl F p k ++ (if Bk F k p then [p] else []) := by
  have go : ∀ d, d < 2 ^ k → bl F (p + 1 + d) k = bl F (p + 1) k := by
    intro d
    induction d with
    | zero => intro _; rfl
    | succ d ih =>
      intro hd
      rw [show p + 1 + (d + 1) = (p + 1 + d) + 1 from by omega, bl_succ', ih (by omega), if_neg, List.append_nil]
      intro hb
      have := step_le hp hb.mod (show p < p + 1 + d by omega)
      omega
  have h0 := Nat.two_pow_pos k
  have := go (2 ^ k - 1) (by omega)
  rw [show p + 1 + (2 ^ k - 1) = p + 2 ^ k from by omega] at this
  rw [this, bl_succ']

/-- Whether a page is in a free block of an order. -/
def inB (F : Nat → Bool) (k p : Nat) : Bool := decide (Bk F k (fl k p))
theorem inB_free {F : Nat → Bool} {k p : Nat} (h : inB F k p = true) : F p = true := (of_decide_eq_true h).at (fl_le _ _) (fl_lt _ _)
theorem cnt_block (F : Nat → Bool) (k q : Nat) (hq : q % 2 ^ k = 0) : ∀ d, d ≤ 2 ^ k → cntF (inB F k) (q + d) = cntF (inB F k) q + if Bk F k q then d else 0
  | 0, _ => by simp
  | d + 1, hd => by
    rw [show q + (d + 1) = (q + d) + 1 from by omega, cntF_succ, cnt_block F k q hq d (by omega)]
    have e : fl k (q + d) = q := fl_of hq (by omega) (by omega)
    unfold inB
    rw [e]
    by_cases hb : Bk F k q
    · simp only [hb, decide_true, if_true]; omega
    · simp only [hb, decide_false, if_false]; simp
theorem cnt_mult (F : Nat → Bool) (k : Nat) : ∀ i, cntF (inB F k) (i * 2 ^ k) = (bl F (i * 2 ^ k) k).length * 2 ^ k
  | 0 => by rw [Nat.zero_mul]; simp [cntF, bl]
  | i + 1 => by
    have hq : (i * 2 ^ k) % 2 ^ k = 0 := Nat.mul_mod_left _ _
    rw [Nat.succ_mul, cnt_block F k _ hq _ (Nat.le_refl _), cnt_mult F k i, bl_step' hq, List.length_append]
    by_cases hb : Bk F k (i * 2 ^ k)
    · rw [if_pos hb, if_pos hb, Nat.add_mul]; simp
    · rw [if_neg hb, if_neg hb]; simp
theorem bl_past' {F : Nat → Bool} {n k p : Nat} (hF : ∀ q, F q = true → q < n) (h : n ≤ p) : bl F p k = bl F n k := by
  induction p with
  | zero => obtain rfl : n = 0 := by omega
            rfl
  | succ p ih =>
    by_cases e : n = p + 1
    · rw [e]
    · rw [bl_succ', ih (by omega), if_neg, List.append_nil]
      intro hb
      have := hF _ (hb.at (Nat.le_refl _) (by have := Nat.two_pow_pos k; omega))
      omega
/-- The pages of the free blocks of an order. -/
theorem cnt_order {F : Nat → Bool} {n : Nat} (hF : ∀ q, F q = true → q < n) (k : Nat) : cntF (inB F k) n = (bl F n k).length * 2 ^ k := by
  have h0 := Nat.two_pow_pos k
  have hle : n ≤ n * 2 ^ k := Nat.le_mul_of_pos_right n h0
  have h1 := cnt_mult F k n
  rw [bl_past' hF hle] at h1
  rw [← h1]
  obtain ⟨d, hd⟩ : ∃ d, n * 2 ^ k = n + d := ⟨n * 2 ^ k - n, by omega⟩
  rw [hd]
  exact (cntF_past (fun p hp => hF p (inB_free hp)) d).symm

/-- The pages of all free blocks of orders below K. -/
def sumB (F : Nat → Bool) (n : Nat) : Nat → Nat
  | 0 => 0
  | k + 1 => sumB F n k + (bl F n k).length * 2 ^ k
def covB (F : Nat → Bool) : Nat → Nat → Bool
  | 0, _ => false
  | k + 1, p => covB F k p || inB F k p
theorem covB_ex {F : Nat → Bool} {p : Nat} : ∀ {k : Nat}, covB F k p = true ↔ ∃ j, j < k ∧ inB F j p = true
  | 0 => ⟨(fun h => nomatch h), (fun ⟨_, h, _⟩ => absurd h (Nat.not_lt_zero _))⟩
  | k + 1 => by
    show (covB F k p || inB F k p) = true ↔ _
    rw [Bool.or_eq_true, covB_ex (k := k)]
    constructor
    · rintro (⟨j, h1, h2⟩ | h)
      · exact ⟨j, by omega, h2⟩
      · exact ⟨k, by omega, h⟩
    · rintro ⟨j, h1, h2⟩
      by_cases e : j = k
      · exact .inr (e ▸ h2)
      · exact .inl ⟨j, by omega, h2⟩
theorem sumB_cov {F : Nat → Bool} {n : Nat} (hF : ∀ q, F q = true → q < n) : ∀ k, sumB F n k = cntF (covB F k) n
  | 0 => by
    show 0 = (List.range n).countP (fun _ => false)
    simp
  | k + 1 => by
    show sumB F n k + _ = _
    rw [sumB_cov hF k, ← cnt_order hF k]
    refine (cntF_or (fun p => rfl) (fun p h1 h2 => ?_) n).symm
    obtain ⟨j, hj, hb⟩ := covB_ex.1 h1
    have := (of_decide_eq_true hb).one (of_decide_eq_true h2) (fl_le _ _) (fl_lt _ _) (fl_le _ _) (fl_lt _ _)
    omega
theorem covB_le {F : Nat → Bool} {k p : Nat} (h : covB F k p = true) : F p = true := by
  obtain ⟨j, _, hb⟩ := covB_ex.1 h
  exact inB_free hb
theorem sumB_le {F : Nat → Bool} {n : Nat} (hF : ∀ q, F q = true → q < n) (k : Nat) : sumB F n k ≤ cntF F n := by
  rw [sumB_cov hF k]
  unfold cntF
  exact List.countP_mono_left (fun x _ h => covB_le h)
theorem sumB_all {F : Nat → Bool} {n K : Nat} (hF : ∀ q, F q = true → q < n) (hK : n < 2 ^ K) : sumB F n K = cntF F n := by
  rw [sumB_cov hF K]
  refine cntF_congr fun p _ => ?_
  rw [Bool.eq_iff_iff]
  refine ⟨covB_le, fun h => ?_⟩
  obtain ⟨k, hk, hb⟩ := bk_ex hF hK h
  exact covB_ex.2 ⟨k, hk, decide_eq_true hb⟩
theorem bl_sum {F : Nat → Bool} {n : Nat} (hF : ∀ q, F q = true → q < n) (k : Nat) : (bl F n k).length * 2 ^ k ≤ cntF F n := by
  have := sumB_le hF (k + 1)
  have e : sumB F n (k + 1) = sumB F n k + (bl F n k).length * 2 ^ k := rfl
  omega

/-- The greatest order below K of which there is a free block, or -1. -/
def ordN (F : Nat → Bool) (n : Nat) : Nat → Int
  | 0 => -1
  | k + 1 => if (bl F n k).length = 0 then ordN F n k else (k : Int)
theorem ordN_past {F : Nat → Bool} {n K : Nat} (h : ∀ j, K ≤ j → bl F n j = []) : ∀ d, ordN F n (K + d) = ordN F n K
  | 0 => rfl
  | d + 1 => by
    show (if (bl F n (K + d)).length = 0 then _ else _) = _
    rw [h (K + d) (by omega)]
    exact ordN_past h d
theorem ordN_bd (F : Nat → Bool) (n : Nat) : ∀ k, -1 ≤ ordN F n k ∧ ordN F n k < k
  | 0 => ⟨Int.le_refl _, by show (-1 : Int) < 0; omega⟩
  | k + 1 => by
    have := ordN_bd F n k
    show -1 ≤ (if _ then _ else _) ∧ (if _ then _ else _) < ((k + 1 : Nat) : Int)
    split <;> omega
theorem ordN_lt {F : Nat → Bool} {n : Nat} : ∀ {k l : Nat}, (∀ j, l ≤ j → j < k → bl F n j = []) → ordN F n k < l ∨ ordN F n k = -1
  | 0, _, _ => .inr rfl
  | k + 1, l, h => by
    show (if (bl F n k).length = 0 then ordN F n k else (k : Int)) < l ∨ (if (bl F n k).length = 0 then ordN F n k else (k : Int)) = -1
    by_cases e : (bl F n k).length = 0
    · rw [if_pos e]
      exact ordN_lt (fun j h1 h2 => h j h1 (by omega))
    · rw [if_neg e]
      left
      rcases Nat.lt_or_ge k l with hlt | hge
      · omega
      · exact absurd (by rw [h k hge (by omega)]; rfl) e

end Go.Proofs.YtnmejilpifmlnaaDoor
