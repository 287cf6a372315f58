/- Carrying out a plan, page by page. -/
import Derived.Test.YtecfjibmpbgllaaMf
import Derived.Test.YtecfjibmpbgllaaXh
namespace Go.Proofs.Ytecfjibmpbgllaa

/-- Whether a page is in one of some runs. -/
def inRs (l : List (Nat × Nat)) (q : Nat) : Bool := l.any fun r => decide (r.1 ≤ q ∧ q < r.1 + r.2)
theorem inRs_cons (r : Nat × Nat) (l : List (Nat × Nat)) (q : Nat) : inRs (r :: l) q = (decide (r.1 ≤ q ∧ q < r.1 + r.2) || inRs l q) := rfl
theorem inRs_iff {l : List (Nat × Nat)} {q : Nat} : inRs l q = true ↔ ∃ r ∈ l, r.1 ≤ q ∧ q < r.1 + r.2 := by
  unfold inRs
  rw [List.any_eq_true]
  constructor
  · rintro ⟨r, h1, h2⟩; exact ⟨r, h1, of_decide_eq_true h2⟩
  · rintro ⟨r, h1, h2⟩; exact ⟨r, h1, decide_eq_true h2⟩
/-- The states behind the release of some runs. -/
def relS (S : Nat → Nat) (l : List (Nat × Nat)) : Nat → Nat := l.foldl (fun S r => setR S r.1 r.2 3) S
theorem relS_at (q : Nat) : ∀ (l : List (Nat × Nat)) (S : Nat → Nat), relS S l q = if inRs l q = true then 3 else S q
  | [], S => rfl
  | r :: t, S => by
    show relS (setR S r.1 r.2 3) t q = _
    rw [relS_at q t, inRs_cons]
    unfold setR
    by_cases h1 : r.1 ≤ q ∧ q < r.1 + r.2
    · rw [if_pos h1, decide_eq_true h1, Bool.true_or, if_pos rfl]
      split <;> rfl
    · rw [if_neg h1, decide_eq_false h1, Bool.false_or]
theorem relS_take {S : Nat → Nat} {l : List (Nat × Nat)} {i a b : Nat} (h : l[i]? = some (a, b)) : relS S (l.take (i + 1)) = setR (relS S (l.take i)) a b 3 := by
  unfold relS
  rw [List.take_add_one, h, List.foldl_append]
  rfl
section
variable {m : Mo} {w : Int}
theorem dj_take {P : List (Nat × Nat)} (hP : P.Pairwise Dj) {i a b q : Nat} (h : P[i]? = some (a, b)) (h1 : a ≤ q) (h2 : q < a + b) : inRs (P.take i) q = false := by
  cases hc : inRs (P.take i) q with
  | false => rfl
  | true =>
    exfalso
    obtain ⟨r, hr, h3, h4⟩ := inRs_iff.1 hc
    obtain ⟨j, hj⟩ := List.getElem?_of_mem hr
    have hji : j < i := by
      have := (List.getElem?_eq_some_iff.1 hj).1
      rw [List.length_take] at this
      omega
    rw [List.getElem?_take_of_lt hji] at hj
    have hlj := (List.getElem?_eq_some_iff.1 hj).1
    have hli := (List.getElem?_eq_some_iff.1 h).1
    have := List.pairwise_iff_getElem.1 hP j i hlj hli hji
    rw [(List.getElem?_eq_some_iff.1 hj).2, (List.getElem?_eq_some_iff.1 h).2] at this
    unfold Dj at this
    simp only at this
    omega
theorem release_ok (hwf : WF m) {i a b : Nat} (h : (planM m w)[i]? = some (a, b)) : chE ⟨m.h, relS m.S ((planM m w).take i)⟩ a b pR = 0 := by
  obtain ⟨k, hk, hr⟩ := plan_mem hwf (List.mem_of_getElem? h)
  have h1 := hr.lo
  have h2 := hr.hi
  have h3 := hr.one
  have h4 := hr.on
  simp only at h1 h2 h3 h4
  refine chE_ok h3 (by show a + b ≤ 16 * m.h; omega) fun j hj => ?_
  show pR (relS m.S ((planM m w).take i) (a + j)) = true
  rw [relS_at, dj_take (plan_dj hwf) h (by omega) (by omega)]
  rw [if_neg (by decide), h4 _ (by omega) (by omega)]
  rfl
theorem plan_page (hwf : WF m) {q : Nat} (h : inRs (planM m w) q = true) : q < 16 * m.h ∧ m.S q = 2 := by
  obtain ⟨r, hr, h1, h2⟩ := inRs_iff.1 h
  obtain ⟨k, hk, hi⟩ := plan_mem hwf hr
  have := hi.hi
  exact ⟨by omega, hi.on q h1 h2⟩
end

theorem cnt_set {F : Nat → Nat} {a b n : Nat} (hab : a + b ≤ n) (h0 : ∀ q, a ≤ q → q < a + b → F q ≠ 1) : cnt (setR F a b 1) 1 0 n = cnt F 1 0 n + b := by
  obtain ⟨d, rfl⟩ : ∃ d, n = a + (b + d) := ⟨n - a - b, by omega⟩
  rw [cnt_add, cnt_add F, cnt_add _ _ (0 + a), cnt_add F _ (0 + a)]
  rw [cnt_congr (S := setR F a b 1) (S' := F) (a := 0) (k := a) (fun j hj => by unfold setR; rw [if_neg (by omega)])]
  rw [cnt_all (S := setR F a b 1) (a := 0 + a) (k := b) (fun j hj => by unfold setR; rw [if_pos (by omega)])]
  rw [cnt_none (S := F) (a := 0 + a) (k := b) (fun j hj => h0 _ (by omega) (by omega))]
  rw [cnt_congr (S := setR F a b 1) (S' := F) (a := 0 + a + b) (k := d) (fun j hj => by unfold setR; rw [if_neg (by omega)])]
  omega
/-- How many of the first n pages are in some runs. -/
def cI (l : List (Nat × Nat)) (n : Nat) : Nat := cnt (fun i => if inRs l i = true then 1 else 0) 1 0 n
theorem cI_hit {l : List (Nat × Nat)} {n : Nat} (h : inRs l n = true) : cI l (n + 1) = cI l n + 1 := cnt_hit (by rw [Nat.zero_add, if_pos h])
theorem cI_miss {l : List (Nat × Nat)} {n : Nat} (h : inRs l n = false) : cI l (n + 1) = cI l n := cnt_miss (by rw [Nat.zero_add, if_neg (by rw [h]; decide)]; omega)
theorem cI_le (l : List (Nat × Nat)) (n : Nat) : cI l n ≤ n := cnt_le _ _ _ _
theorem cI_sum {n : Nat} : ∀ {l : List (Nat × Nat)}, l.Pairwise Dj → (∀ r ∈ l, r.1 + r.2 ≤ n) → cI l n = sumR l
  | [], _, _ => cnt_none (fun j _ => by show (if inRs [] (0 + j) = true then 1 else 0) ≠ 1; rw [if_neg (by simp [inRs])]; omega)
  | r :: t, h, hn => by
    obtain ⟨h1, h2⟩ := List.pairwise_cons.1 h
    have ih := cI_sum (n := n) h2 (fun x hx => hn x (List.mem_cons_of_mem _ hx))
    rw [sumR_cons, ← ih, Nat.add_comm]
    unfold cI
    rw [← cnt_set (F := fun i => if inRs t i = true then 1 else 0) (hn r (List.mem_cons_self ..)) (fun q q1 q2 => ?_)]
    · refine cnt_congr fun j _ => ?_
      rw [inRs_cons]
      unfold setR
      by_cases e : r.1 ≤ 0 + j ∧ 0 + j < r.1 + r.2
      · rw [if_pos e, decide_eq_true e]; simp
      · rw [if_neg e, decide_eq_false e]; simp
    · have : inRs t q = false := by
        cases hc : inRs t q with
        | false => rfl
        | true =>
          obtain ⟨x, hx, h3, h4⟩ := inRs_iff.1 hc
          have := h1 x hx
          unfold Dj at this
          omega
      show (if inRs t q = true then 1 else 0) ≠ 1
      rw [this, if_neg (by decide)]; omega

/-! Few are broken. -/
def FW (S : Nat → Nat) (k : Nat) : Nat := if kdS S k ≠ 3 then cnt S 2 (16 * k) 16 else 0
/-- The backed pages of the first q that are not in whole huge pages. -/
def restN (S : Nat → Nat) : Nat → Nat
  | 0 => 0
  | q + 1 => restN S q + if S q = 2 ∧ kdS S (q / 16) ≠ 3 then 1 else 0
theorem restN_le (S : Nat → Nat) : ∀ q, restN S q ≤ q
  | 0 => Nat.le_refl _
  | q + 1 => by
    have := restN_le S q
    show restN S q + (if S q = 2 ∧ kdS S (q / 16) ≠ 3 then 1 else 0) ≤ q + 1
    split <;> omega
theorem restN_in (S : Nat → Nat) (k : Nat) : ∀ t, t ≤ 16 → restN S (16 * k + t) = restN S (16 * k) + if kdS S k ≠ 3 then cnt S 2 (16 * k) t else 0
  | 0, _ => by simp [cnt]
  | t + 1, h => by
    have ih := restN_in S k t (by omega)
    show restN S (16 * k + t) + (if S (16 * k + t) = 2 ∧ kdS S ((16 * k + t) / 16) ≠ 3 then 1 else 0) = restN S (16 * k) + (if kdS S k ≠ 3 then cnt S 2 (16 * k) t + (if S (16 * k + t) = 2 then 1 else 0) else 0)
    rw [ih, show (16 * k + t) / 16 = k from by omega]
    by_cases h3 : kdS S k ≠ 3
    · rw [if_pos h3, if_pos h3]
      by_cases h2 : S (16 * k + t) = 2
      · rw [if_pos ⟨h2, h3⟩, if_pos h2]; omega
      · rw [if_neg (fun h => h2 h.1), if_neg h2]; omega
    · rw [if_neg h3, if_neg h3, if_neg (fun h => h3 h.2)]
theorem restN_sum (S : Nat → Nat) : ∀ k, restN S (16 * k) = sumK (FW S) k
  | 0 => rfl
  | k + 1 => by
    rw [show 16 * (k + 1) = 16 * k + 16 from by omega, restN_in S k 16 (Nat.le_refl _), restN_sum S k]
    rfl
/-- The pages of runs that are not in whole huge pages. -/
def sumW (S : Nat → Nat) : List (Nat × Nat) → Nat
  | [] => 0
  | r :: t => (if kdS S (r.1 / 16) ≠ 3 then r.2 else 0) + sumW S t
theorem sumW_app (S : Nat → Nat) : ∀ a b, sumW S (a ++ b) = sumW S a + sumW S b
  | [], b => by simp [sumW]
  | r :: t, b => by
    show (if kdS S (r.1 / 16) ≠ 3 then r.2 else 0) + sumW S (t ++ b) = (if kdS S (r.1 / 16) ≠ 3 then r.2 else 0) + sumW S t + sumW S b
    rw [sumW_app S t b]; omega
theorem sumW_le (S : Nat → Nat) : ∀ a, sumW S a ≤ sumR a
  | [] => Nat.le_refl _
  | r :: t => by
    have := sumW_le S t
    rw [sumR_cons]
    show (if kdS S (r.1 / 16) ≠ 3 then r.2 else 0) + sumW S t ≤ _
    split <;> omega
theorem sumW_whole {S : Nat → Nat} : ∀ {a : List (Nat × Nat)}, (∀ r ∈ a, kdS S (r.1 / 16) = 3) → sumW S a = 0
  | [], _ => rfl
  | r :: t, h => by
    show (if kdS S (r.1 / 16) ≠ 3 then r.2 else 0) + sumW S t = 0
    rw [if_neg (by simp [h r (List.mem_cons_self ..)]), sumW_whole (fun x hx => h x (List.mem_cons_of_mem _ hx))]
theorem sumW_same {S : Nat → Nat} {k : Nat} : ∀ {a : List (Nat × Nat)}, (∀ r ∈ a, r.1 / 16 = k) → sumW S a = if kdS S k ≠ 3 then sumR a else 0
  | [], _ => by simp [sumW, sumR]
  | r :: t, h => by
    show (if kdS S (r.1 / 16) ≠ 3 then r.2 else 0) + sumW S t = _
    rw [h r (List.mem_cons_self ..), sumW_same (fun x hx => h x (List.mem_cons_of_mem _ hx)), sumR_cons]
    split <;> rfl
theorem sumW_all (S : Nat → Nat) : ∀ L, sumW S (allR S L) = sumL (FW S) L
  | [] => rfl
  | k :: L => by
    rw [allR_cons, sumW_app, sumW_all S L, sumL_cons, sumW_same (k := k) (fun r hr => (rs_in S 16 (16 * k) 0 r hr).huge), rs_sum S 16 (16 * k) 0 (by omega)]
    rfl
theorem kd_le (S : Nat → Nat) (k : Nat) : kdS S k ≤ 3 := by
  unfold kdS
  repeat' split
  all_goals omega
/-- A run of a whole huge page is planned only if the others do not have enough. -/
theorem few {m : Mo} (hwf : WF m) {w : Int} {r : Nat × Nat} (h : r ∈ planM m w) (hk : kdS m.S (r.1 / 16) = 3) : (restN m.S (16 * m.h) : Int) < w := by
  obtain ⟨a, b, hab⟩ := List.append_of_mem h
  have h1 := pl_lt w _ 0 a b r hab
  rw [Nat.zero_add] at h1
  have h2 := sumL_ord m.S (FW m.S) (fun k hk => by unfold FW; rw [any_cnt hk]; split <;> rfl) m.h
  rw [restN_sum, ← h2, ← sumW_all]
  obtain ⟨t, ht⟩ := pl_pre w (allR m.S (ordN m.S m.h)) 0
  have hab' : pl w (allR m.S (ordN m.S m.h)) 0 = a ++ r :: b := hab
  rw [hab'] at ht
  have hpw := allR_kd m.S _ (ordN_ok m.S m.h hwf.h2).pw
  rw [← ht, List.append_assoc] at hpw ⊢
  have hpw2 := (List.pairwise_append.1 hpw).2.1
  rw [List.cons_append] at hpw2
  have hall := (List.pairwise_cons.1 hpw2).1
  rw [sumW_app, List.cons_append, sumW_whole (a := r :: (b ++ t)) (fun x hx => ?_)]
  · have := sumW_le m.S a
    omega
  · rcases List.mem_cons.1 hx with rfl | hx
    · exact hk
    · have := hall x hx
      have := kd_le m.S (x.1 / 16)
      omega

end Go.Proofs.Ytecfjibmpbgllaa
