/- What holds of plans. -/
import Derived.Test.YtecfjibmpbgllaaFb
namespace Go.Proofs.Ytecfjibmpbgllaa

theorem ext_on (S : Nat → Nat) : ∀ n p t, t < ext S p n → S (p + t) = 2
  | 0, p, t, h => by simp [ext] at h
  | n + 1, p, t, h => by
    unfold ext at h
    by_cases e : S p = 2
    · rw [if_pos e] at h
      cases t with
      | zero => exact e
      | succ t =>
        have := ext_on S n (p + 1) t (by omega)
        rwa [show p + 1 + t = p + (t + 1) from by omega] at this
    · rw [if_neg e] at h; omega
/-- What holds of one run. -/
structure RunIn (S : Nat → Nat) (p n : Nat) (r : Nat × Nat) : Prop where
  lo : p ≤ r.1
  one : 1 ≤ r.2
  hi : r.1 + r.2 ≤ p + n
  on : ∀ q, r.1 ≤ q → q < r.1 + r.2 → S q = 2
theorem rs_in (S : Nat → Nat) : ∀ n p sk, ∀ r ∈ rs S p n sk, RunIn S p n r
  | 0, p, sk, r, h => by simp [rs] at h
  | n + 1, p, sk + 1, r, h => by
    obtain ⟨h1, h2, h3, h4⟩ := rs_in S n (p + 1) sk r h
    exact ⟨by omega, h2, by omega, h4⟩
  | n + 1, p, 0, r, h => by
    have h' : r ∈ (if S p = 2 then (p, ext S (p + 1) n + 1) :: rs S (p + 1) n (ext S (p + 1) n) else rs S (p + 1) n 0) := h
    have key : ∀ sk, r ∈ rs S (p + 1) n sk → RunIn S p (n + 1) r := fun sk hm => by
      obtain ⟨h1, h2, h3, h4⟩ := rs_in S n (p + 1) sk r hm
      exact ⟨by omega, h2, by omega, h4⟩
    split at h'
    · rename_i e
      rcases List.mem_cons.1 h' with rfl | hm
      · have := ext_le S n (p + 1)
        refine ⟨Nat.le_refl _, by show 1 ≤ ext S (p + 1) n + 1; omega, by show p + (ext S (p + 1) n + 1) ≤ p + (n + 1); omega, fun q h1 h2 => ?_⟩
        have h1' : p ≤ q := h1
        have h2' : q < p + (ext S (p + 1) n + 1) := h2
        by_cases hq : q = p
        · rw [hq]; exact e
        · have := ext_on S n (p + 1) (q - (p + 1)) (by omega)
          rwa [show p + 1 + (q - (p + 1)) = q from by omega] at this
      · exact key _ hm
    · exact key _ h'
theorem rs_pw (S : Nat → Nat) : ∀ n p sk, (rs S p n sk).Pairwise (fun r r' => r.1 + r.2 ≤ r'.1)
  | 0, p, sk => List.Pairwise.nil
  | n + 1, p, sk + 1 => rs_pw S n (p + 1) sk
  | n + 1, p, 0 => by
    show (if S p = 2 then (p, ext S (p + 1) n + 1) :: rs S (p + 1) n (ext S (p + 1) n) else rs S (p + 1) n 0).Pairwise _
    split
    · refine List.pairwise_cons.2 ⟨fun r hr => ?_, rs_pw S n (p + 1) _⟩
      have hle := ext_le S n (p + 1)
      rw [rs_skip S _ _ _ hle] at hr
      have := (rs_in S _ _ _ r hr).lo
      show p + (ext S (p + 1) n + 1) ≤ r.1
      omega
    · exact rs_pw S n (p + 1) 0
theorem cnt_all {S : Nat → Nat} {s a : Nat} : ∀ {k : Nat}, (∀ j, j < k → S (a + j) = s) → cnt S s a k = k
  | 0, _ => rfl
  | k + 1, h => by
    rw [cnt_hit (h k (by omega)), cnt_all (fun j hj => h j (by omega))]
theorem cnt_none {S : Nat → Nat} {s a : Nat} : ∀ {k : Nat}, (∀ j, j < k → S (a + j) ≠ s) → cnt S s a k = 0
  | 0, _ => rfl
  | k + 1, h => by
    rw [cnt_miss (h k (by omega)), cnt_none (fun j hj => h j (by omega))]
theorem rs_sum (S : Nat → Nat) : ∀ n p sk, sk ≤ n → sumR (rs S p n sk) = cnt S 2 (p + sk) (n - sk)
  | 0, p, sk, h => by
    obtain rfl : sk = 0 := by omega
    rfl
  | n + 1, p, sk + 1, h => by
    show sumR (rs S (p + 1) n sk) = _
    rw [rs_sum S n (p + 1) sk (by omega), show p + 1 + sk = p + (sk + 1) from by omega, show n + 1 - (sk + 1) = n - sk from by omega]
  | n + 1, p, 0, _ => by
    show sumR (if S p = 2 then (p, ext S (p + 1) n + 1) :: rs S (p + 1) n (ext S (p + 1) n) else rs S (p + 1) n 0) = cnt S 2 p (n + 1)
    have hle := ext_le S n (p + 1)
    split
    · rename_i e
      rw [sumR_cons, rs_sum S n (p + 1) _ hle]
      have h1 := cnt_add S 2 p (ext S (p + 1) n + 1) (n - ext S (p + 1) n)
      rw [show ext S (p + 1) n + 1 + (n - ext S (p + 1) n) = n + 1 from by omega, cnt_all (k := ext S (p + 1) n + 1) (fun j hj => ?_)] at h1
      · rw [h1, show p + 1 + ext S (p + 1) n = p + (ext S (p + 1) n + 1) from by omega]
      · cases j with
        | zero => exact e
        | succ j =>
          have := ext_on S n (p + 1) j (by omega)
          rwa [show p + 1 + j = p + (j + 1) from by omega] at this
    · rename_i e
      rw [rs_sum S n (p + 1) 0 (by omega)]
      have h1 := cnt_add S 2 p 1 n
      rw [cnt_none (k := 1) (fun j hj => by obtain rfl : j = 0 := by omega
                                            exact e), Nat.add_comm 1 n] at h1
      rw [h1]; simp

/-- Two runs without a page in common. -/
def Dj (r r' : Nat × Nat) : Prop := r.1 + r.2 ≤ r'.1 ∨ r'.1 + r'.2 ≤ r.1
theorem allR_in {S : Nat → Nat} {L : List Nat} {r : Nat × Nat} (h : r ∈ allR S L) : ∃ k, k ∈ L ∧ RunIn S (16 * k) 16 r := by
  obtain ⟨k, hk, hr⟩ := List.mem_flatMap.1 h
  exact ⟨k, hk, rs_in S 16 (16 * k) 0 r hr⟩
theorem RunIn.huge {S : Nat → Nat} {k : Nat} {r : Nat × Nat} (h : RunIn S (16 * k) 16 r) : r.1 / 16 = k := by
  have := h.lo; have := h.hi; have := h.one; omega
theorem allR_dj (S : Nat → Nat) : ∀ L : List Nat, L.Nodup → (allR S L).Pairwise Dj
  | [], _ => List.Pairwise.nil
  | k :: L, h => by
    obtain ⟨h1, h2⟩ := List.nodup_cons.1 h
    rw [allR_cons]
    refine List.pairwise_append.2 ⟨(rs_pw S 16 (16 * k) 0).imp fun h => .inl h, allR_dj S L h2, fun r hr r' hr' => ?_⟩
    have a := rs_in S 16 (16 * k) 0 r hr
    obtain ⟨j, hj, b⟩ := allR_in hr'
    have hne : k ≠ j := fun e => h1 (e ▸ hj)
    have a1 := a.lo; have a2 := a.hi; have b1 := b.lo; have b2 := b.hi
    unfold Dj
    omega
theorem key_kd {S : Nat → Nat} {a b : Nat} (h : key S a < key S b) : kdS S a ≤ kdS S b := by
  have h1 := cnt_le S 1 (16 * a) 16
  have h2 := cnt_le S 1 (16 * b) 16
  unfold key at h
  generalize kdS S a = x at *
  generalize kdS S b = y at *
  omega
theorem allR_kd (S : Nat → Nat) : ∀ L : List Nat, L.Pairwise (fun a b => key S a < key S b) → (allR S L).Pairwise (fun r r' => kdS S (r.1 / 16) ≤ kdS S (r'.1 / 16))
  | [], _ => List.Pairwise.nil
  | k :: L, h => by
    obtain ⟨h1, h2⟩ := List.pairwise_cons.1 h
    rw [allR_cons]
    refine List.pairwise_append.2 ⟨List.pairwise_iff_forall_sublist.2 fun {r r'} hs => ?_, allR_kd S L h2, fun r hr r' hr' => ?_⟩
    · have m1 := hs.subset (List.mem_cons_self ..)
      have m2 := hs.subset (List.mem_cons_of_mem _ (List.mem_cons_self ..))
      rw [(rs_in S 16 (16 * k) 0 r m1).huge, (rs_in S 16 (16 * k) 0 r' m2).huge]
      exact Nat.le_refl _
    · obtain ⟨j, hj, b⟩ := allR_in hr'
      rw [(rs_in S 16 (16 * k) 0 r hr).huge, b.huge]
      exact key_kd (h1 j hj)

/-! Sums over huge pages. -/
def sumL (F : Nat → Nat) (l : List Nat) : Nat := (l.map F).foldr (· + ·) 0
theorem sumL_cons (F : Nat → Nat) (k : Nat) (l : List Nat) : sumL F (k :: l) = F k + sumL F l := rfl
def sumK (F : Nat → Nat) : Nat → Nat
  | 0 => 0
  | k + 1 => sumK F k + F k
theorem sumL_ins (S : Nat → Nat) (F : Nat → Nat) (k : Nat) : ∀ l, sumL F (ins S k l) = F k + sumL F l
  | [] => rfl
  | x :: l => by
    rw [ins_cons]
    split
    · rw [sumL_cons, sumL_ins S F k l, sumL_cons]; omega
    · rfl
theorem sumL_ord (S : Nat → Nat) (F : Nat → Nat) (hF : ∀ k, anyS S 2 (16 * k) 16 = false → F k = 0) : ∀ n, sumL F (ordN S n) = sumK F n
  | 0 => rfl
  | n + 1 => by
    have ih := sumL_ord S F hF n
    show sumL F (if anyS S 2 (16 * n) 16 = true then ins S n (ordN S n) else ordN S n) = sumK F n + F n
    split
    · rw [sumL_ins, ih]; omega
    · rename_i h
      rw [ih, hF n (by simpa using h)]; omega
theorem any_cnt {S : Nat → Nat} {k : Nat} (h : anyS S 2 (16 * k) 16 = false) : cnt S 2 (16 * k) 16 = 0 := by
  have := cnt_pos S 2 (16 * k) 16
  rw [h] at this
  simp at this
  exact this
theorem sum_all (S : Nat → Nat) : ∀ L, sumR (allR S L) = sumL (fun k => cnt S 2 (16 * k) 16) L
  | [] => rfl
  | k :: L => by rw [allR_cons, sumR_app, sum_all S L, sumL_cons, rs_sum S 16 (16 * k) 0 (by omega)]; rfl
theorem sumK_cnt (S : Nat → Nat) : ∀ n, sumK (fun k => cnt S 2 (16 * k) 16) n = cnt S 2 0 (16 * n)
  | 0 => rfl
  | n + 1 => by
    have := cnt_add S 2 0 (16 * n) 16
    rw [Nat.zero_add, ← sumK_cnt S n] at this
    rw [show 16 * (n + 1) = 16 * n + 16 from by omega, this]; rfl
/-- The runs of all huge pages have all the backed pages. -/
theorem sum_backed (m : Mo) : sumR (allR m.S (ordN m.S m.h)) = cnt m.S 2 0 (16 * m.h) := by
  rw [sum_all, sumL_ord m.S (fun k => cnt m.S 2 (16 * k) 16) (fun k hk => any_cnt hk), sumK_cnt]

/-! The plan, as a beginning of the runs. -/
theorem pl_pre (w : Int) : ∀ (l : List (Nat × Nat)) (c : Nat), pl w l c <+: l
  | [], _ => List.prefix_refl _
  | r :: t, c => by
    show (if w ≤ c then [] else r :: pl w t (c + r.2)) <+: r :: t
    split
    · exact List.nil_prefix
    · exact (List.prefix_cons_inj r).2 (pl_pre w t (c + r.2))
theorem pl_full (w : Int) : ∀ (l : List (Nat × Nat)) (c : Nat), w ≤ (c + sumR (pl w l c) : Nat) ∨ pl w l c = l
  | [], _ => .inr rfl
  | r :: t, c => by
    by_cases e : w ≤ c
    · left; rw [pl_stop e]; simpa [sumR] using e
    · have h : pl w (r :: t) c = r :: pl w t (c + r.2) := if_neg e
      rw [h, sumR_cons]
      rcases pl_full w t (c + r.2) with h1 | h1
      · left; rw [← Nat.add_assoc]; exact h1
      · right; rw [h1]
theorem pl_lt (w : Int) : ∀ (l : List (Nat × Nat)) (c : Nat) (a b : List (Nat × Nat)) (x : Nat × Nat), pl w l c = a ++ x :: b → (c + sumR a : Nat) < w
  | [], c, a, b, x, h => by
    have h' : ([] : List (Nat × Nat)) = a ++ x :: b := h
    simp at h'
  | r :: t, c, a, b, x, h => by
    by_cases e : w ≤ c
    · rw [pl_stop e] at h; simp at h
    · have h0 : pl w (r :: t) c = r :: pl w t (c + r.2) := if_neg e
      rw [h0] at h
      cases a with
      | nil => simp [sumR]; omega
      | cons y a =>
        injection h with h1 h2
        subst h1
        have := pl_lt w t (c + r.2) a b x h2
        rw [sumR_cons]
        rw [← Nat.add_assoc]
        exact this

section
variable {m : Mo} {w : Int}
theorem plan_mem (hwf : WF m) {r : Nat × Nat} (h : r ∈ planM m w) : ∃ k, k < m.h ∧ RunIn m.S (16 * k) 16 r := by
  obtain ⟨k, hk, hr⟩ := allR_in ((pl_pre w _ 0).subset h)
  exact ⟨k, (((ordN_ok m.S m.h hwf.h2).mem k).1 hk).1, hr⟩
theorem plan_dj (hwf : WF m) : (planM m w).Pairwise Dj :=
  (allR_dj m.S _ ((ordN_ok m.S m.h hwf.h2).pw.imp fun {a b} h e => by rw [e] at h; omega)).sublist (pl_pre w _ 0).sublist
theorem plan_sum (m : Mo) (w : Int) : w ≤ (sumR (planM m w) : Nat) ∨ sumR (planM m w) = cnt m.S 2 0 (16 * m.h) := by
  rcases pl_full w (allR m.S (ordN m.S m.h)) 0 with h | h
  · left; rwa [Nat.zero_add] at h
  · right; unfold planM; rw [h, sum_backed]
theorem plan_le (m : Mo) (w : Int) : sumR (planM m w) ≤ cnt m.S 2 0 (16 * m.h) := by
  obtain ⟨t, ht⟩ := pl_pre w (allR m.S (ordN m.S m.h)) 0
  rw [← sum_backed, ← ht, sumR_app]
  exact Nat.le_add_right _ _
theorem len_sum {S : Nat → Nat} : ∀ {l : List (Nat × Nat)}, (∀ r ∈ l, 1 ≤ r.2) → l.length ≤ sumR l
  | [], _ => Nat.le_refl _
  | r :: t, h => by
    rw [List.length_cons, sumR_cons]
    have := len_sum (S := S) (l := t) (fun x hx => h x (List.mem_cons_of_mem _ hx))
    have := h r (List.mem_cons_self ..)
    omega
theorem plan_len (hwf : WF m) : (planM m w).length ≤ 16 * m.h := by
  have h1 := len_sum (S := m.S) (l := planM m w) (fun r hr => by obtain ⟨k, _, h⟩ := plan_mem hwf hr; exact h.one)
  have h2 := plan_le m w
  have h3 := cnt_le m.S 2 0 (16 * m.h)
  omega
end

end Go.Proofs.Ytecfjibmpbgllaa
