/- Marks, pure: what they cover; maps with the same marks. -/
import Derived.Test.YtdjfeibcbmelcaaXd
namespace Go.Proofs.Ytdjfeibcbmelcaa

def inM (m : Mk) (p : Nat) : Prop := m.s ≤ p ∧ p < m.s + m.n
instance (m : Mk) (p : Nat) : Decidable (inM m p) := inferInstanceAs (Decidable (_ ∧ _))
def sumN (l : List Mk) : Nat := l.foldr (fun m n => m.n + n) 0
/-- Two marks that follow one another. -/
def Nx (b a : Mk) : Prop := b.s + b.n ≤ a.s ∧ (b.s + b.n = a.s → b.v ≠ a.v)
/-- What is known of the marks of the pages below k, the last one ahead. -/
structure RkI (M : Nat → Int) (k : Nat) (ps : List Nat) (l : List Mk) : Prop where
  one : ∀ m ∈ l, 1 ≤ m.n ∧ m.s + m.n ≤ k ∧ ∀ p, inM m p → M p = m.v ∧ m.v ≠ 0
  chain : ∀ (i : Nat) (a b : Mk), l[i]? = some a → l[i + 1]? = some b → Nx b a
  cov : ∀ p, p < k → (M p ≠ 0 ↔ ∃ m ∈ l, inM m p)
  sum : sumN l = ps.length
theorem rkI (M : Nat → Int) : ∀ k : Nat, RkI M k (hl (nz M) 0 k) (rkM M (hl (nz M) 0 k))
  | 0 => by
    rw [hl_end (by omega)]
    refine ⟨fun m h => ?_, fun i a b h => ?_, fun p h => ?_, rfl⟩
    · cases h
    · simp [rkM] at h
    · omega
  | k + 1 => by
    have ih := rkI M k
    have hlen := hl_snoc (nz M) k
    by_cases hm : M k = 0
    · rw [if_neg (by rw [nz_false hm]; decide), List.append_nil] at hlen
      rw [hlen]
      generalize hl (nz M) 0 k = ps at ih hlen
      refine ⟨fun m h => ⟨(ih.one m h).1, by have := (ih.one m h).2.1; omega, (ih.one m h).2.2⟩, ih.chain, fun p hp => ?_, ih.sum⟩
      rcases Nat.lt_or_ge p k with h | h
      · exact ih.cov p h
      · obtain rfl : p = k := by omega
        constructor
        · intro h2; exact absurd hm h2
        · rintro ⟨m, h1, h2⟩
          have := (ih.one m h1).2.1
          have h3 := h2.2
          omega
    · rw [if_pos (nz_true hm)] at hlen
      rw [hlen, rkM_snoc]
      generalize hl (nz M) 0 k = ps at ih hlen
      have hsum : (ps ++ [k]).length = ps.length + 1 := by simp
      cases hr : rkM M ps with
      | nil =>
        rw [hr] at ih
        refine ⟨fun m h => ?_, fun i a b h1 h2 => ?_, fun p hp => ?_, ?_⟩
        · cases List.mem_singleton.1 h
          refine ⟨Nat.le_refl _, Nat.le_refl _, fun p hp => ?_⟩
          have hp1 := hp.1
          have hp2 := hp.2
          simp only at hp1 hp2
          obtain rfl : p = k := by omega
          exact ⟨rfl, hm⟩
        · simp [addM] at h2
        · rcases Nat.lt_or_ge p k with h | h
          · rw [ih.cov p h]
            constructor
            · rintro ⟨m, h1, _⟩; cases h1
            · rintro ⟨m, h1, h2⟩
              cases List.mem_singleton.1 h1
              have := h2.1
              simp only at this
              omega
          · obtain rfl : p = k := by omega
            exact ⟨fun _ => ⟨_, List.mem_singleton.2 rfl, Nat.le_refl _, Nat.lt_succ_self _⟩, fun _ => hm⟩
        · rw [hsum, ← ih.sum]; rfl
      | cons m t =>
        rw [hr] at ih
        have hmm := ih.one m (List.mem_cons_self ..)
        by_cases e : k = m.s + m.n ∧ M k = m.v
        · rw [addM_more e]
          refine ⟨fun x h => ?_, fun i a b h1 h2 => ?_, fun p hp => ?_, ?_⟩
          · rcases List.mem_cons.1 h with rfl | h
            · refine ⟨by simp only; omega, by simp only; omega, fun p hp => ?_⟩
              have h1 := hp.1
              have h2 := hp.2
              simp only at h1 h2
              by_cases hpk : p = k
              · subst hpk; exact ⟨e.2, by show m.v ≠ 0; rw [← e.2]; exact hm⟩
              · exact hmm.2.2 p ⟨h1, by omega⟩
            · have := ih.one x (List.mem_cons_of_mem _ h)
              exact ⟨this.1, by omega, this.2.2⟩
          · cases i with
            | zero =>
              have ha : (⟨m.s, m.n + 1, m.v⟩ : Mk) = a := by simpa using h1
              subst ha
              exact ih.chain 0 m b rfl (by simpa using h2)
            | succ i => exact ih.chain (i + 1) a b (by simpa using h1) (by simpa using h2)
          · rcases Nat.lt_or_ge p k with h | h
            · rw [ih.cov p h]
              constructor
              · rintro ⟨x, h1, h2⟩
                rcases List.mem_cons.1 h1 with rfl | h1
                · exact ⟨_, List.mem_cons_self .., h2.1, by have := h2.2; simp only; omega⟩
                · exact ⟨x, List.mem_cons_of_mem _ h1, h2⟩
              · rintro ⟨x, h1, h2⟩
                rcases List.mem_cons.1 h1 with rfl | h1
                · exact ⟨m, List.mem_cons_self .., h2.1, by have := h2.2; simp only at this; omega⟩
                · exact ⟨x, List.mem_cons_of_mem _ h1, h2⟩
            · obtain rfl : p = k := by omega
              exact ⟨fun _ => ⟨_, List.mem_cons_self .., by show m.s ≤ p; omega, by show p < m.s + (m.n + 1); omega⟩, fun _ => hm⟩
          · rw [hsum, ← ih.sum]
            show m.n + 1 + sumN t = m.n + sumN t + 1
            omega
        · rw [addM_one e]
          refine ⟨fun x h => ?_, fun i a b h1 h2 => ?_, fun p hp => ?_, ?_⟩
          · rcases List.mem_cons.1 h with rfl | h
            · refine ⟨Nat.le_refl _, Nat.le_refl _, fun p hp => ?_⟩
              have hp1 := hp.1
              have hp2 := hp.2
              simp only at hp1 hp2
              obtain rfl : p = k := by omega
              exact ⟨rfl, hm⟩
            · have := ih.one x h
              exact ⟨this.1, by omega, this.2.2⟩
          · cases i with
            | zero =>
              have ha : (⟨k, 1, M k⟩ : Mk) = a := by simpa using h1
              have hb : m = b := by simpa using h2
              subst ha hb
              exact ⟨hmm.2.1, fun h3 h4 => e ⟨h3.symm, h4.symm⟩⟩
            | succ i => exact ih.chain i a b (by simpa using h1) (by simpa using h2)
          · rcases Nat.lt_or_ge p k with h | h
            · rw [ih.cov p h]
              constructor
              · rintro ⟨x, h1, h2⟩
                exact ⟨x, List.mem_cons_of_mem _ h1, h2⟩
              · rintro ⟨x, h1, h2⟩
                rcases List.mem_cons.1 h1 with rfl | h1
                · have := h2.1; simp only at this; omega
                · exact ⟨x, h1, h2⟩
            · obtain rfl : p = k := by omega
              exact ⟨fun _ => ⟨_, List.mem_cons_self .., Nat.le_refl _, Nat.lt_succ_self _⟩, fun _ => hm⟩
          · rw [hsum, ← ih.sum]
            show 1 + (m.n + sumN t) = m.n + sumN t + 1
            omega

theorem sumN_app (l k : List Mk) : sumN (l ++ k) = sumN l + sumN k := by
  induction l with
  | nil => show sumN k = 0 + sumN k; omega
  | cons m l ih => show m.n + sumN (l ++ k) = m.n + sumN l + sumN k; rw [ih]; omega
theorem sumN_rev (l : List Mk) : sumN l.reverse = sumN l := by
  induction l with
  | nil => rfl
  | cons m l ih => rw [List.reverse_cons, sumN_app, ih]; show sumN l + (m.n + 0) = m.n + sumN l; omega
/-- What is known of a map's marks. -/
structure MkI (M : Nat → Int) (l : List Mk) : Prop where
  one : ∀ m ∈ l, 1 ≤ m.n ∧ m.s + m.n ≤ 1024 ∧ ∀ p, inM m p → M p = m.v ∧ m.v ≠ 0
  chain : ∀ (i : Nat) (a b : Mk), l[i]? = some a → l[i + 1]? = some b → Nx a b
  cov : ∀ p, p < 1024 → (M p ≠ 0 ↔ ∃ m ∈ l, inM m p)
  sum : sumN l = (hl (nz M) 0 1024).length
theorem mkI (M : Nat → Int) : MkI M (marksM M) := by
  have h := rkI M 1024
  unfold marksM pgs
  generalize rkM M (hl (nz M) 0 1024) = l at h
  refine ⟨fun m hm => h.one m (List.mem_reverse.1 hm), fun i a b h1 h2 => ?_, fun p hp => ?_, by rw [sumN_rev]; exact h.sum⟩
  · have hi : i + 1 < l.length := by
      have := (List.getElem?_eq_some_iff.1 h2).1
      simpa using this
    rw [List.getElem?_reverse (by omega)] at h1 h2
    refine h.chain (l.length - 1 - (i + 1)) b a h2 ?_
    rw [show l.length - 1 - (i + 1) + 1 = l.length - 1 - i from by omega]
    exact h1
  · rw [h.cov p hp]
    simp only [List.mem_reverse]
theorem marksM_congr {M N : Nat → Int} (h : ∀ p, p < 1024 → M p = N p) : marksM M = marksM N := by
  unfold marksM pgs
  rw [hl_congr (d := nz N) (fun p _ hp => by unfold nz; rw [h p hp])]
  congr 1
  have : ∀ (ps : List Nat) (l : List Mk), (∀ p ∈ ps, p < 1024) → ps.foldl (addM M) l = ps.foldl (addM N) l := fun ps => by
    induction ps with
    | nil => intro l _; rfl
    | cons p ps ih =>
      intro l hp
      rw [List.foldl_cons, List.foldl_cons, ih _ (fun q hq => hp q (List.mem_cons_of_mem _ hq))]
      congr 1
      unfold addM
      rw [h p (hp p (List.mem_cons_self ..))]
  exact this _ [] (fun p hp => (hl_mem.1 hp).1.2)
/-- Maps with the same marks give the same numbers. -/
theorem marksM_inj {M N : Nat → Int} (h : marksM M = marksM N) : ∀ p, p < 1024 → M p = N p := fun p hp => by
  have hM := mkI M
  have hN := mkI N
  rw [← h] at hN
  by_cases e : M p = 0
  · by_cases e2 : N p = 0
    · rw [e, e2]
    · obtain ⟨m, h1, h2⟩ := (hN.cov p hp).1 e2
      exact absurd e ((hM.cov p hp).2 ⟨m, h1, h2⟩)
  · obtain ⟨m, h1, h2⟩ := (hM.cov p hp).1 e
    rw [((hM.one m h1).2.2 p h2).1, ((hN.one m h1).2.2 p h2).1]

/-- The map that the first j marks make. -/
def covN (M : Nat → Int) (l : List Mk) (j : Nat) : Nat → Int := fun p => if ∃ m ∈ l.take j, inM m p then M p else 0
theorem covN_zero (M : Nat → Int) (l : List Mk) : covN M l 0 = noM := by
  funext p
  unfold covN
  rw [if_neg (by rintro ⟨m, h, _⟩; cases h)]
  rfl
theorem covN_step {M : Nat → Int} {l : List Mk} (h : MkI M l) {j : Nat} {m : Mk} (hj : l[j]? = some m) : setR (covN M l j) m.s m.n m.v = covN M l (j + 1) := by
  funext p
  unfold setR covN
  have hmem := List.mem_of_getElem? hj
  rw [List.take_add_one, hj]
  by_cases e : m.s ≤ p ∧ p < m.s + m.n
  · rw [if_pos e, if_pos ⟨m, List.mem_append.2 (.inr (List.mem_singleton.2 rfl)), e⟩]
    exact ((h.one m hmem).2.2 p e).1.symm
  · rw [if_neg e]
    congr 1
    apply propext
    constructor
    · rintro ⟨x, h1, h2⟩; exact ⟨x, List.mem_append.2 (.inl h1), h2⟩
    · rintro ⟨x, h1, h2⟩
      rcases List.mem_append.1 h1 with h1 | h1
      · exact ⟨x, h1, h2⟩
      · cases List.mem_singleton.1 h1; exact absurd h2 e
theorem covN_end {M : Nat → Int} {l : List Mk} (h : MkI M l) : ∀ p, p < 1024 → covN M l l.length p = M p := fun p hp => by
  unfold covN
  rw [List.take_length]
  by_cases e : M p = 0
  · rw [if_neg (fun h2 => (h.cov p hp).2 h2 e), e]
  · rw [if_pos ((h.cov p hp).1 e)]
theorem sumN_take {l : List Mk} {j : Nat} {m : Mk} (h : l[j]? = some m) : sumN (l.take (j + 1)) = sumN (l.take j) + m.n := by
  rw [List.take_add_one, h, sumN_app]; rfl
theorem sumN_take_le (l : List Mk) (j : Nat) : sumN (l.take j) ≤ sumN l := by
  have := sumN_app (l.take j) (l.drop j)
  rw [List.take_append_drop] at this
  omega

end Go.Proofs.Ytdjfeibcbmelcaa
