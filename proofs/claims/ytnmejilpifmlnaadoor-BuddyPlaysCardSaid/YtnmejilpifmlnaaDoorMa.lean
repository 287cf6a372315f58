/- Places, and the free blocks that free pages make. -/
import Derived.RowKit
namespace Go.Proofs.YtnmejilpifmlnaaDoor

/-- The start of the place of order k that a page is in. -/
def fl (k p : Nat) : Nat := p / 2 ^ k * 2 ^ k

theorem fl_le (k p : Nat) : fl k p ≤ p := Nat.div_mul_le_self _ _
theorem fl_lt (k p : Nat) : p < fl k p + 2 ^ k := Nat.lt_div_mul_add (Nat.two_pow_pos k)
theorem fl_mod (k p : Nat) : fl k p % 2 ^ k = 0 := Nat.mul_mod_left _ _
theorem fl_of {k s p : Nat} (h : s % 2 ^ k = 0) (h1 : s ≤ p) (h2 : p < s + 2 ^ k) : fl k p = s := by
  unfold fl
  have hP := Nat.two_pow_pos k
  generalize 2 ^ k = P at *
  obtain ⟨c, rfl⟩ := Nat.dvd_of_mod_eq_zero h
  have hc : p / P = c := by
    rw [Nat.div_eq_of_lt_le]
    · rw [Nat.mul_comm]; exact h1
    · rw [Nat.mul_comm, Nat.mul_add]; omega
  rw [hc, Nat.mul_comm]
theorem fl_self {k s : Nat} (h : s % 2 ^ k = 0) : fl k s = s := fl_of h (Nat.le_refl _) (by have := Nat.two_pow_pos k; omega)
theorem fl_zero (p : Nat) : fl 0 p = p := by unfold fl; simp
theorem pow_dvd {j k : Nat} (h : j ≤ k) : 2 ^ j ∣ 2 ^ k := Nat.pow_dvd_pow 2 h
theorem mod_le {j k s : Nat} (h : j ≤ k) (hs : s % 2 ^ k = 0) : s % 2 ^ j = 0 := Nat.mod_eq_zero_of_dvd (Nat.dvd_trans (pow_dvd h) (Nat.dvd_of_mod_eq_zero hs))
theorem step_le {P a b : Nat} (ha : a % P = 0) (hb : b % P = 0) (h : a < b) : a + P ≤ b := by
  obtain ⟨c, rfl⟩ := Nat.dvd_of_mod_eq_zero ha
  obtain ⟨d, rfl⟩ := Nat.dvd_of_mod_eq_zero hb
  have hcd : c < d := Nat.lt_of_mul_lt_mul_left h
  have := Nat.mul_le_mul_left P (show c + 1 ≤ d from hcd)
  rw [Nat.mul_add] at this
  omega
theorem pow_le {j k : Nat} (h : j ≤ k) : 2 ^ j ≤ 2 ^ k := Nat.pow_le_pow_right (by omega) h
theorem fl_le_fl {j k p : Nat} (h : j ≤ k) : fl k p ≤ fl j p := by
  rcases Nat.lt_or_ge (fl j p) (fl k p) with hlt | hge
  · have := step_le (fl_mod j p) (mod_le h (fl_mod k p)) hlt
    have := fl_lt j p
    have := fl_le k p
    omega
  · exact hge
theorem fl_end {j k p : Nat} (h : j ≤ k) : fl j p + 2 ^ j ≤ fl k p + 2 ^ k := by
  refine step_le (fl_mod j p) (?_) ?_
  · refine Nat.mod_eq_zero_of_dvd (Nat.dvd_add ?_ (pow_dvd h))
    exact Nat.dvd_of_mod_eq_zero (mod_le h (fl_mod k p))
  · have := fl_le j p
    have := fl_lt k p
    omega
theorem fl_fl {j k p : Nat} (h : j ≤ k) : fl k (fl j p) = fl k p := by
  refine fl_of (fl_mod k p) (fl_le_fl h) ?_
  have := fl_le j p
  have := fl_lt k p
  omega
/-- Pages of one place are in one place of each greater order. -/
theorem fl_same {j k p q : Nat} (h : j ≤ k) (h1 : fl j p ≤ q) (h2 : q < fl j p + 2 ^ j) : fl k q = fl k p := by
  rw [← fl_fl h, fl_of (fl_mod j p) h1 h2, fl_fl h]

/-- A place all of whose pages are free. -/
def Pl (F : Nat → Bool) (k s : Nat) : Prop := s % 2 ^ k = 0 ∧ ∀ j, j < 2 ^ k → F (s + j) = true
instance (F : Nat → Bool) (k s : Nat) : Decidable (Pl F k s) := by unfold Pl; infer_instance
/-- A free block. -/
def Bk (F : Nat → Bool) (k s : Nat) : Prop := Pl F k s ∧ ¬ Pl F (k + 1) (fl (k + 1) s)
instance (F : Nat → Bool) (k s : Nat) : Decidable (Bk F k s) := by unfold Bk; infer_instance

theorem Pl.at {F : Nat → Bool} {k s p : Nat} (h : Pl F k s) (h1 : s ≤ p) (h2 : p < s + 2 ^ k) : F p = true := by
  have := h.2 (p - s) (by omega)
  rwa [show s + (p - s) = p from by omega] at this
theorem Pl.mk' {F : Nat → Bool} {k s : Nat} (h : s % 2 ^ k = 0) (h1 : ∀ p, s ≤ p → p < s + 2 ^ k → F p = true) : Pl F k s := ⟨h, fun j hj => h1 _ (by omega) (by omega)⟩
theorem Pl.down {F : Nat → Bool} {j k p : Nat} (h : Pl F k (fl k p)) (hj : j ≤ k) : Pl F j (fl j p) :=
  Pl.mk' (fl_mod j p) fun _ h1 h2 => h.at (Nat.le_trans (fl_le_fl hj) h1) (Nat.lt_of_lt_of_le h2 (fl_end hj))
theorem Pl.mono {F G : Nat → Bool} {k s : Nat} (h : Pl F k s) (hg : ∀ p, F p = true → G p = true) : Pl G k s := ⟨h.1, fun j hj => hg _ (h.2 j hj)⟩
theorem Pl.congr {F G : Nat → Bool} {k s : Nat} (h : Pl F k s) (hg : ∀ p, s ≤ p → p < s + 2 ^ k → G p = F p) : Pl G k s := ⟨h.1, fun j hj => by rw [hg _ (by omega) (by omega)]; exact h.2 j hj⟩
theorem Bk.mod {F : Nat → Bool} {k s : Nat} (h : Bk F k s) : s % 2 ^ k = 0 := h.1.1
theorem Bk.at {F : Nat → Bool} {k s p : Nat} (h : Bk F k s) (h1 : s ≤ p) (h2 : p < s + 2 ^ k) : F p = true := h.1.at h1 h2
/-- A free block by any of its pages. -/
theorem Bk.page {F : Nat → Bool} {k s p : Nat} (h : Bk F k s) (h1 : s ≤ p) (h2 : p < s + 2 ^ k) : fl k p = s ∧ Pl F k (fl k p) ∧ ¬ Pl F (k + 1) (fl (k + 1) p) := by
  have e := fl_of h.mod h1 h2
  refine ⟨e, by rw [e]; exact h.1, ?_⟩
  rw [← fl_fl (Nat.le_succ k), e]
  exact h.2
theorem bk_mk {F : Nat → Bool} {k p : Nat} (h1 : Pl F k (fl k p)) (h2 : ¬ Pl F (k + 1) (fl (k + 1) p)) : Bk F k (fl k p) := ⟨h1, by rw [fl_fl (Nat.le_succ k)]; exact h2⟩
/-- A page is in one free block at most. -/
theorem Bk.one {F : Nat → Bool} {j k s t p : Nat} (h : Bk F k s) (h' : Bk F j t) (h1 : s ≤ p) (h2 : p < s + 2 ^ k) (h3 : t ≤ p) (h4 : p < t + 2 ^ j) : k = j ∧ s = t := by
  obtain ⟨e, a, b⟩ := h.page h1 h2
  obtain ⟨e', a', b'⟩ := h'.page h3 h4
  rcases Nat.lt_trichotomy k j with hlt | rfl | hlt
  · exact absurd (a'.down hlt) b
  · exact ⟨rfl, by rw [← e, e']⟩
  · exact absurd (a.down hlt) b'
/-- A free page is in a free block. -/
theorem bk_ex {F : Nat → Bool} {K n p : Nat} (hF : ∀ q, F q = true → q < n) (hK : n < 2 ^ K) (hp : F p = true) : ∃ k, k < K ∧ Bk F k (fl k p) := by
  have h0 : Pl F 0 (fl 0 p) := by
    rw [fl_zero]
    refine ⟨Nat.mod_one _, fun j hj => ?_⟩
    have : j = 0 := by have : (2 : Nat) ^ 0 = 1 := rfl; omega
    rw [this]; exact hp
  have hn : ¬ Pl F K (fl K p) := fun h => by
    have := hF _ (h.at (p := fl K p + 2 ^ K - 1) (by have := Nat.two_pow_pos K; omega) (by have := Nat.two_pow_pos K; omega))
    omega
  have go : ∀ d k, k + d = K → Pl F k (fl k p) → ∃ k, k < K ∧ Bk F k (fl k p) := by
    intro d
    induction d with
    | zero => intro k hk h; obtain rfl : k = K := by omega
              exact absurd h hn
    | succ d ih =>
      intro k hk h
      by_cases hs : Pl F (k + 1) (fl (k + 1) p)
      · exact ih (k + 1) (by omega) hs
      · exact ⟨k, by omega, bk_mk h hs⟩
  exact go K 0 (by omega) h0

/-- The pages from s to before e are made free, or not. -/
def setF (F : Nat → Bool) (s e : Nat) (b : Bool) : Nat → Bool := fun p => if s ≤ p ∧ p < e then b else F p
theorem setF_in {F : Nat → Bool} {s e p : Nat} {b : Bool} (h1 : s ≤ p) (h2 : p < e) : setF F s e b p = b := if_pos ⟨h1, h2⟩
theorem setF_out {F : Nat → Bool} {s e p : Nat} {b : Bool} (h : ¬ (s ≤ p ∧ p < e)) : setF F s e b p = F p := if_neg h
theorem setF_none {F : Nat → Bool} {s e : Nat} {b : Bool} (h : e ≤ s) : setF F s e b = F := by
  funext p; exact setF_out (by omega)
theorem setF_join {F : Nat → Bool} {s e f : Nat} {b : Bool} (h1 : s ≤ e) (h2 : e ≤ f) : setF (setF F s e b) e f b = setF F s f b := by
  funext p
  by_cases h : e ≤ p ∧ p < f
  · rw [setF_in h.1 h.2, setF_in (by omega) h.2]
  · rw [setF_out h]
    by_cases h' : s ≤ p ∧ p < e
    · rw [setF_in h'.1 h'.2, setF_in h'.1 (by omega)]
    · rw [setF_out h', setF_out (by omega)]

/-- A free block is taken out. -/
theorem bk_out {F : Nat → Bool} {k s : Nat} (h : Bk F k s) (j t : Nat) : Bk (setF F s (s + 2 ^ k) false) j t ↔ Bk F j t ∧ ¬ (j = k ∧ t = s) := by
  have hle : ∀ p, setF F s (s + 2 ^ k) false p = true → F p = true ∧ ¬ (s ≤ p ∧ p < s + 2 ^ k) := fun p hp => by
    by_cases hi : s ≤ p ∧ p < s + 2 ^ k
    · rw [setF_in hi.1 hi.2] at hp; cases hp
    · rw [setF_out hi] at hp; exact ⟨hp, hi⟩
  constructor
  · rintro ⟨h1, h2⟩
    have h1' : Pl F j t := h1.mono fun p hp => (hle p hp).1
    have htp := Nat.two_pow_pos j
    refine ⟨⟨h1', fun hpar => h2 (hpar.congr fun q q1 q2 => ?_)⟩, ?_⟩
    · by_cases hi : s ≤ q ∧ q < s + 2 ^ k
      · exfalso
        obtain ⟨e, a, b⟩ := h.page hi.1 hi.2
        have e2 : fl (j + 1) q = fl (j + 1) t := fl_same (Nat.le_refl _) q1 q2
        rw [← e2] at hpar
        have hjk : j + 1 ≤ k := by
          rcases Nat.lt_or_ge k (j + 1) with hlt | hge
          · exact absurd (hpar.down hlt) b
          · exact hge
        have e3 : fl k t = s := by rw [← e, ← fl_fl hjk, ← e2, fl_fl hjk]
        have := (hle t (h1.at (Nat.le_refl _) (by omega))).2
        have := fl_le k t
        have := fl_lt k t
        omega
      · exact setF_out hi
    · rintro ⟨rfl, rfl⟩
      have := (hle t (h1.at (Nat.le_refl _) (by omega))).2
      omega
  · rintro ⟨h1, h2⟩
    refine ⟨h1.1.congr fun q q1 q2 => setF_out fun hi => ?_, fun hpar => h1.2 (hpar.mono fun p hp => (hle p hp).1)⟩
    obtain ⟨e1, e2⟩ := h.one h1 hi.1 hi.2 q1 q2
    exact h2 ⟨e1.symm, e2.symm⟩

/-- The other half of the next greater place. -/
def sib (k s : Nat) : Nat := if s / 2 ^ k % 2 = 0 then s + 2 ^ k else s - 2 ^ k
theorem sib_facts {k s : Nat} (h : s % 2 ^ k = 0) : sib k s % 2 ^ k = 0 ∧ fl (k + 1) s = min s (sib k s) ∧ fl (k + 1) (sib k s) = min s (sib k s) ∧
    ((s = min s (sib k s) ∧ sib k s = s + 2 ^ k) ∨ (sib k s = min s (sib k s) ∧ s = sib k s + 2 ^ k)) := by
  have hP := Nat.two_pow_pos k
  have e2 : 2 ^ (k + 1) = 2 * 2 ^ k := by rw [Nat.pow_succ, Nat.mul_comm]
  obtain ⟨c, rfl⟩ := Nat.dvd_of_mod_eq_zero h
  have hc : 2 ^ k * c / 2 ^ k = c := Nat.mul_div_cancel_left _ hP
  unfold sib
  rw [hc]
  obtain ⟨d, hd⟩ : ∃ d, c = 2 * d ∨ c = 2 * d + 1 := ⟨c / 2, by omega⟩
  rcases hd with rfl | rfl
  · rw [if_pos (by omega)]
    have em : 2 ^ k * (2 * d) % 2 ^ (k + 1) = 0 := by
      rw [e2, show 2 ^ k * (2 * d) = 2 * 2 ^ k * d from by rw [← Nat.mul_assoc, Nat.mul_comm (2 ^ k) 2]]
      exact Nat.mul_mod_right _ _
    have hm : min (2 ^ k * (2 * d)) (2 ^ k * (2 * d) + 2 ^ k) = 2 ^ k * (2 * d) := by omega
    rw [hm]
    refine ⟨?_, fl_self em, fl_of em (by omega) (by omega), .inl ⟨rfl, rfl⟩⟩
    rw [Nat.add_mod_right]; exact Nat.mul_mod_right _ _
  · rw [if_neg (by omega)]
    have ea : 2 ^ k * (2 * d + 1) = 2 ^ k * (2 * d) + 2 ^ k := by rw [Nat.mul_add, Nat.mul_one]
    have em : 2 ^ k * (2 * d) % 2 ^ (k + 1) = 0 := by
      rw [e2, show 2 ^ k * (2 * d) = 2 * 2 ^ k * d from by rw [← Nat.mul_assoc, Nat.mul_comm (2 ^ k) 2]]
      exact Nat.mul_mod_right _ _
    have eb : 2 ^ k * (2 * d + 1) - 2 ^ k = 2 ^ k * (2 * d) := by omega
    have hm : min (2 ^ k * (2 * d + 1)) (2 ^ k * (2 * d + 1) - 2 ^ k) = 2 ^ k * (2 * d) := by omega
    rw [hm, eb]
    exact ⟨Nat.mul_mod_right _ _, fl_of em (by omega) (by omega), fl_self em, .inr ⟨rfl, ea⟩⟩

/-- A place is given whose other half is no free block. -/
theorem bk_in {F : Nat → Bool} {k s : Nat} (hs : s % 2 ^ k = 0) (hn : ∀ p, s ≤ p → p < s + 2 ^ k → F p = false) (ho : ¬ Bk F k (sib k s)) (j t : Nat) :
    Bk (setF F s (s + 2 ^ k) true) j t ↔ Bk F j t ∨ (j = k ∧ t = s) := by
  obtain ⟨m0, m1, m2, m3⟩ := sib_facts hs
  have hP := Nat.two_pow_pos k
  have e2 : 2 ^ (k + 1) = 2 * 2 ^ k := by rw [Nat.pow_succ, Nat.mul_comm]
  have hge : ∀ p, F p = true → setF F s (s + 2 ^ k) true p = true := fun p hp => by
    by_cases hi : s ≤ p ∧ p < s + 2 ^ k
    · exact setF_in hi.1 hi.2
    · rw [setF_out hi]; exact hp
  -- the other half is not all free
  have hsib : ¬ Pl F k (sib k s) := fun h => ho ⟨h, fun hp => by
    have := hp.at (p := s) (by omega) (by omega)
    rw [hn s (by omega) (by omega)] at this
    cases this⟩
  have hpar : ¬ Pl (setF F s (s + 2 ^ k) true) (k + 1) (fl (k + 1) s) := fun h => hsib (Pl.mk' m0 fun p p1 p2 => by
    have := h.at (p := p) (by omega) (by omega)
    rwa [setF_out (by omega)] at this)
  have hup : ∀ i q, k + 1 ≤ i → s ≤ q → q < s + 2 ^ k → ¬ Pl (setF F s (s + 2 ^ k) true) i (fl i q) := fun i q hi q1 q2 h => by
    have := h.down hi
    have e : fl (k + 1) q = fl (k + 1) s := fl_same (Nat.le_succ k) (by rw [fl_self hs]; exact q1) (by rw [fl_self hs]; exact q2)
    rw [e] at this
    exact hpar this
  have hin : ∀ i q, i ≤ k → s ≤ q → q < s + 2 ^ k → Pl (setF F s (s + 2 ^ k) true) i (fl i q) := fun i q hi q1 q2 => by
    have : Pl (setF F s (s + 2 ^ k) true) k (fl k q) := by
      rw [fl_of hs q1 q2]
      exact Pl.mk' hs fun p p1 p2 => setF_in p1 p2
    exact this.down hi
  constructor
  · intro h
    by_cases hx : ∃ q, (t ≤ q ∧ q < t + 2 ^ j) ∧ s ≤ q ∧ q < s + 2 ^ k
    · obtain ⟨q, ⟨t1, t2⟩, q1, q2⟩ := hx
      obtain ⟨e, a, b⟩ := h.page t1 t2
      rcases Nat.lt_trichotomy j k with hlt | rfl | hlt
      · exact absurd (hin _ q hlt q1 q2) b
      · exact .inr ⟨rfl, by rw [← e, fl_of hs q1 q2]⟩
      · exact absurd a (hup j q hlt q1 q2)
    · refine .inl ⟨h.1.congr fun p p1 p2 => ?_, fun hp => h.2 (hp.mono hge)⟩
      rw [setF_out fun hi => hx ⟨p, ⟨p1, p2⟩, hi⟩]
  · rintro (h | ⟨rfl, rfl⟩)
    · refine ⟨h.1.mono hge, fun hp => h.2 (hp.congr fun q q1 q2 => ?_)⟩
      by_cases hi : s ≤ q ∧ q < s + 2 ^ k
      · exfalso
        have e : fl (j + 1) q = fl (j + 1) t := fl_same (Nat.le_refl _) q1 q2
        rcases Nat.lt_or_ge k (j + 1) with hlt | hge'
        · rw [← e] at hp
          exact hup _ q hlt hi.1 hi.2 hp
        · have e3 : fl k t = s := by rw [← fl_fl hge', ← e, fl_fl hge', fl_of hs hi.1 hi.2]
          have := h.at (p := t) (Nat.le_refl _) (by have := Nat.two_pow_pos j; omega)
          rw [hn t (by have := fl_le k t; omega) (by have := fl_lt k t; omega)] at this
          cases this
      · exact (setF_out hi).symm
    · exact ⟨Pl.mk' hs fun p p1 p2 => setF_in p1 p2, hpar⟩

theorem setF_par {F : Nat → Bool} {k s : Nat} (hs : s % 2 ^ k = 0) (h : Pl F k (sib k s)) : 
    setF (setF F (sib k s) (sib k s + 2 ^ k) false) (min s (sib k s)) (min s (sib k s) + 2 ^ (k + 1)) true = setF F s (s + 2 ^ k) true := by
  obtain ⟨m0, m1, m2, m3⟩ := sib_facts hs
  have e2 : 2 ^ (k + 1) = 2 * 2 ^ k := by rw [Nat.pow_succ, Nat.mul_comm]
  funext p
  by_cases hi : s ≤ p ∧ p < s + 2 ^ k
  · rw [setF_in (by omega) (by omega), setF_in hi.1 hi.2]
  · by_cases ho : sib k s ≤ p ∧ p < sib k s + 2 ^ k
    · rw [setF_in (by omega) (by omega), setF_out hi]
      exact (h.at ho.1 ho.2).symm
    · rw [setF_out (by omega), setF_out ho, setF_out hi]

/-- The free blocks of an order, rising. -/
def bl (F : Nat → Bool) (n k : Nat) : List Nat := (List.range n).filter fun s => decide (Bk F k s)
theorem bl_mem {F : Nat → Bool} {n k s : Nat} (hF : ∀ q, F q = true → q < n) : s ∈ bl F n k ↔ Bk F k s := by
  unfold bl
  rw [List.mem_filter, List.mem_range, decide_eq_true_eq]
  refine ⟨fun h => h.2, fun h => ⟨hF s (h.at (Nat.le_refl _) (by have := Nat.two_pow_pos k; omega)), h⟩⟩
theorem bl_rise (F : Nat → Bool) (n k : Nat) : (bl F n k).Pairwise (· < ·) := List.Pairwise.filter _ List.pairwise_lt_range
theorem bl_nil {F : Nat → Bool} {n k : Nat} (hF : ∀ q, F q = true → q < n) (h : n < 2 ^ k) : bl F n k = [] := by
  rw [List.eq_nil_iff_forall_not_mem]
  intro s hs
  have hb := (bl_mem hF).1 hs
  have := hF _ (hb.at (p := s + 2 ^ k - 1) (by have := Nat.two_pow_pos k; omega) (by have := Nat.two_pow_pos k; omega))
  omega
theorem bl_congr {F G : Nat → Bool} {n k : Nat} (h : ∀ s, Bk F k s ↔ Bk G k s) : bl F n k = bl G n k := by
  unfold bl
  congr 1
  funext s
  exact decide_eq_decide.2 (h s)

end Go.Proofs.YtnmejilpifmlnaaDoor
