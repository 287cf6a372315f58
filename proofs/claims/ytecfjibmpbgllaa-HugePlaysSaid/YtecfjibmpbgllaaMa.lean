/- The states of the pages of huge pages, and what the document's calls return and leave, as functions. -/
import Derived.Test.YtecfjibmpbgllaaRows
namespace Go.Proofs.Ytecfjibmpbgllaa

structure Mo where
  h : Nat
  S : Nat → Nat

/-- How many of the k pages from a on are in a state. -/
def cnt (S : Nat → Nat) (s a : Nat) : Nat → Nat
  | 0 => 0
  | k + 1 => cnt S s a k + if S (a + k) = s then 1 else 0
def anyS (S : Nat → Nat) (s a k : Nat) : Bool := decide (∃ j : Nat, j < k ∧ S (a + j) = s)
def setR (S : Nat → Nat) (s k v : Nat) : Nat → Nat := fun i => if s ≤ i ∧ i < s + k then v else S i
/-- What a huge page is: 0 absent, 1 idle, 2 broken, 3 whole. -/
def kdS (S : Nat → Nat) (k : Nat) : Nat := if S (16 * k) = 0 then 0 else if anyS S 1 (16 * k) 16 = true then (if anyS S 3 (16 * k) 16 = true then 2 else 3) else 1

structure WF (m : Mo) : Prop where
  h1 : 1 ≤ m.h
  h2 : m.h ≤ 64
  s3 : ∀ i, m.S i ≤ 3
  u : ∀ k, k < m.h → (∀ j, j < 16 → m.S (16 * k + j) = 0) ∨ (∀ j, j < 16 → m.S (16 * k + j) ≠ 0)

theorem cnt_le (S : Nat → Nat) (s a : Nat) : ∀ k, cnt S s a k ≤ k
  | 0 => Nat.le_refl _
  | k + 1 => by
    have := cnt_le S s a k
    unfold cnt
    split <;> omega
theorem cnt_pos (S : Nat → Nat) (s a : Nat) : ∀ k, 0 < cnt S s a k ↔ anyS S s a k = true
  | 0 => by simp [cnt, anyS]
  | k + 1 => by
    have ih := cnt_pos S s a k
    unfold anyS at ih ⊢
    rw [decide_eq_true_eq] at ih ⊢
    unfold cnt
    constructor
    · intro h
      by_cases e : S (a + k) = s
      · exact ⟨k, by omega, e⟩
      · rw [if_neg e] at h
        obtain ⟨j, h1, h2⟩ := ih.1 (by omega)
        exact ⟨j, by omega, h2⟩
    · rintro ⟨j, h1, h2⟩
      by_cases e : j = k
      · subst e; rw [if_pos h2]; omega
      · have := ih.2 ⟨j, by omega, h2⟩
        omega
theorem cnt_congr {S S' : Nat → Nat} {s a : Nat} : ∀ {k : Nat}, (∀ j, j < k → (S (a + j) = s ↔ S' (a + j) = s)) → cnt S s a k = cnt S' s a k
  | 0, _ => rfl
  | k + 1, h => by
    unfold cnt
    rw [cnt_congr (fun j hj => h j (by omega))]
    have := h k (by omega)
    by_cases e : S (a + k) = s
    · rw [if_pos e, if_pos (this.1 e)]
    · rw [if_neg e, if_neg (fun h => e (this.2 h))]
theorem cnt_add (S : Nat → Nat) (s a k : Nat) : ∀ l, cnt S s a (k + l) = cnt S s a k + cnt S s (a + k) l
  | 0 => rfl
  | l + 1 => by
    show cnt S s a (k + l) + (if S (a + (k + l)) = s then 1 else 0) = cnt S s a k + (cnt S s (a + k) l + (if S (a + k + l) = s then 1 else 0))
    rw [cnt_add S s a k l, Nat.add_assoc a k l]
    omega
theorem anyS_true {S : Nat → Nat} {s a k j : Nat} (hj : j < k) (h : S (a + j) = s) : anyS S s a k = true := decide_eq_true ⟨j, hj, h⟩
theorem anyS_false {S : Nat → Nat} {s a k : Nat} (h : ∀ j, j < k → S (a + j) ≠ s) : anyS S s a k = false := decide_eq_false (fun ⟨j, h1, h2⟩ => h j h1 h2)

/-- The number of a huge page in the order of the plan. -/
def key (S : Nat → Nat) (k : Nat) : Nat := (kdS S k * 17 + cnt S 1 (16 * k) 16) * 64 + (63 - k)
theorem key_inj {S : Nat → Nat} {a b : Nat} (ha : a < 64) (hb : b < 64) (h : key S a = key S b) : a = b := by
  unfold key at h
  omega
def ins (S : Nat → Nat) (k : Nat) (l : List Nat) : List Nat := l.takeWhile (fun x => decide (key S x < key S k)) ++ k :: l.dropWhile (fun x => decide (key S x < key S k))
/-- The huge pages with backed pages, in the order of the plan. -/
def ordN (S : Nat → Nat) : Nat → List Nat
  | 0 => []
  | j + 1 => if anyS S 2 (16 * j) 16 = true then ins S j (ordN S j) else ordN S j

/-- How many backed pages there are from p on, one behind the other, of at most n. -/
def ext (S : Nat → Nat) (p : Nat) : Nat → Nat
  | 0 => 0
  | n + 1 => if S p = 2 then ext S (p + 1) n + 1 else 0
/-- The runs of backed pages of the n pages from p on, behind sk pages that are left out. -/
def rs (S : Nat → Nat) (p : Nat) : Nat → Nat → List (Nat × Nat)
  | 0, _ => []
  | n + 1, sk + 1 => rs S (p + 1) n sk
  | n + 1, 0 => if S p = 2 then (p, ext S (p + 1) n + 1) :: rs S (p + 1) n (ext S (p + 1) n) else rs S (p + 1) n 0
def allR (S : Nat → Nat) (l : List Nat) : List (Nat × Nat) := l.flatMap fun k => rs S (16 * k) 16 0
/-- Runs, until there are as many pages as wanted. -/
def pl (w : Int) : List (Nat × Nat) → Nat → List (Nat × Nat)
  | [], _ => []
  | r :: t, c => if w ≤ c then [] else r :: pl w t (c + r.2)
def planM (m : Mo) (w : Int) : List (Nat × Nat) := pl w (allR m.S (ordN m.S m.h)) 0

/-! What the calls return and leave. -/
def turnE (m : Mo) (g : Int) (f : Nat) : Int := if 0 ≤ g ∧ g < m.h then (if kdS m.S g.toNat = f then 0 else 5) else 1
def turnD (m : Mo) (g : Int) (f v : Nat) : Mo := if turnE m g f = 0 then ⟨m.h, setR m.S (16 * g.toNat) 16 v⟩ else m
def hasM (m : Mo) (g : Int) : Bool := decide (0 ≤ g ∧ g < m.h)
def inM (m : Mo) (s k : Int) : Bool := decide (0 ≤ s ∧ 1 ≤ k ∧ s < 16 * m.h ∧ k ≤ 16 * m.h - s)
def allP (S : Nat → Nat) (s k : Nat) (P : Nat → Bool) : Bool := decide (∀ j : Nat, j < k → P (S (s + j)) = true)
def chE (m : Mo) (s k : Int) (P : Nat → Bool) : Int := if inM m s k = true then (if allP m.S s.toNat k.toNat P = true then 0 else 5) else 1
def chD (m : Mo) (s k : Int) (P : Nat → Bool) (v : Nat) : Mo := if chE m s k P = 0 then ⟨m.h, setR m.S s.toNat k.toNat v⟩ else m
def pU : Nat → Bool := fun x => decide (x = 2 ∨ x = 3)
def pN : Nat → Bool := fun x => decide (x = 1)
def pR : Nat → Bool := fun x => decide (x = 2)
def newM (h : Nat) : Mo := ⟨h, fun _ => 0⟩
def stV (m : Mo) (p : Int) : Int := if 0 ≤ p ∧ p < 16 * m.h then m.S p.toNat else -1
def usV (m : Mo) (g : Int) : Int := if 0 ≤ g ∧ g < m.h then (cnt m.S 1 (16 * g.toNat) 16 : Nat) else 0
/-- The huge pages of a kind, of the first n. -/
def kinds (S : Nat → Nat) (f : Nat) : Nat → List Nat
  | 0 => []
  | j + 1 => kinds S f j ++ if kdS S j = f then [j] else []
def coV (m : Mo) (v : Int) : Int := if 0 ≤ v then (cnt m.S v.toNat 0 (16 * m.h) : Nat) else 0

structure Ac where
  k : Int
  a : Int
  b : Int
def doE (m : Mo) (x : Ac) : Int :=
  if x.k = 0 then turnE m x.a 0 else if x.k = 1 then turnE m x.a 1 else if x.k = 2 then chE m x.a x.b pU else if x.k = 3 then chE m x.a x.b pN else if x.k = 4 then chE m x.a x.b pR
  else if x.k = 5 then (if x.a < 0 then 1 else 0) else 0
def doM (m : Mo) (x : Ac) : Mo :=
  if x.k = 0 then turnD m x.a 0 3 else if x.k = 1 then turnD m x.a 1 0 else if x.k = 2 then chD m x.a x.b pU 1 else if x.k = 3 then chD m x.a x.b pN 2 else if x.k = 4 then chD m x.a x.b pR 3
  else m

theorem newM_wf {h : Nat} (h1 : 1 ≤ h) (h2 : h ≤ 64) : WF (newM h) := ⟨h1, h2, fun _ => Nat.zero_le _, fun _ _ => .inl fun _ _ => rfl⟩
theorem turnD_wf {m : Mo} (h : WF m) (g : Int) (f v : Nat) (hv : v ≤ 3) : WF (turnD m g f v) := by
  unfold turnD
  split
  · refine ⟨h.h1, h.h2, fun i => ?_, fun k hk => ?_⟩
    · show setR m.S (16 * g.toNat) 16 v i ≤ 3
      unfold setR
      split
      · exact hv
      · exact h.s3 i
    · show (∀ j, j < 16 → setR m.S (16 * g.toNat) 16 v (16 * k + j) = 0) ∨ (∀ j, j < 16 → setR m.S (16 * g.toNat) 16 v (16 * k + j) ≠ 0)
      unfold setR
      by_cases e : k = g.toNat
      · by_cases hv0 : v = 0
        · exact .inl fun j hj => by rw [if_pos (by omega)]; exact hv0
        · exact .inr fun j hj => by rw [if_pos (by omega)]; exact hv0
      · rcases h.u k hk with hh | hh
        · exact .inl fun j hj => by rw [if_neg (by omega)]; exact hh j hj
        · exact .inr fun j hj => by rw [if_neg (by omega)]; exact hh j hj
  · exact h
theorem chD_wf {m : Mo} (h : WF m) (s k : Int) (P : Nat → Bool) (v : Nat) (hv : v ≤ 3) (hv0 : v ≠ 0) (hP : P 0 = false) : WF (chD m s k P v) := by
  unfold chD chE
  by_cases hin : inM m s k = true
  · rw [if_pos hin]
    by_cases ha : allP m.S s.toNat k.toNat P = true
    · rw [if_pos ha, if_pos rfl]
      have ha' := of_decide_eq_true ha
      have hnz : ∀ p, s.toNat ≤ p → p < s.toNat + k.toNat → m.S p ≠ 0 := fun p h1 h2 e => by
        have := ha' (p - s.toNat) (by omega)
        rw [show s.toNat + (p - s.toNat) = p from by omega, e, hP] at this
        cases this
      refine ⟨h.h1, h.h2, fun i => ?_, fun q hq => ?_⟩
      · show setR m.S s.toNat k.toNat v i ≤ 3
        unfold setR
        split
        · exact hv
        · exact h.s3 i
      · show (∀ j, j < 16 → setR m.S s.toNat k.toNat v (16 * q + j) = 0) ∨ (∀ j, j < 16 → setR m.S s.toNat k.toNat v (16 * q + j) ≠ 0)
        unfold setR
        rcases h.u q hq with hh | hh
        · refine .inl fun j hj => ?_
          rw [if_neg (fun hx => hnz _ hx.1 hx.2 (hh j hj))]
          exact hh j hj
        · refine .inr fun j hj => ?_
          split
          · exact hv0
          · exact hh j hj
    · rw [if_neg ha, if_neg (by omega)]; exact h
  · rw [if_neg hin, if_neg (by omega)]; exact h
theorem doM_wf {m : Mo} (h : WF m) (x : Ac) : WF (doM m x) := by
  unfold doM
  repeat' split
  all_goals first | exact turnD_wf h _ _ _ (by omega) | exact chD_wf h _ _ _ _ (by omega) (by omega) rfl | exact h

/-- The kinds by counts. -/
theorem kd_abs {m : Mo} (h : WF m) {k : Nat} (hk : k < m.h) : kdS m.S k = 0 ↔ 0 < cnt m.S 0 (16 * k) 16 := by
  rw [cnt_pos]
  unfold kdS
  constructor
  · intro e
    split at e
    · rename_i h0
      exact anyS_true (j := 0) (by omega) h0
    · repeat' split at e
      all_goals cases e
  · intro e
    obtain ⟨j, h1, h2⟩ := of_decide_eq_true e
    rcases h.u k hk with hh | hh
    · rw [if_pos (by simpa using hh 0 (by omega))]
    · exact absurd h2 (hh j h1)

end Go.Proofs.Ytecfjibmpbgllaa
