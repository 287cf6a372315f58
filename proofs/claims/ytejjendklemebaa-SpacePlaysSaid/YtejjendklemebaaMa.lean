/- The model of a space: states of pages, words, the peak. -/
import Derived.RowKit
namespace Go.Proofs.Ytejjendklemebaa

/-- A space as the chapter says it: its number of pages, the state of each, what each word holds, the peak. -/
structure Mo where
  n : Nat
  st : Nat → Int
  hd : Nat → Int
  pk : Nat

def dirS (st : Nat → Int) (n : Nat) : Nat := (List.range n).countP fun k => decide (st k = 2)
def mapS (st : Nat → Int) (n : Nat) : Nat := (List.range n).countP fun k => decide (st k ≠ 0)
def Mo.dir (m : Mo) : Nat := dirS m.st m.n
def Mo.mpd (m : Mo) : Nat := mapS m.st m.n

structure WF (m : Mo) : Prop where
  n1 : 1 ≤ m.n
  n2 : m.n ≤ 1024
  s : ∀ k, m.st k = 0 ∨ m.st k = 1 ∨ m.st k = 2
  z : ∀ i, m.st (i / 32) ≠ 2 → m.hd i = 0
  d : m.dir ≤ m.pk
  p : m.pk ≤ m.n

def newM (n : Nat) : Mo := ⟨n, fun _ => 0, fun _ => 0, 0⟩
def inM (m : Mo) (s k : Int) : Bool := decide (0 ≤ s ∧ 1 ≤ k ∧ s < m.n ∧ k ≤ m.n - s)
def noneM (m : Mo) (s k : Nat) : Bool := decide (∀ j : Nat, j < k → m.st (s + j) = 0)
def allM (m : Mo) (s k : Nat) : Bool := decide (∀ j : Nat, j < k → m.st (s + j) ≠ 0)
def setM (m : Mo) (s k : Nat) (v : Int) : Mo := { m with st := fun p => if s ≤ p ∧ p < s + k then v else m.st p, hd := fun i => if s ≤ i / 32 ∧ i / 32 < s + k then 0 else m.hd i }
def mapE (m : Mo) (s k : Int) : Int := if inM m s k = true then (if noneM m s.toNat k.toNat = true then 0 else 5) else 1
def mapD (m : Mo) (s k : Int) : Mo := if mapE m s k = 0 then setM m s.toNat k.toNat 1 else m
def loseE (m : Mo) (s k : Int) : Int := if inM m s k = true then (if allM m s.toNat k.toNat = true then 0 else 7) else 1
def loseD (m : Mo) (s k v : Int) : Mo := if loseE m s k = 0 then setM m s.toNat k.toNat v else m

def upS (st : Nat → Int) (k : Nat) (v : Int) : Nat → Int := fun j => if j = k then v else st j
def putM (m : Mo) (i : Nat) (v : Int) : Mo := ⟨m.n, upS m.st (i / 32) 2, upS m.hd i v, max m.pk (dirS (upS m.st (i / 32) 2) m.n)⟩
def putN (m : Mo) (i : Nat) (f : Nat → Int) : Nat → Mo
  | 0 => m
  | k + 1 => putM (putN m i f k) (i + k) (f k)

def accM (m : Mo) (a k : Int) : Bool := decide (k = 0 ∨ 0 ≤ a ∧ a % 8 = 0 ∧ a / 8 < 32 * m.n ∧ k ≤ 32 * m.n - a / 8 ∧ ∀ j : Nat, j < k.toNat → m.st (((a / 8).toNat + j) / 32) ≠ 0)
def rdE (m : Mo) (a : Int) : Int := if accM m a 1 = true then 0 else 7
def rdV (m : Mo) (a : Int) : Int := if accM m a 1 = true then m.hd (a / 8).toNat else 0
def chkE (m : Mo) (k a : Int) : Int := if k < 0 ∨ 32768 < k then 1 else if accM m a k = true then 0 else 7
def chk2E (m : Mo) (k a b : Int) : Int := if k < 0 ∨ 32768 < k then 1 else if accM m a k = true ∧ accM m b k = true then 0 else 7
def fillD (m : Mo) (a k v : Int) : Mo := if chkE m k a = 0 then putN m (a / 8).toNat (fun _ => v) k.toNat else m
def copyD (m : Mo) (a b k : Int) : Mo := if chk2E m k a b = 0 then putN m (a / 8).toNat (fun j => m.hd ((b / 8).toNat + j)) k.toNat else m
def stV (m : Mo) (p : Int) : Int := if 0 ≤ p ∧ p < m.n then m.st p.toNat else -1

/-- A call. -/
structure Ac where
  k : Int
  a : Int
  b : Int
  c : Int
instance : Inhabited Ac := ⟨⟨0, 0, 0, 0⟩⟩
def doE (m : Mo) (x : Ac) : Int :=
  if x.k = 0 then mapE m x.a x.b else if x.k = 1 then loseE m x.a x.b else if x.k = 2 then loseE m x.a x.b else if x.k = 3 then rdE m x.a else if x.k = 4 then chkE m 1 x.a
  else if x.k = 5 then chkE m x.b x.a else if x.k = 6 then chkE m x.b x.a else if x.k = 7 then chk2E m x.c x.a x.b else 0
def doM (m : Mo) (x : Ac) : Mo :=
  if x.k = 0 then mapD m x.a x.b else if x.k = 1 then loseD m x.a x.b 0 else if x.k = 2 then loseD m x.a x.b 1 else if x.k = 4 then fillD m x.a 1 x.b
  else if x.k = 6 then fillD m x.a x.b x.c else if x.k = 7 then copyD m x.a x.b x.c else m

/-! ### counts -/

theorem countP_up (p q : Nat → Bool) (k : Nat) : ∀ n, (∀ j, j ≠ k → q j = p j) → k < n → (List.range n).countP q + (if p k = true then 1 else 0) = (List.range n).countP p + (if q k = true then 1 else 0) := by
  intro n h
  induction n with
  | zero => intro hk; omega
  | succ n ih =>
    intro hk
    rw [List.range_succ, List.countP_append, List.countP_append]
    by_cases hn : k = n
    · subst hn
      have : (List.range k).countP q = (List.range k).countP p := by
        apply List.countP_congr
        intro x hx
        rw [h x (by have := List.mem_range.1 hx; omega)]
      rw [this]
      simp only [List.countP_cons, List.countP_nil]
      omega
    · have := ih (by omega)
      simp only [List.countP_cons, List.countP_nil]
      rw [h n (by omega)]
      omega

theorem dirS_le (st : Nat → Int) (n : Nat) : dirS st n ≤ n := by
  unfold dirS
  have := List.countP_le_length (p := fun k => decide (st k = 2)) (l := List.range n)
  simpa using this
theorem mapS_le (st : Nat → Int) (n : Nat) : mapS st n ≤ n := by
  unfold mapS
  have := List.countP_le_length (p := fun k => decide (st k ≠ 0)) (l := List.range n)
  simpa using this
theorem dirS_map (st : Nat → Int) (n : Nat) : dirS st n ≤ mapS st n := by
  unfold dirS mapS
  apply List.countP_mono_left
  intro x _ h
  have := of_decide_eq_true h
  apply decide_eq_true
  omega
theorem mapS_succ (st : Nat → Int) (n : Nat) : mapS st (n + 1) = mapS st n + if st n ≠ 0 then 1 else 0 := by
  unfold mapS
  rw [List.range_succ, List.countP_append]
  simp only [List.countP_cons, List.countP_nil, decide_eq_true_eq]
  omega
theorem dirS_up (st : Nat → Int) (n k : Nat) (v : Int) (hk : k < n) : dirS (upS st k v) n + (if st k = 2 then 1 else 0) = dirS st n + (if v = 2 then 1 else 0) := by
  have := countP_up (fun j => decide (st j = 2)) (fun j => decide (upS st k v j = 2)) k n (fun j hj => by simp [upS, hj]) hk
  simpa [dirS, upS] using this
theorem dirS_congr {st st' : Nat → Int} {n : Nat} (h : ∀ k, k < n → st k = st' k) : dirS st n = dirS st' n := by
  unfold dirS
  apply List.countP_congr
  intro x hx
  rw [h x (List.mem_range.1 hx)]

/-! ### what calls keep -/

theorem newM_wf {n : Nat} (h1 : 1 ≤ n) (h2 : n ≤ 1024) : WF (newM n) := by
  have hd : (newM n).dir = 0 := by
    show dirS (fun _ => 0) n = 0
    unfold dirS
    rw [List.countP_eq_zero]
    intro a _
    simp
  exact ⟨h1, h2, fun _ => .inl rfl, fun _ _ => rfl, by rw [hd]; exact Nat.zero_le _, Nat.zero_le _⟩

theorem setM_zero (m : Mo) (s : Nat) (v : Int) : setM m s 0 v = m := by
  unfold setM
  cases m
  simp only [Mo.mk.injEq, true_and, and_true]
  constructor <;> (funext p; rw [if_neg (by omega)])
theorem setM_succ (m : Mo) (s k : Nat) (v : Int) : setM m s (k + 1) v = setM (setM m s k v) (s + k) 1 v := by
  unfold setM
  simp only [Mo.mk.injEq, true_and, and_true]
  constructor
  · funext p
    by_cases h : s ≤ p ∧ p < s + (k + 1)
    · rw [if_pos h]
      by_cases h2 : s + k ≤ p ∧ p < s + k + 1
      · rw [if_pos h2]
      · rw [if_neg h2, if_pos (by omega)]
    · rw [if_neg h, if_neg (by omega), if_neg (by omega)]
  · funext p
    by_cases h : s ≤ p / 32 ∧ p / 32 < s + (k + 1)
    · rw [if_pos h]
      by_cases h2 : s + k ≤ p / 32 ∧ p / 32 < s + k + 1
      · rw [if_pos h2]
      · rw [if_neg h2, if_pos (by omega)]
    · rw [if_neg h, if_neg (by omega), if_neg (by omega)]
theorem setM_one (m : Mo) (s : Nat) (v : Int) : (setM m s 1 v).st = upS m.st s v := by
  funext p
  unfold setM upS
  dsimp only
  by_cases h : p = s
  · rw [if_pos h, if_pos (by omega)]
  · rw [if_neg h, if_neg (by omega)]
theorem setM_one_dir (m : Mo) (s : Nat) (v : Int) (hs : s < m.n) (hv : v ≠ 2) : (setM m s 1 v).dir + (if m.st s = 2 then 1 else 0) = m.dir := by
  show dirS (setM m s 1 v).st m.n + _ = dirS m.st m.n
  rw [setM_one]
  have := dirS_up m.st m.n s v hs
  rw [if_neg hv] at this
  exact this
theorem setM_one_wf {m : Mo} (h : WF m) (s : Nat) (v : Int) (hs : s < m.n) (hv : v = 0 ∨ v = 1) : WF (setM m s 1 v) := by
  have hd := setM_one_dir m s v hs (by omega)
  refine ⟨h.n1, h.n2, fun k => ?_, fun i hi => ?_, ?_, h.p⟩
  · rw [setM_one]
    unfold upS
    split
    · omega
    · exact h.s k
  · show (if s ≤ i / 32 ∧ i / 32 < s + 1 then 0 else m.hd i) = 0
    split
    · rfl
    · rename_i hn
      rw [setM_one] at hi
      unfold upS at hi
      rw [if_neg (by omega)] at hi
      exact h.z i hi
  · have := h.d
    show (setM m s 1 v).dir ≤ m.pk
    omega
theorem setM_wf {m : Mo} (h : WF m) (s : Nat) (v : Int) (hv : v = 0 ∨ v = 1) : ∀ k, s + k ≤ m.n → WF (setM m s k v)
  | 0, _ => by rw [setM_zero]; exact h
  | k + 1, hk => by rw [setM_succ]; exact setM_one_wf (setM_wf h s v hv k (by omega)) _ _ (by show s + k < m.n; omega) hv

theorem putM_wf {m : Mo} (h : WF m) (i : Nat) (v : Int) : WF (putM m i v) := by
  refine ⟨h.n1, h.n2, fun k => ?_, fun j hj => ?_, Nat.le_max_right _ _, ?_⟩
  · have e : (putM m i v).st k = upS m.st (i / 32) 2 k := rfl
    rw [e]
    unfold upS
    split
    · exact .inr (.inr rfl)
    · exact h.s k
  · have hj' : upS m.st (i / 32) 2 (j / 32) ≠ 2 := hj
    show upS m.hd i v j = 0
    unfold upS at hj' ⊢
    by_cases e : j / 32 = i / 32
    · rw [if_pos e] at hj'; exact absurd rfl hj'
    · rw [if_neg e] at hj'
      rw [if_neg (fun h => e (by rw [h]))]
      exact h.z j hj'
  · show max m.pk _ ≤ m.n
    have := h.p
    have := dirS_le (upS m.st (i / 32) 2) m.n
    omega
theorem putN_wf {m : Mo} (h : WF m) (i : Nat) (f : Nat → Int) : ∀ k, WF (putN m i f k)
  | 0 => h
  | k + 1 => putM_wf (putN_wf h i f k) _ _
theorem putN_n (m : Mo) (i : Nat) (f : Nat → Int) : ∀ k, (putN m i f k).n = m.n
  | 0 => rfl
  | k + 1 => putN_n m i f k
/-- What is mapped stays so. -/
theorem putN_st {m : Mo} (i : Nat) (f : Nat → Int) (p : Nat) (hp : m.st p ≠ 0) : ∀ k, (putN m i f k).st p ≠ 0
  | 0 => hp
  | k + 1 => by
    show upS _ _ _ _ ≠ 0
    unfold upS
    split
    · omega
    · exact putN_st i f p hp k

theorem inM_bd {m : Mo} {s k : Int} (h : inM m s k = true) : ∃ a b : Nat, s = a ∧ k = b ∧ 1 ≤ b ∧ a + b ≤ m.n := by
  have := of_decide_eq_true h
  exact ⟨s.toNat, k.toNat, by omega, by omega, by omega, by omega⟩

theorem mapD_wf {m : Mo} (h : WF m) (s k : Int) : WF (mapD m s k) := by
  unfold mapD
  split
  · rename_i h1
    have hin : inM m s k = true := by
      unfold mapE at h1
      by_cases hin : inM m s k = true
      · exact hin
      · rw [if_neg hin] at h1; omega
    obtain ⟨a, b, rfl, rfl, _, hb⟩ := inM_bd hin
    exact setM_wf h _ _ (.inr rfl) _ (by simpa using hb)
  · exact h
theorem loseD_wf {m : Mo} (h : WF m) (s k v : Int) (hv : v = 0 ∨ v = 1) : WF (loseD m s k v) := by
  unfold loseD
  split
  · rename_i h1
    have hin : inM m s k = true := by
      unfold loseE at h1
      by_cases hin : inM m s k = true
      · exact hin
      · rw [if_neg hin] at h1; omega
    obtain ⟨a, b, rfl, rfl, _, hb⟩ := inM_bd hin
    exact setM_wf h _ _ hv _ (by simpa using hb)
  · exact h
theorem fillD_wf {m : Mo} (h : WF m) (a k v : Int) : WF (fillD m a k v) := by
  unfold fillD; split
  · exact putN_wf h _ _ _
  · exact h
theorem copyD_wf {m : Mo} (h : WF m) (a b k : Int) : WF (copyD m a b k) := by
  unfold copyD; split
  · exact putN_wf h _ _ _
  · exact h
theorem doM_wf {m : Mo} (h : WF m) (x : Ac) : WF (doM m x) := by
  unfold doM
  repeat' split
  all_goals first | exact mapD_wf h _ _ | exact loseD_wf h _ _ _ (.inl rfl) | exact loseD_wf h _ _ _ (.inr rfl) | exact fillD_wf h _ _ _ | exact copyD_wf h _ _ _ | exact h

/-- Words that can be accessed: those of mapped pages. -/
theorem acc_pages (st : Nat → Int) (i k : Nat) (hk : 1 ≤ k) : (∀ j : Nat, j < k → st ((i + j) / 32) ≠ 0) ↔ (∀ j : Nat, j < (i + k - 1) / 32 + 1 - i / 32 → st (i / 32 + j) ≠ 0) := by
  constructor
  · intro h j hj
    rcases Nat.eq_zero_or_pos j with h0 | h0
    · have := h 0 (by omega)
      rw [h0]; exact this
    · have := h (32 * (i / 32 + j) - i) (by omega)
      rwa [show (i + (32 * (i / 32 + j) - i)) / 32 = i / 32 + j from by omega] at this
  · intro h j hj
    have := h ((i + j) / 32 - i / 32) (by omega)
    rwa [show i / 32 + ((i + j) / 32 - i / 32) = (i + j) / 32 from by omega] at this

end Go.Proofs.Ytejjendklemebaa
