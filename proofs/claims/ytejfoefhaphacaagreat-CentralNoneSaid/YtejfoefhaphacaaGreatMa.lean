/- The objects of a span, and what the document's calls return and leave, as functions. -/
import Derived.Test.YtejfoefhaphacaaGreatRows
namespace Go.Proofs.YtejfoefhaphacaaGreat

/-- The indices from k on and below n for which c says yes. -/
def hl (c : Nat → Bool) (k n : Nat) : List Nat := (List.range' k (n - k)).filter c
theorem hl_hit {c : Nat → Bool} {k n : Nat} (h : k < n) (hc : c k = true) : hl c k n = k :: hl c (k + 1) n := by
  unfold hl
  rw [show n - k = (n - (k + 1)) + 1 from by omega, List.range'_succ, List.filter_cons_of_pos hc]
theorem hl_miss {c : Nat → Bool} {k n : Nat} (h : k < n) (hc : c k = false) : hl c k n = hl c (k + 1) n := by
  unfold hl
  rw [show n - k = (n - (k + 1)) + 1 from by omega, List.range'_succ, List.filter_cons_of_neg (by rw [hc]; decide)]
theorem hl_end {c : Nat → Bool} {k n : Nat} (h : n ≤ k) : hl c k n = [] := by
  unfold hl
  rw [show n - k = 0 from by omega]; rfl
theorem hl_mem {c : Nat → Bool} {k n x : Nat} : x ∈ hl c k n ↔ (k ≤ x ∧ x < n) ∧ c x = true := by
  unfold hl
  rw [List.mem_filter, List.mem_range'_1]
  constructor
  · rintro ⟨h1, h2⟩; exact ⟨by omega, h2⟩
  · rintro ⟨h1, h2⟩; exact ⟨by omega, h2⟩
theorem hl_len (c : Nat → Bool) (k n : Nat) : (hl c k n).length ≤ n - k := by
  unfold hl
  exact Nat.le_trans (List.length_filter_le _ _) (by rw [List.length_range']; exact Nat.le_refl _)
theorem hl_congr {c d : Nat → Bool} {k n : Nat} (h : ∀ p, k ≤ p → p < n → c p = d p) : hl c k n = hl d k n := by
  unfold hl
  refine List.filter_congr fun x hx => ?_
  rw [List.mem_range'_1] at hx
  exact h x (by omega) (by omega)
theorem hl_split {c : Nat → Bool} {k m n : Nat} (h1 : k ≤ m) (h2 : m ≤ n) : hl c k n = hl c k m ++ hl c m n := by
  unfold hl
  rw [← List.filter_append, show n - k = (m - k) + (n - m) from by omega, ← List.range'_append_1, show k + (m - k) = m from by omega]

/-- A span: its first page; its class: size, pages, batch; its objects, and which are taken. -/
structure Mo where
  s : Nat
  z : Nat
  g : Nat
  t : Nat
  n : Nat
  f : Nat → Bool
structure WF (m : Mo) : Prop where
  s1 : m.s + m.g ≤ 1024
  z1 : 8 ≤ m.z
  z2 : m.z ≤ 512
  g1 : 1 ≤ m.g
  g2 : m.g ≤ 4
  t1 : 1 ≤ m.t
  t2 : m.t ≤ 32
  nn : m.n = m.g * 256 / m.z
  n1 : 1 ≤ m.n
  n2 : m.n ≤ 128
  nz : m.n * m.z ≤ m.g * 256
def upd (f : Nat → Bool) (i : Nat) (v : Bool) : Nat → Bool := fun j => if j = i then v else f j
def Mo.set (m : Mo) (i : Nat) (v : Bool) : Mo := { m with f := upd m.f i v }
theorem WF.set {m : Mo} (h : WF m) (i : Nat) (v : Bool) : WF (m.set i v) := ⟨h.s1, h.z1, h.z2, h.g1, h.g2, h.t1, h.t2, h.nn, h.n1, h.n2, h.nz⟩

def adr (m : Mo) (i : Nat) : Nat := m.s * 256 + i * m.z
theorem adr_lt {m : Mo} {i j : Nat} (h : i < j) : adr m i + m.z ≤ adr m j := by
  unfold adr
  have := Nat.mul_le_mul_right m.z (show i + 1 ≤ j from h)
  rw [Nat.add_mul, Nat.one_mul] at this
  omega
theorem adr_bd {m : Mo} (h : WF m) {i : Nat} (hi : i ≤ m.n) : adr m i ≤ 262144 ∧ i * m.z ≤ m.g * 256 := by
  have := Nat.mul_le_mul_right m.z hi
  have h1 := h.nz
  have h2 := h.s1
  unfold adr
  omega

/-- The number of the object that has a byte; that has an address. -/
def idO (m : Mo) (a : Int) : Option Nat := if (m.s * 256 : Nat) ≤ a ∧ (a - (m.s * 256 : Nat)) / m.z < m.n then some ((a - (m.s * 256 : Nat)) / m.z).toNat else none
def obO (m : Mo) (a : Int) : Option Nat := match idO m a with
  | some k => if a = adr m k then some k else none
  | none => none
theorem idO_some {m : Mo} (h : WF m) {a : Int} {k : Nat} (hk : k < m.n) (h1 : (adr m k : Int) ≤ a) (h2 : a < (adr m k : Int) + m.z) : idO m a = some k := by
  have hz := h.z1
  unfold adr at h1 h2
  unfold idO
  obtain ⟨S, hS⟩ : ∃ S, m.s * 256 = S := ⟨_, rfl⟩
  obtain ⟨q, hq⟩ : ∃ q, k * m.z = q := ⟨_, rfl⟩
  have hq' : (k : Int) * m.z = q := by rw [← hq, Int.natCast_mul]
  rw [hS, hq] at h1 h2
  rw [hS]
  have e : (a - S) / m.z = (k : Int) := by
    refine Int.le_antisymm (Int.le_of_lt_add_one ?_) ?_
    · refine Int.ediv_lt_of_lt_mul (by omega) ?_
      rw [Int.add_mul, Int.one_mul, hq']
      omega
    · refine Int.le_ediv_of_mul_le (by omega) ?_
      rw [hq']
      omega
  rw [if_pos ⟨by omega, by rw [e]; omega⟩, e]
  rfl
theorem idO_get {m : Mo} (h : WF m) {a : Int} {k : Nat} (e : idO m a = some k) : k < m.n ∧ (adr m k : Int) ≤ a ∧ a < (adr m k : Int) + m.z := by
  have hz := h.z1
  unfold idO at e
  unfold adr
  obtain ⟨S, hS⟩ : ∃ S, m.s * 256 = S := ⟨_, rfl⟩
  obtain ⟨q, hq⟩ : ∃ q, k * m.z = q := ⟨_, rfl⟩
  have hq' : (k : Int) * m.z = q := by rw [← hq, Int.natCast_mul]
  rw [hS] at e
  rw [hS, hq]
  split at e
  · rename_i hh
    obtain ⟨h1, h2⟩ := hh
    have e := Option.some.inj e
    have h0 : 0 ≤ (a - S) / m.z := Int.ediv_nonneg (by omega) (by omega)
    have hk : (a - S) / m.z = (k : Int) := by omega
    rw [hk] at h2
    have h3 := Int.ediv_mul_le (a - S) (show (m.z : Int) ≠ 0 by omega)
    have h4 := Int.lt_ediv_add_one_mul_self (a - S) (show (0 : Int) < m.z by omega)
    rw [hk, hq'] at h3
    rw [hk, Int.add_mul, Int.one_mul, hq'] at h4
    omega
  · cases e
theorem idO_none {m : Mo} (h : WF m) {a : Int} (hn : ∀ k, k < m.n → ¬ ((adr m k : Int) ≤ a ∧ a < (adr m k : Int) + m.z)) : idO m a = none := by
  cases e : idO m a with
  | none => rfl
  | some k => exact absurd (idO_get h e).2 (hn k (idO_get h e).1)
theorem obO_some {m : Mo} (h : WF m) {a : Int} {k : Nat} (hk : k < m.n) (h1 : a = adr m k) : obO m a = some k := by
  have := h.z1
  unfold obO
  rw [idO_some h hk (by omega) (by omega)]
  exact if_pos h1
theorem obO_get {m : Mo} (h : WF m) {a : Int} {k : Nat} (e : obO m a = some k) : k < m.n ∧ a = adr m k := by
  unfold obO at e
  split at e
  · rename_i j hj
    split at e
    · cases e; exact ⟨(idO_get h hj).1, by assumption⟩
    · cases e
  · cases e
theorem obO_none {m : Mo} (h : WF m) {a : Int} (hn : ∀ k, k < m.n → a ≠ adr m k) : obO m a = none := by
  cases e : obO m a with
  | none => rfl
  | some k => exact absurd (obO_get h e).2 (hn k (obO_get h e).1)

/-- The lowest free object. -/
def ff (m : Mo) : Option Nat := (List.range m.n).find? (fun k => !m.f k)
theorem ff_some {m : Mo} {k : Nat} (hk : k < m.n) (h1 : m.f k = false) (h2 : ∀ j, j < k → m.f j = true) : ff m = some k := by
  unfold ff
  rw [List.find?_range_eq_some]
  exact ⟨by simpa using h1, by simpa using hk, fun j hj => by simpa using h2 j hj⟩
theorem ff_none {m : Mo} (h : ∀ j, j < m.n → m.f j = true) : ff m = none := by
  unfold ff
  rw [List.find?_range_eq_none]
  intro j hj
  simpa using h j hj
theorem ff_get {m : Mo} {k : Nat} (e : ff m = some k) : k < m.n ∧ m.f k = false ∧ ∀ j, j < k → m.f j = true := by
  unfold ff at e
  rw [List.find?_range_eq_some] at e
  exact ⟨by simpa using e.2.1, by simpa using e.1, fun j hj => by simpa using e.2.2 j hj⟩
theorem ff_full {m : Mo} (e : ff m = none) : ∀ j, j < m.n → m.f j = true := by
  unfold ff at e
  rw [List.find?_range_eq_none] at e
  intro j hj
  simpa using e j hj

/-- The numbers of the taken objects. -/
def tkn (m : Mo) : List Nat := hl m.f 0 m.n

/-! What the calls return and leave; 'none' is a span that nobody made. -/
def tkV : Option Mo → Int
  | none => 0
  | some m => match ff m with
    | some k => adr m k
    | none => 0
def tkE : Option Mo → Int
  | none => 5
  | some m => match ff m with
    | some _ => 0
    | none => 6
def tkD : Option Mo → Option Mo
  | none => none
  | some m => match ff m with
    | some k => some (m.set k true)
    | none => some m
def ptE : Option Mo → Int → Int
  | none, _ => 5
  | some m, a => match obO m a with
    | some k => if m.f k = true then 0 else 9
    | none => 8
def ptD : Option Mo → Int → Option Mo
  | none, _ => none
  | some m, a => match obO m a with
    | some k => if m.f k = true then some (m.set k false) else some m
    | none => some m
def ixV : Option Mo → Int → Int
  | none, _ => 0
  | some m, a => match idO m a with
    | some k => k
    | none => 0
def ixE : Option Mo → Int → Int
  | none, _ => 5
  | some m, a => match idO m a with
    | some _ => 0
    | none => 8
def isV : Option Mo → Int → Bool
  | none, _ => false
  | some m, a => match obO m a with
    | some k => m.f k
    | none => false
def isE : Option Mo → Int → Int
  | none, _ => 5
  | some m, a => match obO m a with
    | some _ => 0
    | none => 8
def numO : Option Mo → Nat
  | none => 0
  | some m => m.n
def lst : Option Mo → List Nat
  | none => []
  | some m => (tkn m).map (adr m)
def bit (b : Bool) : UInt8 := if b then 49 else 48
def bts : Option Mo → List UInt8
  | none => []
  | some m => (List.range m.n).map (fun k => bit (m.f k))

/-- A class; whether it is valid. -/
structure Cs where
  s : Int
  p : Int
  b : Int
def okC (c : Cs) : Bool := decide (8 ≤ c.s ∧ c.s ≤ 512 ∧ c.s % 8 = 0 ∧ 1 ≤ c.p ∧ c.p ≤ 4 ∧ c.s ≤ c.p * 256 ∧ 1 ≤ c.b ∧ c.b ≤ 32)
def fitB (st : Int) (c : Cs) : Bool := okC c && decide (0 ≤ st ∧ st ≤ 1024 - c.p)
def newM (st : Int) (c : Cs) : Mo := ⟨st.toNat, c.s.toNat, c.p.toNat, c.b.toNat, c.p.toNat * 256 / c.s.toNat, fun _ => false⟩
def newO (st : Int) (c : Cs) : Option Mo := if fitB st c = true then some (newM st c) else none
def newE (st : Int) (c : Cs) : Int := if fitB st c = true then 0 else 1
theorem okC_bd {c : Cs} (h : okC c = true) : 8 ≤ c.s ∧ c.s ≤ 512 ∧ c.s % 8 = 0 ∧ 1 ≤ c.p ∧ c.p ≤ 4 ∧ c.s ≤ c.p * 256 ∧ 1 ≤ c.b ∧ c.b ≤ 32 := of_decide_eq_true h
theorem objs_bd {p s : Nat} (h1 : 8 ≤ s) (h2 : s ≤ p * 256) (h3 : p ≤ 4) : 1 ≤ p * 256 / s ∧ p * 256 / s ≤ 128 ∧ p * 256 / s * s ≤ p * 256 :=
  ⟨(Nat.le_div_iff_mul_le (by omega)).2 (by omega), Nat.le_trans (Nat.div_le_div_left h1 (by omega)) (by omega), Nat.div_mul_le_self _ _⟩
theorem newM_wf {st : Int} {c : Cs} (h : fitB st c = true) : WF (newM st c) := by
  unfold fitB at h
  rw [Bool.and_eq_true, decide_eq_true_eq] at h
  obtain ⟨h1, h2, h3⟩ := h
  obtain ⟨a1, a2, a3, a4, a5, a6, a7, a8⟩ := okC_bd h1
  obtain ⟨b1, b2, b3⟩ := objs_bd (p := c.p.toNat) (s := c.s.toNat) (by omega) (by omega) (by omega)
  exact ⟨by show st.toNat + c.p.toNat ≤ 1024; omega, by show 8 ≤ c.s.toNat; omega, by show c.s.toNat ≤ 512; omega, by show 1 ≤ c.p.toNat; omega, by show c.p.toNat ≤ 4; omega, by show 1 ≤ c.b.toNat; omega, by show c.b.toNat ≤ 32; omega, rfl, b1, b2, b3⟩

/-- A call of the statements. -/
structure Ac where
  k : Int
  a : Int
def doE (om : Option Mo) (x : Ac) : Int := if x.k = 0 then tkE om else if x.k = 1 then ptE om x.a else if x.k = 2 then ixE om x.a else if x.k = 3 then isE om x.a else 0
def doD (om : Option Mo) (x : Ac) : Option Mo := if x.k = 0 then tkD om else if x.k = 1 then ptD om x.a else om

end Go.Proofs.YtejfoefhaphacaaGreat
