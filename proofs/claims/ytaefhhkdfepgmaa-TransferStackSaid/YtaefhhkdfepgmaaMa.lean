/- A transfer cache as numbers and lists, and what the document's calls return and leave, as functions. -/
import Derived.Test.YtaefhhkdfepgmaaRows
namespace Go.Proofs.Ytaefhhkdfepgmaa

/-- A cache: its batch size, its room, its low, its batches. -/
structure Tc where
  b : Nat
  r : Nat
  lo : Nat
  L : List (List Int)
structure TWf (c : Tc) : Prop where
  b1 : 1 ≤ c.b
  b2 : c.b ≤ 32
  r2 : c.r ≤ 8
  len : c.L.length ≤ c.r
  low : c.lo ≤ c.L.length
  sz : ∀ x ∈ c.L, x.length = c.b
def okN (b r : Int) : Bool := decide (1 ≤ b ∧ b ≤ 32 ∧ 0 ≤ r ∧ r ≤ 8)
def newT (b r : Int) : Option Tc := if okN b r = true then some ⟨b.toNat, r.toNat, 0, []⟩ else none
def newE (b r : Int) : Int := if okN b r = true then 0 else 1
theorem newT_wf {b r : Int} (h : okN b r = true) : TWf ⟨b.toNat, r.toNat, 0, []⟩ := by
  unfold okN at h
  rw [decide_eq_true_eq] at h
  exact ⟨by show 1 ≤ b.toNat; omega, by show b.toNat ≤ 32; omega, by show r.toNat ≤ 8; omega, Nat.zero_le _, Nat.le_refl _, fun x hx => by cases hx⟩
/-- Insert. -/
def insV : Option Tc → List Int → Bool
  | none, _ => false
  | some c, z => decide (z.length = c.b ∧ c.L.length < c.r)
def insE : Option Tc → List Int → Int
  | none, _ => 5
  | some c, z => if z.length = c.b then 0 else 1
def insD : Option Tc → List Int → Option Tc
  | none, _ => none
  | some c, z => if z.length = c.b ∧ c.L.length < c.r then some { c with L := c.L ++ [z] } else some c
/-- Remove. -/
def rmV : Option Tc → List Int
  | none => []
  | some c => c.L[c.L.length - 1]?.getD []
def rmE : Option Tc → Int
  | none => 5
  | some c => if c.L = [] then 4 else 0
def rmD : Option Tc → Option Tc
  | none => none
  | some c => some { c with L := c.L.dropLast, lo := min c.lo (c.L.length - 1) }
/-- The oldest ones are removed: so many. -/
def outV (n : Nat) : Option Tc → List (List Int)
  | none => []
  | some c => c.L.take n
def outD (n : Nat) : Option Tc → Option Tc
  | none => none
  | some c => some { c with L := c.L.drop n, lo := (c.L.drop n).length }
def half : Option Tc → Nat
  | none => 0
  | some c => (c.lo + 1) / 2
def lenT : Option Tc → Nat
  | none => 0
  | some c => c.L.length
def lowT : Option Tc → Nat
  | none => 0
  | some c => c.lo
def objT : Option Tc → List Int
  | none => []
  | some c => c.L.flatten
theorem TWf.ins {c : Tc} (h : TWf c) {z : List Int} (hz : z.length = c.b ∧ c.L.length < c.r) : TWf { c with L := c.L ++ [z] } :=
  ⟨h.b1, h.b2, h.r2, by show (c.L ++ [z]).length ≤ c.r; rw [List.length_append]; simp; omega, by show c.lo ≤ (c.L ++ [z]).length; rw [List.length_append]; have := h.low; omega, fun x hx => by
    rcases List.mem_append.1 hx with h1 | h1
    · exact h.sz x h1
    · rw [List.mem_singleton.1 h1]; exact hz.1⟩
theorem TWf.rm {c : Tc} (h : TWf c) : TWf { c with L := c.L.dropLast, lo := min c.lo (c.L.length - 1) } :=
  ⟨h.b1, h.b2, h.r2, by show c.L.dropLast.length ≤ c.r; rw [List.length_dropLast]; have := h.len; omega, by show min c.lo (c.L.length - 1) ≤ c.L.dropLast.length; rw [List.length_dropLast]; omega, fun x hx => h.sz x ((List.dropLast_sublist c.L).subset hx)⟩
theorem TWf.out {c : Tc} (h : TWf c) (n : Nat) : TWf { c with L := c.L.drop n, lo := (c.L.drop n).length } :=
  ⟨h.b1, h.b2, h.r2, by show (c.L.drop n).length ≤ c.r; rw [List.length_drop]; have := h.len; omega, Nat.le_refl _, fun x hx => h.sz x (List.mem_of_mem_drop hx)⟩
theorem half_le {c : Tc} (h : TWf c) : (c.lo + 1) / 2 ≤ c.L.length := by have := h.low; omega
theorem flat_len : ∀ (L : List (List Int)) (b : Nat), (∀ x ∈ L, x.length = b) → L.flatten.length = L.length * b
  | [], _, _ => by simp
  | x :: t, b, h => by
    rw [List.flatten_cons, List.length_append, flat_len t b (fun y hy => h y (List.mem_cons_of_mem _ hy)), h x List.mem_cons_self, List.length_cons, Nat.add_mul]
    omega
theorem last_at {c : Tc} (h : c.L ≠ []) : c.L[c.L.length - 1]? = some (rmV (some c)) := by
  have hl : 0 < c.L.length := List.length_pos_iff.2 h
  show _ = some (c.L[c.L.length - 1]?.getD [])
  rw [List.getElem?_eq_getElem (by omega)]
  rfl
/-- A call of the statements: its kind, its objects. -/
structure Ak where
  k : Int
  l : List Int
def dkD (om : Option Tc) (x : Ak) : Option Tc := if x.k = 0 then insD om x.l else if x.k = 1 then rmD om else if x.k = 2 then outD (half om) om else if x.k = 3 then outD (lenT om) om else om
theorem rmD_nil {c : Tc} (hwf : TWf c) (h : c.L = []) : rmD (some c) = some c := by
  have hl := hwf.low
  rw [h] at hl
  obtain ⟨b, r, lo, L⟩ := c
  subst h
  obtain rfl : lo = 0 := by simpa using hl
  rfl
end Go.Proofs.Ytaefhhkdfepgmaa
