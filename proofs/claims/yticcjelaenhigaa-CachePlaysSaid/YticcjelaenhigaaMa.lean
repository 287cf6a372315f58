/- A thread's cache as numbers and lists, and what the document's calls return and leave, as functions. -/
import Derived.Test.YticcjelaenhigaaRows
namespace Go.Proofs.Yticcjelaenhigaa

/-- The list of a class: its size, its batch, its limit, its low, its objects. -/
structure Kl where
  s : Nat
  b : Nat
  lim : Nat
  lo : Nat
  l : List Int
structure KWf (k : Kl) : Prop where
  s8 : 8 ≤ k.s
  s512 : k.s ≤ 512
  b1 : 1 ≤ k.b
  b32 : k.b ≤ 32
  m1 : 1 ≤ k.lim
  m128 : k.lim ≤ 128
  low : k.lo ≤ k.l.length
  len : k.l.length ≤ 256
/-- A cache: its budget, its lists. -/
structure Tc where
  g : Nat
  K : List Kl
structure TWf (c : Tc) : Prop where
  g : c.g ≤ 65536
  n1 : 1 ≤ c.K.length
  n40 : c.K.length ≤ 40
  k : ∀ x ∈ c.K, KWf x
def missK (k : Kl) : Kl := { k with lim := if k.lim < k.b then k.lim + 1 else min (k.lim + k.b) 128 }
def addK (k : Kl) (z : List Int) : Kl := { k with l := k.l ++ z.reverse }
def popK (k : Kl) : Kl := { k with l := k.l.dropLast, lo := min k.lo (k.l.length - 1) }
def outK (k : Kl) (n : Nat) : Kl := { k with l := k.l.drop n, lo := min k.lo (k.l.length - n) }
def upK (k : Kl) : Kl := { k with lim := if k.lim < k.b then k.lim + 1 else k.lim }
def overN (k : Kl) : Nat := min k.b k.l.length
def overK (k : Kl) : Kl := outK (upK k) (overN k)
def scavN (k : Kl) : Nat := (k.lo + 1) / 2
def scavL (k : Kl) : Nat := if k.b < k.lim then max (k.lim - k.b) k.b else k.lim
def scavK (k : Kl) : Kl := { k with l := k.l.drop (scavN k), lo := k.l.length - scavN k, lim := scavL k }
def drainK (k : Kl) : Kl := outK k k.l.length
theorem missK_wf {k : Kl} (h : KWf k) : KWf (missK k) := by
  have h1 : 1 ≤ (missK k).lim ∧ (missK k).lim ≤ 128 := by
    have := h.b1; have := h.b32
    unfold missK; dsimp only
    split <;> omega
  exact ⟨h.s8, h.s512, h.b1, h.b32, h1.1, h1.2, h.low, h.len⟩
theorem upK_wf {k : Kl} (h : KWf k) : KWf (upK k) := by
  have h1 : 1 ≤ (upK k).lim ∧ (upK k).lim ≤ 128 := by
    have := h.b32; have := h.m1; have := h.m128
    unfold upK; dsimp only
    split <;> omega
  exact ⟨h.s8, h.s512, h.b1, h.b32, h1.1, h1.2, h.low, h.len⟩
theorem addK_wf {k : Kl} (h : KWf k) {z : List Int} (hz : k.l.length + z.length ≤ 256) : KWf (addK k z) := ⟨h.s8, h.s512, h.b1, h.b32, h.m1, h.m128, by show k.lo ≤ (k.l ++ z.reverse).length; have := h.low; simp; omega, by show (k.l ++ z.reverse).length ≤ 256; simp; omega⟩
theorem popK_wf {k : Kl} (h : KWf k) : KWf (popK k) := ⟨h.s8, h.s512, h.b1, h.b32, h.m1, h.m128, by show min k.lo (k.l.length - 1) ≤ k.l.dropLast.length; rw [List.length_dropLast]; omega, by show k.l.dropLast.length ≤ 256; rw [List.length_dropLast]; have := h.len; omega⟩
theorem outK_wf {k : Kl} (h : KWf k) (n : Nat) : KWf (outK k n) := ⟨h.s8, h.s512, h.b1, h.b32, h.m1, h.m128, by show min k.lo (k.l.length - n) ≤ (k.l.drop n).length; rw [List.length_drop]; omega, by show (k.l.drop n).length ≤ 256; rw [List.length_drop]; have := h.len; omega⟩
theorem overK_wf {k : Kl} (h : KWf k) : KWf (overK k) := outK_wf (upK_wf h) _
theorem scavL_bd {k : Kl} (h : KWf k) : 1 ≤ scavL k ∧ scavL k ≤ 128 := by have := h.b1; have := h.b32; have := h.m1; have := h.m128; unfold scavL; split <;> omega
theorem scavK_wf {k : Kl} (h : KWf k) : KWf (scavK k) := ⟨h.s8, h.s512, h.b1, h.b32, (scavL_bd h).1, (scavL_bd h).2, by show k.l.length - scavN k ≤ (k.l.drop (scavN k)).length; rw [List.length_drop]; omega, by show (k.l.drop (scavN k)).length ≤ 256; rw [List.length_drop]; have := h.len; omega⟩
theorem scavN_le {k : Kl} (h : KWf k) : scavN k ≤ k.l.length := by have := h.low; unfold scavN; omega

/-- The list of a class, if there is one. -/
def atK : Option Tc → Int → Option Kl
  | none, _ => none
  | some c, x => if 0 ≤ x then c.K[x.toNat]? else none
def setK : Option Tc → Int → Kl → Option Tc
  | none, _, _ => none
  | some c, x, k => some { c with K := c.K.set x.toNat k }
def mapK (f : Kl → Kl) : Option Tc → Option Tc
  | none => none
  | some c => some { c with K := c.K.map f }
/-- Why nothing can be done with a class. -/
def errK (om : Option Tc) (x : Int) : Int := match om with
  | none => 5
  | some _ => if (atK om x).isSome = true then 0 else 1
theorem TWf.at {c : Tc} (h : TWf c) {x : Int} {k : Kl} (hk : atK (some c) x = some k) : 0 ≤ x ∧ x.toNat < c.K.length ∧ c.K[x.toNat]? = some k ∧ KWf k := by
  unfold atK at hk
  dsimp only at hk
  split at hk
  · exact ⟨by assumption, (List.getElem?_eq_some_iff.1 hk).1, hk, h.k k (List.mem_of_getElem? hk)⟩
  · cases hk
theorem TWf.set {c : Tc} (h : TWf c) {n : Nat} {k : Kl} (hk : KWf k) : TWf { c with K := c.K.set n k } :=
  ⟨h.g, by show 1 ≤ (c.K.set n k).length; rw [List.length_set]; exact h.n1, by show (c.K.set n k).length ≤ 40; rw [List.length_set]; exact h.n40, fun x hx => by
    rcases List.mem_or_eq_of_mem_set hx with h1 | h1
    · exact h.k x h1
    · rw [h1]; exact hk⟩
theorem TWf.map {c : Tc} (h : TWf c) {f : Kl → Kl} (hf : ∀ k, KWf k → KWf (f k)) : TWf { c with K := c.K.map f } :=
  ⟨h.g, by show 1 ≤ (c.K.map f).length; rw [List.length_map]; exact h.n1, by show (c.K.map f).length ≤ 40; rw [List.length_map]; exact h.n40, fun x hx => by
    obtain ⟨y, hy, rfl⟩ := List.mem_map.1 hx
    exact hf y (h.k y hy)⟩

def lastK (k : Kl) : Int := (k.l[k.l.length - 1]?).getD 0
/-- Take. -/
def tkV (om : Option Tc) (x : Int) : Int := match atK om x with
  | none => 0
  | some k => if k.l = [] then 0 else lastK k
def tkE (om : Option Tc) (x : Int) : Int := match atK om x with
  | none => errK om x
  | some k => if k.l = [] then 4 else 0
def tkD (om : Option Tc) (x : Int) : Option Tc := match atK om x with
  | none => om
  | some k => setK om x (if k.l = [] then missK k else popK k)
/-- Want. -/
def wtV (om : Option Tc) (x : Int) : Int := match atK om x with
  | none => 0
  | some k => (min k.lim k.b : Nat)
/-- Fill. -/
def flE (om : Option Tc) (x : Int) (z : List Int) : Int := match atK om x with
  | none => errK om x
  | some k => if 256 < k.l.length + z.length then 6 else 0
def flD (om : Option Tc) (x : Int) (z : List Int) : Option Tc := match atK om x with
  | none => om
  | some k => if 256 < k.l.length + z.length then om else setK om x (addK k z)
/-- Put. -/
def ptK (k : Kl) (a : Int) : Kl := if k.l.length + 1 ≤ k.lim then addK k [a] else overK (addK k [a])
def ptL (k : Kl) (a : Int) : List Int := if k.l.length + 1 ≤ k.lim then [] else (k.l ++ [a]).take (overN (addK k [a]))
def ptV (om : Option Tc) (x a : Int) : List Int := match atK om x with
  | none => []
  | some k => if 256 < k.l.length + 1 then [] else ptL k a
def ptE (om : Option Tc) (x : Int) : Int := match atK om x with
  | none => errK om x
  | some k => if 256 < k.l.length + 1 then 6 else 0
def ptD (om : Option Tc) (x a : Int) : Option Tc := match atK om x with
  | none => om
  | some k => if 256 < k.l.length + 1 then om else setK om x (ptK k a)
theorem ptK_wf {k : Kl} (h : KWf k) (a : Int) (hl : k.l.length + 1 ≤ 256) : KWf (ptK k a) := by
  have := addK_wf h (z := [a]) (by simpa using hl)
  unfold ptK
  split
  · exact this
  · exact overK_wf this
/-- What is removed of all lists: a batch for each class that has some. -/
def batQ (h : Nat → List Int) (Q : List Nat) : List (Nat × List Int) := Q.filterMap fun i => if h i = [] then none else some (i, h i)
def hK (f : Kl → List Int) (K : List Kl) (i : Nat) : List Int := (K[i]?.map f).getD []
def batV (f : Kl → List Int) : Option Tc → List (Nat × List Int)
  | none => []
  | some c => batQ (hK f c.K) (List.range c.K.length)
def scavV (k : Kl) : List Int := k.l.take (scavN k)
def drainV (k : Kl) : List Int := k.l.take k.l.length
theorem batQ_snoc (h : Nat → List Int) (Q : List Nat) (i : Nat) : batQ h (Q ++ [i]) = batQ h Q ++ if h i = [] then [] else [(i, h i)] := by
  unfold batQ
  rw [List.filterMap_append]
  congr 1
  by_cases e : h i = []
  · simp [e]
  · simp [e]
theorem batQ_mem {h : Nat → List Int} {Q : List Nat} {x : Nat × List Int} (hx : x ∈ batQ h Q) : x.1 ∈ Q ∧ x.2 = h x.1 ∧ x.2 ≠ [] := by
  unfold batQ at hx
  obtain ⟨i, hi, e⟩ := List.mem_filterMap.1 hx
  split at e
  · cases e
  · rename_i hne
    injection e with e
    subst e
    exact ⟨hi, rfl, hne⟩
theorem batQ_len (h : Nat → List Int) (Q : List Nat) : (batQ h Q).length ≤ Q.length := List.length_filterMap_le _ _
theorem batQ_perm (h : Nat → List Int) {Q Q' : List Nat} (hp : Q.Perm Q') : (batQ h Q).Perm (batQ h Q') := hp.filterMap _
theorem batQ_sorted (h : Nat → List Int) (n : Nat) : (batQ h (List.range n)).Pairwise (fun x y => x.1 < y.1) := by
  induction n with
  | zero => exact List.Pairwise.nil
  | succ n ih =>
    rw [List.range_succ, batQ_snoc]
    refine List.pairwise_append.2 ⟨ih, ?_, fun x hx y hy => ?_⟩
    · split
      · exact List.Pairwise.nil
      · exact List.pairwise_singleton _ _
    · split at hy
      · cases hy
      · rw [List.mem_singleton.1 hy]
        have := (batQ_mem hx).1
        simpa using this
/-- What is in order, and is the same up to its order, is the same. -/
theorem sorted_uniq : ∀ {X Y : List (Nat × List Int)}, X.Perm Y → X.Pairwise (fun x y => x.1 < y.1) → Y.Pairwise (fun x y => x.1 < y.1) → X = Y
  | [], Y, hp, _, _ => (List.nil_perm.1 hp).symm
  | x :: X, [], hp, _, _ => absurd hp.length_eq (by simp)
  | x :: X, y :: Y, hp, hx, hy => by
    have h1 := List.pairwise_cons.1 hx
    have h2 := List.pairwise_cons.1 hy
    have e : x = y := by
      rcases List.mem_cons.1 (hp.mem_iff.1 (List.mem_cons_self (a := x))) with e | hm
      · exact e
      · rcases List.mem_cons.1 (hp.mem_iff.2 (List.mem_cons_self (a := y))) with e | hn
        · exact e.symm
        · have := h1.1 y hn
          have := h2.1 x hm
          omega
    subst e
    rw [sorted_uniq (List.Perm.cons_inv hp) h1.2 h2.2]
/-- The bytes. -/
def byK (k : Kl) : Nat := k.l.length * k.s
def byT : Option Tc → Nat
  | none => 0
  | some c => (c.K.map byK).sum
def ovT : Option Tc → Bool
  | none => false
  | some c => decide (c.g < byT (some c))
def lenT (om : Option Tc) (x : Int) : Nat := match atK om x with
  | none => 0
  | some k => k.l.length
def limT (om : Option Tc) (x : Int) : Nat := match atK om x with
  | none => 0
  | some k => k.lim
def lowT (om : Option Tc) (x : Int) : Nat := match atK om x with
  | none => 0
  | some k => k.lo
def objT (om : Option Tc) (x : Int) : List Int := match atK om x with
  | none => []
  | some k => k.l
theorem byK_le {k : Kl} (h : KWf k) : byK k ≤ 131072 := by
  have := Nat.mul_le_mul h.len h.s512
  exact this
/-- A call of the statements: its kind, its class, its object, its objects. -/
structure Ak where
  k : Int
  c : Int
  a : Int
  l : List Int
def dkD (om : Option Tc) (x : Ak) : Option Tc := if x.k = 0 then tkD om x.c else if x.k = 1 then om else if x.k = 2 then flD om x.c x.l else if x.k = 3 then ptD om x.c x.a else if x.k = 4 then mapK scavK om else if x.k = 5 then mapK drainK om else om
def dkE (om : Option Tc) (x : Ak) : Int := if x.k = 0 then tkE om x.c else if x.k = 1 then errK om x.c else if x.k = 2 then flE om x.c x.l else if x.k = 3 then ptE om x.c else 0
def dkV (om : Option Tc) (x : Ak) : List Int := if x.k = 0 then (if tkE om x.c = 0 then [tkV om x.c] else []) else if x.k = 3 then ptV om x.c x.a else if x.k = 4 then (batV scavV om).flatMap (·.2) else if x.k = 5 then (batV drainV om).flatMap (·.2) else []
end Go.Proofs.Yticcjelaenhigaa
