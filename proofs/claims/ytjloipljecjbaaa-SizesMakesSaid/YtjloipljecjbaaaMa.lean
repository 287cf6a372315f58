/- The candidates of Make: plain lists of sizes. -/
import Derived.Test.YtjloipljecjbaaaLd
import Derived.Test.YtjloipljecjbaaaLb
import Derived.Test.YtjloipljecjbaaaTc
namespace Go.Proofs.Ytjloipljecjbaaa
open Go.RowKit

theorem gapI_pos (s waste : Int) : 8 ≤ gapI s waste ∨ s / waste ≥ 8 ∧ 1 ≤ gapI s waste := by
  unfold gapI
  by_cases h : s / waste < 8
  · rw [if_pos h]; omega
  · rw [if_neg h]
    have : (0 : Int) < 2 ^ (Nat.log2 (s / waste).toNat) := Int.pow_pos (by omega)
    exact .inr ⟨by omega, by omega⟩

theorem gapI_ge (s waste : Int) : 8 ≤ gapI s waste := by
  unfold gapI
  by_cases h : s / waste < 8
  · rw [if_pos h]; omega
  · rw [if_neg h]
    have h2 : 3 ≤ Nat.log2 (s / waste).toNat := by
      rw [Nat.le_log2 (by omega)]
      omega
    have h3 : (2 : Int) ^ 3 ≤ 2 ^ (Nat.log2 (s / waste).toNat) := by
      exact_mod_cast Nat.pow_le_pow_right (show 0 < 2 by omega) h2
    omega

theorem gapI_le (s waste : Int) (h : 8 ≤ s) (_hw : 2 ≤ waste) : gapI s waste ≤ s := by
  unfold gapI
  by_cases h1 : s / waste < 8
  · rw [if_pos h1]; exact h
  · rw [if_neg h1]
    have h2 : 2 ^ Nat.log2 (s / waste).toNat ≤ (s / waste).toNat := Nat.log2_self_le (by omega)
    have h3 : ((2 ^ Nat.log2 (s / waste).toNat : Nat) : Int) = 2 ^ Nat.log2 (s / waste).toNat := by push_cast; rfl
    have h4 : s / waste ≤ s := Int.ediv_le_self _ (by omega)
    omega

/-- A size that Make may choose. -/
structure Sz where
  val : Int
  lo : 8 ≤ val
  hi : val ≤ 512
def Sz.first : Sz := ⟨8, by omega, by omega⟩
def nxt (waste : Int) (s : Sz) : Sz := if h : s.1 + gapI s.1 waste ≤ 512 then ⟨s.1 + gapI s.1 waste, by have := gapI_ge s.1 waste; have := s.lo; omega, h⟩ else ⟨512, by omega, by omega⟩
theorem nxt_val (waste : Int) (s : Sz) : (nxt waste s).1 = if s.1 + gapI s.1 waste ≤ 512 then s.1 + gapI s.1 waste else 512 := by
  unfold nxt
  by_cases h : s.1 + gapI s.1 waste ≤ 512
  · rw [dif_pos h, if_pos h]
  · rw [dif_neg h, if_neg h]
theorem nxt_lt (waste : Int) (s : Sz) (h : s.1 < 512) : s.1 < (nxt waste s).1 := by
  rw [nxt_val]
  have := gapI_ge s.1 waste
  split <;> omega
theorem nxt_ge (waste : Int) (s : Sz) : s.1 + 8 ≤ (nxt waste s).1 ∨ 512 ≤ (nxt waste s).1 := by
  rw [nxt_val]
  have := gapI_ge s.1 waste
  split <;> omega

def szL (waste : Int) : Nat → Sz → List Sz
  | 0, s => [s]
  | f + 1, s => s :: if s.1 < 512 then szL waste f (nxt waste s) else []
def cands (waste : Int) : List Sz := szL waste 63 Sz.first

theorem szL_cons (waste : Int) (f : Nat) (s : Sz) : ∃ rest, szL waste f s = s :: rest := by
  cases f with
  | zero => exact ⟨[], rfl⟩
  | succ f => exact ⟨_, rfl⟩
theorem szL_more (waste : Int) (f : Nat) (s : Sz) (h : s.1 < 512) (hf : 512 ≤ s.1 + 8 * f) : ∃ g : Nat, szL waste f s = s :: szL waste g (nxt waste s) ∧ 512 ≤ (nxt waste s).1 + 8 * g := by
  cases f with
  | zero => omega
  | succ g =>
    refine ⟨g, ?_, ?_⟩
    · show s :: _ = _
      rw [if_pos h]
    · have := nxt_ge waste s
      omega
theorem szL_end (waste : Int) (f : Nat) (s : Sz) (h : ¬ s.1 < 512) : szL waste f s = [s] := by
  cases f with
  | zero => rfl
  | succ f =>
    show s :: _ = _
    rw [if_neg h]
theorem szL_len (waste : Int) (f : Nat) : ∀ s, (szL waste f s).length ≤ f + 1 := by
  induction f with
  | zero => intro s; exact Nat.le_refl _
  | succ f ih =>
    intro s
    show (s :: _).length ≤ _
    split
    · have := ih (nxt waste s); simp; omega
    · simp
theorem cands_len (waste : Int) : (cands waste).length ≤ 64 := szL_len waste 63 _

/-- Two sizes whose spans have the same pages and objects. -/
def sameZ (waste : Int) (a b : Sz) : Bool := decide (spI a.1 waste = spI b.1 waste ∧ spI a.1 waste * 256 / a.1 = spI b.1 waste * 256 / b.1)
def addZ (waste : Int) (acc : List Sz) (c : Sz) : List Sz :=
  match acc.getLast? with
  | none => acc ++ [c]
  | some d => if sameZ waste d c = true then acc.dropLast ++ [c] else acc ++ [c]
def mkZ (waste : Int) (pre : List Sz) : List Sz := pre.foldl (addZ waste) []
theorem mkZ_snoc (waste : Int) (pre : List Sz) (c : Sz) : mkZ waste (pre ++ [c]) = addZ waste (mkZ waste pre) c := by unfold mkZ; rw [List.foldl_append]; rfl
theorem addZ_nil (waste : Int) (c : Sz) : addZ waste [] c = [c] := rfl
theorem addZ_same (waste : Int) (l : List Sz) (d c : Sz) (h : sameZ waste d c = true) : addZ waste (l ++ [d]) c = l ++ [c] := by
  unfold addZ
  simp [h]
theorem addZ_other (waste : Int) (l : List Sz) (d c : Sz) (h : sameZ waste d c = false) : addZ waste (l ++ [d]) c = l ++ [d] ++ [c] := by
  unfold addZ
  simp [h]
theorem addZ_len (waste : Int) (l : List Sz) (c : Sz) : (addZ waste l c).length ≤ l.length + 1 := by
  unfold addZ
  split
  · simp
  · split <;> simp
theorem mkZ_len (waste : Int) (pre : List Sz) : (mkZ waste pre).length ≤ pre.length := by
  have h : ∀ acc : List Sz, (pre.foldl (addZ waste) acc).length ≤ acc.length + pre.length := by
    induction pre with
    | nil => intro acc; simp
    | cons a l ih =>
      intro acc
      have h1 := ih (addZ waste acc a)
      have h2 := addZ_len waste acc a
      simp only [List.foldl_cons, List.length_cons]
      omega
  have h1 := h []
  unfold mkZ
  simpa using h1

def cellsZ (waste : Int) (l : List Sz) : List Value := l.flatMap fun s => [.int .i64 s.1, .int .i64 (spI s.1 waste), .int .i64 (batI s.1)]
theorem cellsZ_snoc (waste : Int) (l : List Sz) (c : Sz) : cellsZ waste (l ++ [c]) = cellsZ waste l ++ [.int .i64 c.1, .int .i64 (spI c.1 waste), .int .i64 (batI c.1)] := by
  unfold cellsZ
  simp
theorem cellsZ_len (waste : Int) (l : List Sz) : (cellsZ waste l).length = l.length * 3 := by
  induction l with
  | nil => rfl
  | cons a l ih =>
    unfold cellsZ at ih ⊢
    simp [ih]
    omega

/-- The table that Make returns. -/
def mkT (waste : Int) : List Cl := (mkZ waste (cands waste)).map fun s => candI s.1 waste

end Go.Proofs.Ytjloipljecjbaaa
