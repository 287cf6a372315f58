/- The document's own table, as plain lists: what is left out at the end is what Make leaves out on its way. -/
import Derived.Test.YtjloipljecjbaaaMa
namespace Go.Proofs.Ytjloipljecjbaaa
open Go.RowKit

instance : Inhabited Sz := ⟨Sz.first⟩
def keepI (waste : Int) (l : List Sz) (i : Nat) : Bool := decide (i + 1 = l.length) || !sameZ waste (l.getD i default) (l.getD (i + 1) default)
def outI (waste : Int) (l : List Sz) (k : Nat) : List Sz := (List.range k).filterMap fun i => if keepI waste l i = true then some (l.getD i default) else none

theorem outI_zero (waste : Int) (l : List Sz) : outI waste l 0 = [] := rfl
theorem outI_keep (waste : Int) (l : List Sz) (k : Nat) (h : keepI waste l k = true) : outI waste l (k + 1) = outI waste l k ++ [l.getD k default] := by
  unfold outI
  rw [List.range_succ, List.filterMap_append]
  simp [h]
theorem outI_drop (waste : Int) (l : List Sz) (k : Nat) (h : keepI waste l k = false) : outI waste l (k + 1) = outI waste l k := by
  unfold outI
  rw [List.range_succ, List.filterMap_append]
  simp [h]

theorem outI_len (waste : Int) (l : List Sz) (k : Nat) : (outI waste l k).length ≤ k := by
  have := List.length_filterMap_le (fun i => if keepI waste l i = true then some (l.getD i default) else none) (List.range k)
  simpa [outI] using this

theorem out_mk (waste : Int) (l : List Sz) (k : Nat) : k < l.length → outI waste l k ++ [l.getD k default] = mkZ waste (l.take (k + 1)) := by
  induction k with
  | zero =>
    intro h
    match l, h with
    | a :: r, _ => rfl
  | succ k ih =>
    intro h
    have ih := ih (by omega)
    have ht : l.take (k + 1 + 1) = l.take (k + 1) ++ [l.getD (k + 1) default] := by
      rw [List.take_succ_eq_append_getElem h, List.getD_eq_getElem?_getD, List.getElem?_eq_getElem h]
      rfl
    rw [ht, mkZ_snoc, ← ih]
    cases hs : sameZ waste (l.getD k default) (l.getD (k + 1) default)
    · rw [addZ_other _ _ _ _ hs, outI_keep]
      unfold keepI
      rw [hs]
      simp
    · rw [addZ_same _ _ _ _ hs, outI_drop]
      unfold keepI
      rw [hs, decide_eq_false (by omega)]
      rfl

theorem out_all (waste : Int) (l : List Sz) : outI waste l l.length = mkZ waste l := by
  cases hl : l.length with
  | zero =>
    have : l = [] := List.eq_nil_of_length_eq_zero hl
    subst this
    rfl
  | succ n =>
    have h := out_mk waste l n (by omega)
    rw [outI_keep, h, List.take_of_length_le (by omega)]
    unfold keepI
    rw [decide_eq_true (by omega)]
    rfl

/-- The gap, found by doubling. -/
def gapQ (q : Int) : Int := if q < 8 then 8 else 2 ^ Nat.log2 q.toNat
theorem gapQ_small : ∀ q : Fin 256, ∀ j : Fin 5, (8 * 2 ^ j.val = 8 ∨ 8 * 2 ^ j.val ≤ q.val) → q.val < 2 * (8 * 2 ^ j.val) → gapQ (q.val : Int) = ((8 * 2 ^ j.val : Nat) : Int) := by decide +kernel

theorem gapQ_of {q d : Int} (h0 : 0 ≤ q) (h1 : q < 256) (hd : d = 8 ∨ d = 16 ∨ d = 32 ∨ d = 64 ∨ d = 128) (hl : d = 8 ∨ d ≤ q) (hu : q < 2 * d) : gapQ q = d := by
  obtain ⟨n, rfl⟩ := Int.eq_ofNat_of_zero_le h0
  rcases hd with rfl | rfl | rfl | rfl | rfl
  · exact gapQ_small ⟨n, by omega⟩ 0 (.inl rfl) (by show n < 2 * (8 * 2 ^ 0); omega)
  · exact gapQ_small ⟨n, by omega⟩ 1 (.inr (by show 8 * 2 ^ 1 ≤ n; omega)) (by show n < 2 * (8 * 2 ^ 1); omega)
  · exact gapQ_small ⟨n, by omega⟩ 2 (.inr (by show 8 * 2 ^ 2 ≤ n; omega)) (by show n < 2 * (8 * 2 ^ 2); omega)
  · exact gapQ_small ⟨n, by omega⟩ 3 (.inr (by show 8 * 2 ^ 3 ≤ n; omega)) (by show n < 2 * (8 * 2 ^ 3); omega)
  · exact gapQ_small ⟨n, by omega⟩ 4 (.inr (by show 8 * 2 ^ 4 ≤ n; omega)) (by show n < 2 * (8 * 2 ^ 4); omega)

theorem gapI_q (s waste : Int) : gapI s waste = gapQ (s / waste) := rfl

end Go.Proofs.Ytjloipljecjbaaa
