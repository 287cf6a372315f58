/- A central list: what stays and what goes, merged again, as functions. -/
import Derived.Test.YtjacbkaeploabaaMh
namespace Go.Proofs.Ytjacbkaeploabaa

/-- How many of the first spans go, stay. -/
def dN (M : List Mo) (j : Nat) : Nat := (dead (M.take j)).length
def lN (M : List Mo) (j : Nat) : Nat := (live (M.take j)).length
theorem cut_at {M : List Mo} {j : Nat} {m : Mo} (h : M[j]? = some m) : M = M.take j ++ (m :: M.drop (j + 1)) := by
  obtain ⟨hk, rfl⟩ := List.getElem?_eq_some_iff.1 h
  rw [List.getElem_cons_drop, List.take_append_drop]
theorem filt_at {p : Mo → Bool} {M : List Mo} {j : Nat} {m : Mo} (h : M[j]? = some m) (hp : p m = true) : (M.filter p)[((M.take j).filter p).length]? = some m := by
  conv => lhs; rw [cut_at h]
  rw [List.filter_append, List.take_append_of_le_length (by rw [List.length_take]; have := (List.getElem?_eq_some_iff.1 h).1; omega), List.take_take, Nat.min_self, List.getElem?_append_right (Nat.le_refl _), Nat.sub_self, List.filter_cons_of_pos hp]
  rfl
theorem filt_next {p : Mo → Bool} {M : List Mo} {j : Nat} {m x : Mo} (h : M[j]? = some m) (hp : p m = false) (hx : (M.filter p)[((M.take j).filter p).length]? = some x) : x ∈ M.drop (j + 1) := by
  have e : M.filter p = (M.take j).filter p ++ (M.drop (j + 1)).filter p := by
    conv => lhs; rw [cut_at h]
    rw [List.filter_append, List.filter_cons_of_neg (by rw [hp]; decide)]
  rw [e, List.getElem?_append_right (Nat.le_refl _)] at hx
  exact (List.mem_filter.1 (List.mem_of_getElem? hx)).1
theorem dead_at {M : List Mo} {j : Nat} {m : Mo} (h : M[j]? = some m) (ht : tc m = 0) : (dead M)[dN M j]? = some m := filt_at h (by simpa using ht)
theorem live_at {M : List Mo} {j : Nat} {m : Mo} (h : M[j]? = some m) (ht : tc m ≠ 0) : (live M)[lN M j]? = some m := filt_at h (by simpa using ht)
theorem dead_other {c : Ce} (hw : CWf c) {j : Nat} {m x : Mo} (h : c.L[j]? = some m) (ht : tc m ≠ 0) (hx : (dead c.L)[dN c.L j]? = some x) : m.s ≠ x.s := by
  have h1 := filt_next h (by simpa using ht) hx
  obtain ⟨i, hi⟩ := List.mem_iff_getElem?.1 h1
  rw [List.getElem?_drop] at hi
  have := hw.ord (by omega) h hi
  have := hw.g1
  omega
theorem dN_next {M : List Mo} {j : Nat} {m : Mo} (h : M[j]? = some m) : dN M (j + 1) = dN M j + (if tc m = 0 then 1 else 0) ∧ lN M (j + 1) = lN M j + (if tc m = 0 then 0 else 1) := by
  unfold dN lN dead live
  rw [filter_take h, filter_take h, List.length_append, List.length_append]
  by_cases ht : tc m = 0 <;> simp [ht]
theorem dl_len (M : List Mo) : (dead M).length + (live M).length = M.length := by
  induction M with
  | nil => rfl
  | cons m t ih =>
    unfold dead live at *
    by_cases ht : tc m = 0
    · rw [List.filter_cons_of_pos (by simpa using ht), List.filter_cons_of_neg (by simpa using ht), List.length_cons, List.length_cons]; omega
    · rw [List.filter_cons_of_neg (by simpa using ht), List.filter_cons_of_pos (by simpa using ht), List.length_cons, List.length_cons]; omega
theorem dN_le (M : List Mo) (j : Nat) : dN M j ≤ (dead M).length ∧ lN M j ≤ (live M).length :=
  ⟨((List.take_sublist j M).filter _).length_le, ((List.take_sublist j M).filter _).length_le⟩
theorem dead_live (M : List Mo) : dead (live M) = [] := by
  unfold dead live
  rw [List.filter_filter, List.filter_eq_nil_iff]
  intro m _
  simp
theorem live_live (M : List Mo) : live (live M) = live M := by
  unfold live
  rw [List.filter_filter]
  refine List.filter_congr fun m _ => ?_
  simp
theorem live_pos {M : List Mo} {i : Nat} {m : Mo} (h : (live M)[i]? = some m) : tc m ≠ 0 := by
  have := (List.mem_filter.1 (List.mem_of_getElem? h)).2
  simpa using this

end Go.Proofs.Ytjacbkaeploabaa
