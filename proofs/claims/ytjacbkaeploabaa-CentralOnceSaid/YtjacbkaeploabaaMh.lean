/- A central list: few spans are begun, as functions. -/
import Derived.Test.YtjacbkaeploabaaMg
namespace Go.Proofs.Ytjacbkaeploabaa

/-- A span is begun: it has a taken object and a free one. -/
def bgn (m : Mo) : Bool := decide (0 < tc m) && decide (tc m < m.n)
theorem bgn_iff {m : Mo} : bgn m = true ↔ 0 < tc m ∧ tc m < m.n := by unfold bgn; rw [Bool.and_eq_true, decide_eq_true_eq, decide_eq_true_eq]
def Uniq (L : List Mo) : Prop := ∀ (i j : Nat) (x y : Mo), L[i]? = some x → L[j]? = some y → bgn x = true → bgn y = true → i = j
theorem uniq_zero {L : List Mo} (h : ∀ m, m ∈ L → tc m = 0) : Uniq L := fun i j x y hx _ hbx _ => by
  have h1 := h x (List.mem_of_getElem? hx)
  have h2 := (bgn_iff.1 hbx).1
  omega
/-- Whoever is fullest is begun already, if one is. -/
theorem Uniq.stp {L L' : List Mo} {a : Nat} (h : Uniq L) (hs : Go.Proofs.Ytjacbkaeploabaa.stp L = some (a, L')) : Uniq L' := by
  obtain ⟨b, o, m, hb, hm, ho, _, rfl⟩ := stp_get hs
  have hB := (bst_spec L L.length).1 b hb
  have key : ∀ (i : Nat) (x : Mo), i ≠ b → L[i]? = some x → bgn x = true → False := fun i x hib hx hbx => by
    obtain ⟨h1, h2⟩ := bgn_iff.1 hbx
    have hmb : bgn m = true := by
      refine bgn_iff.2 ⟨?_, tc_ff ho⟩
      have h4 := (hB.top i x (List.getElem?_eq_some_iff.1 hx).1 hx h2).1
      rw [tcA_at hm] at h4
      omega
    exact hib (h i b x m hx hm hbx hmb)
  intro i j x y hx hy hbx hby
  by_cases hi : i = b
  · by_cases hj : j = b
    · rw [hi, hj]
    · rw [List.getElem?_set_ne (Ne.symm hj)] at hy
      exact (key j y hj hy hby).elim
  · rw [List.getElem?_set_ne (Ne.symm hi)] at hx
    exact (key i x hi hx hbx).elim
theorem countP_one : ∀ (L : List Mo), L.Pairwise (fun x y => ¬ (bgn x = true ∧ bgn y = true)) → L.countP bgn ≤ 1
  | [], _ => by simp
  | x :: t, h => by
    rw [List.pairwise_cons] at h
    rw [List.countP_cons]
    by_cases hx : bgn x = true
    · have : t.countP bgn = 0 := by
        rw [List.countP_eq_zero]
        intro y hy hby
        exact h.1 y hy ⟨hx, hby⟩
      rw [this, if_pos hx]
      omega
    · rw [if_neg hx]
      exact countP_one t h.2
theorem Uniq.count {L : List Mo} (h : Uniq L) : L.countP bgn ≤ 1 := by
  refine countP_one L ?_
  rw [List.pairwise_iff_getElem]
  intro i j hi hj hij hb
  have := h i j _ _ (List.getElem?_eq_getElem hi) (List.getElem?_eq_getElem hj) hb.1 hb.2
  omega
/-- What is added has no taken object. -/
theorem add_zero {c c' : Ce} {st : Int} (h : ∀ m, m ∈ c.L → tc m = 0) (e : adD (some c) st = some c') : ∀ m, m ∈ c'.L → tc m = 0 := by
  simp only [adD] at e
  split at e
  · split at e
    · injection e with e; subst e; exact h
    · injection e with e
      subst e
      intro m hm
      have hm : m ∈ c.L.take (pos c.L st) ++ newM st (cls c) :: c.L.drop (pos c.L st) := hm
      rw [List.mem_append, List.mem_cons] at hm
      rcases hm with hm | rfl | hm
      · exact h m (List.mem_of_mem_take hm)
      · exact tc_zero.2 fun _ _ => rfl
      · exact h m (List.mem_of_mem_drop hm)
  · injection e with e; subst e; exact h

end Go.Proofs.Ytjacbkaeploabaa
