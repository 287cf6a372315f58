/- A central list: the order of what is put, as functions. -/
import Derived.Test.YtjacbkaeploabaaMe
namespace Go.Proofs.Ytjacbkaeploabaa

/-- What is put is a set: its order is nothing. -/
theorem offL_perm {zs ys : List Int} (h : zs.Perm ys) (L : List Mo) : offL L zs = offL L ys := by
  unfold offL
  refine List.map_congr_left fun m _ => ?_
  unfold offM
  have : (fun k => if k < m.n then m.f k && !decide ((adr m k : Int) ∈ zs) else m.f k) = (fun k => if k < m.n then m.f k && !decide ((adr m k : Int) ∈ ys) else m.f k) := by
    funext k
    have := h.mem_iff (a := (adr m k : Int))
    simp only [this]
  rw [this]
theorem ptEr_perm {zs ys : List Int} (h : zs.Perm ys) (om : Option Ce) : ptEr om zs = ptEr om ys := by
  cases om with
  | none => rfl
  | some c =>
    have h1 : wildB c.L zs = wildB c.L ys := by unfold wildB; exact h.any_eq
    have h2 : goodB c zs = goodB c ys := by
      unfold goodB
      rw [h.all_eq]
      congr 1
      exact decide_eq_decide.2 h.nodup_iff
    simp only [ptEr, h1, h2]
theorem ptDr_perm {zs ys : List Int} (h : zs.Perm ys) (om : Option Ce) : ptDr om zs = ptDr om ys ∧ ptVr om zs = ptVr om ys := by
  cases om with
  | none => exact ⟨rfl, rfl⟩
  | some c =>
    simp only [ptDr, ptVr, ptEr_perm h, offL_perm h, and_self]
/-- Two that change places. -/
theorem swap_perm {ys : List Int} {i k : Nat} {a b : Int} (hi : ys[i]? = some a) (hk : ys[k]? = some b) (hik : i ≠ k) : ((ys.set i b).set k a).Perm ys := by
  obtain ⟨h1, rfl⟩ := List.getElem?_eq_some_iff.1 hi
  obtain ⟨h2, rfl⟩ := List.getElem?_eq_some_iff.1 hk
  rw [List.perm_iff_count]
  intro x
  rw [List.count_set (by rw [List.length_set]; exact h2), List.count_set h1, List.getElem_set_ne hik]
  have e1 : ys[i] == x → 0 < ys.count x := fun e => List.count_pos_iff.2 (by rw [← eq_of_beq e]; exact List.getElem_mem _)
  have e2 : ys[k] == x → 0 < ys.count x := fun e => List.count_pos_iff.2 (by rw [← eq_of_beq e]; exact List.getElem_mem _)
  have e3 : ys[i] == x → ys[k] == x → 1 < ys.count x := fun h3 h4 => by
    have e5 : ys[i] = x := eq_of_beq h3
    have e6 : ys[k] = x := eq_of_beq h4
    have hs : (ys.set i (x + 1)).count x + 1 = ys.count x := by
      rw [List.count_set h1, if_pos h3, if_neg (by simp; omega)]
      have := e1 h3
      omega
    have : 0 < (ys.set i (x + 1)).count x := List.count_pos_iff.2 (by
      refine List.mem_of_getElem? (i := k) ?_
      rw [List.getElem?_set_ne hik, List.getElem?_eq_getElem h2, e6])
    omega
  by_cases c1 : ys[i] == x
  · have := e1 c1
    by_cases c2 : ys[k] == x
    · have := e3 c1 c2
      simp only [c1, c2, if_true]
      omega
    · simp only [c1, if_true, if_neg c2]
      simp
      omega
  · by_cases c2 : ys[k] == x
    · have := e2 c2
      simp only [c2, if_true, if_neg c1]
      simp
    · simp only [if_neg c1, if_neg c2]
      simp
/-- Turned by t places. -/
def rot (zs : List Int) (t : Nat) : List Int := zs.drop (t % zs.length) ++ zs.take (t % zs.length)
theorem rot_perm (zs : List Int) (t : Nat) : (rot zs t).Perm zs := by
  unfold rot
  refine List.perm_append_comm.trans ?_
  rw [List.take_append_drop]
theorem rot_get {zs : List Int} {t j : Nat} (hj : j < zs.length) : (rot zs t)[j]? = zs[(j + t) % zs.length]? := by
  have hm : t % zs.length < zs.length := Nat.mod_lt _ (by omega)
  have h1 : (j + t) % zs.length = (j + t % zs.length) % zs.length := by rw [Nat.add_mod, Nat.mod_eq_of_lt hj]
  rw [h1]
  unfold rot
  generalize t % zs.length = i at *
  by_cases h : j < zs.length - i
  · rw [List.getElem?_append_left (by rw [List.length_drop]; exact h), List.getElem?_drop, Nat.mod_eq_of_lt (by omega), Nat.add_comm]
  · rw [List.getElem?_append_right (by rw [List.length_drop]; omega), List.length_drop, List.getElem?_take_of_lt (by omega), show j + i = (j - (zs.length - i)) + zs.length from by omega, Nat.add_mod_right, Nat.mod_eq_of_lt (by omega)]

/-! A span with a free object, and none. -/
theorem rm_none {c : Ce} (hb : bst c.L c.L.length = none) : rmC (some c) = 0 := by
  show sumL (fun m => m.n - tc m) c.L = 0
  unfold sumL
  have : ∀ m ∈ c.L, m.n - tc m = 0 := fun m hm => by
    obtain ⟨j, hj⟩ := List.mem_iff_getElem?.1 hm
    have := (bst_spec c.L c.L.length).2 hb j m (List.getElem?_eq_some_iff.1 hj).1 hj
    omega
  rw [List.map_congr_left (g := fun _ => 0) this]
  clear this hb
  generalize c.L = L
  induction L with
  | nil => rfl
  | cons x t ih => simpa using ih

end Go.Proofs.Ytjacbkaeploabaa
