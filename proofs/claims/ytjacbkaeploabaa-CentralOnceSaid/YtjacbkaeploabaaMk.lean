/- A central list: what calls leave of all taken objects. -/
import Derived.Test.YtjacbkaeploabaaMj
import Derived.Test.YtjacbkaeploabaaFa
namespace Go.Proofs.Ytjacbkaeploabaa

theorem CWf.stp {c : Ce} (h : CWf c) {a : Nat} {L' : List Mo} (hs : Go.Proofs.Ytjacbkaeploabaa.stp c.L = some (a, L')) : CWf { c with L := L' } := by
  obtain ⟨b, o, m, _, hm, _, _, rfl⟩ := stp_get hs
  exact h.set hm o true
theorem CWf.tkL (k : Nat) : ∀ c : Ce, CWf c → CWf { c with L := (Go.Proofs.Ytjacbkaeploabaa.tkL k c.L).2 } := by
  induction k with
  | zero => intro c h; exact h
  | succ k ih =>
    intro c h
    cases hs : Go.Proofs.Ytjacbkaeploabaa.stp c.L with
    | none => rw [tkL_none hs]; exact h
    | some r =>
      obtain ⟨a, L'⟩ := r
      rw [tkL_some hs]
      exact ih { c with L := L' } (h.stp hs)
/-- The object that is taken as the j-th. -/
theorem tkL_at : ∀ (n j : Nat) (L : List Mo) (a : Nat), (tkL n L).1[j]? = some a → stp (tkL j L).2 = some (a, (tkL (j + 1) L).2)
  | 0, j, L, a, h => by simp [tkL] at h
  | n + 1, j, L, a, h => by
    cases hs : stp L with
    | none => rw [tkL_none hs] at h; simp at h
    | some r =>
      obtain ⟨b, L'⟩ := r
      rw [tkL_some hs] at h
      cases j with
      | zero =>
        simp at h
        subst h
        rw [tkL_some hs]
        exact hs
      | succ j =>
        have h2 := tkL_at n j L' a (by simpa using h)
        rw [tkL_some hs, tkL_some hs]
        exact h2
theorem tkL_all : ∀ (n : Nat) (L : List Mo), tkL (tkL n L).1.length L = tkL n L
  | 0, L => rfl
  | n + 1, L => by
    cases hs : stp L with
    | none => simp only [tkL_none hs]
    | some r =>
      obtain ⟨b, L'⟩ := r
      have ih := tkL_all n L'
      rw [tkL_some hs]
      show tkL ((tkL n L').1.length + 1) L = _
      rw [tkL_some hs, ih]
theorem tk_nat (c : Ce) (a : Int) : tkR (some c) a = (tkL a.toNat c.L).1 ∧ tkDr (some c) a = some { c with L := (tkL a.toNat c.L).2 } := by
  by_cases h : a < 0
  · have h0 : a.toNat = 0 := by omega
    rw [show tkR (some c) a = [] from if_pos h, show tkDr (some c) a = some c from if_pos h, h0]
    exact ⟨rfl, rfl⟩
  · exact ⟨if_neg h, if_neg h⟩
/-- .. as numbers of the program. -/
def allI (L : List Mo) : List Int := (allT L).map (fun a : Nat => (a : Int))
theorem allI_put {L : List Mo} {zs xs : List Int} (h : xs.Perm (allI L)) : (xs.filter (fun a => !decide (a ∈ zs))).Perm (allI (live (offL L zs))) := by
  have h2 := h.filter (fun a => !decide (a ∈ zs))
  unfold allI at *
  rw [allT_live, allT_off]
  rw [List.filter_map] at h2
  exact h2
theorem allI_stp {c : Ce} (h : CWf c) {a : Nat} {L' : List Mo} {xs : List Int} (hp : xs.Perm (allI c.L)) (hs : stp c.L = some (a, L')) : (xs ++ [(a : Int)]).Perm (allI L') ∧ (a : Int) ∉ xs := by
  obtain ⟨h1, h2⟩ := allT_stp h hs
  unfold allI at *
  refine ⟨?_, fun hm => ?_⟩
  · refine List.perm_append_comm.trans ?_
    refine List.Perm.trans ?_ (h1.map (fun a : Nat => (a : Int))).symm
    exact hp.cons _
  · obtain ⟨b, hb, e⟩ := List.mem_map.1 (hp.mem_iff.1 hm)
    have : b = a := by omega
    subst this
    exact h2 hb
theorem allI_len {L : List Mo} {xs : List Int} (h : xs.Perm (allI L)) : xs.length = sumL tc L := by
  rw [h.length_eq]
  unfold allI
  rw [List.length_map, allT_len]
/-- A call that is no Take, and no Put that is taken, leaves the taken objects. -/
theorem dk_all {c c' : Ce} {x : Ak} (h1 : x.k ≠ 1) (h2 : ¬ (x.k = 2 ∧ dkE (some c) x = 0)) (e : dkD (some c) x = some c') : allI c'.L = allI c.L := by
  unfold allI
  congr 1
  by_cases h0 : x.k = 0
  · rw [show dkD (some c) x = adD (some c) x.a from if_pos h0] at e
    simp only [adD] at e
    split at e
    · split at e
      · injection e with e; subst e; rfl
      · injection e with e
        subst e
        exact allT_ins _ _ (tc_zero.2 fun _ _ => rfl)
    · injection e with e; subst e; rfl
  · by_cases h3 : x.k = 2
    · have e1 : dkE (some c) x = ptEr (some c) x.l := by unfold dkE; rw [if_neg h0, if_neg h1, if_pos h3]
      rw [show dkD (some c) x = ptDr (some c) x.l from by unfold dkD; rw [if_neg h0, if_neg h1, if_pos h3], (ptEr_bad (fun h => h2 ⟨h3, by rw [e1, h]⟩)).1] at e
      injection e with e; subst e; rfl
    · by_cases h4 : x.k = 3
      · rw [show dkD (some c) x = swD (some c) from by unfold dkD; rw [if_neg h0, if_neg h1, if_neg h3, if_pos h4]] at e
        injection e with e
        subst e
        exact allT_live c.L
      · rw [show dkD (some c) x = some c from by unfold dkD; rw [if_neg h0, if_neg h1, if_neg h3, if_neg h4]] at e
        injection e with e; subst e; rfl
theorem dk_put {c c' : Ce} {x : Ak} (h2 : x.k = 2 ∧ dkE (some c) x = 0) (e : dkD (some c) x = some c') : c'.L = live (offL c.L x.l) := by
  obtain ⟨h3, h4⟩ := h2
  have e1 : dkE (some c) x = ptEr (some c) x.l := by unfold dkE; rw [if_neg (by omega), if_neg (by omega), if_pos h3]
  rw [show dkD (some c) x = ptDr (some c) x.l from by unfold dkD; rw [if_neg (by omega), if_neg (by omega), if_pos h3], (ptEr_ok (by rw [← e1]; exact h4)).1] at e
  injection e with e
  subst e
  rfl

end Go.Proofs.Ytjacbkaeploabaa
