/- The runs of backed pages: how they are found one by one. -/
import Derived.Test.YtecfjibmpbgllaaMc
namespace Go.Proofs.Ytecfjibmpbgllaa

theorem ext_le (S : Nat → Nat) : ∀ n p, ext S p n ≤ n
  | 0, _ => Nat.le_refl _
  | n + 1, p => by
    have := ext_le S n (p + 1)
    unfold ext
    split <;> omega
theorem ext_eq {S : Nat → Nat} : ∀ {n p k : Nat}, k ≤ n → (∀ t, t < k → S (p + t) = 2) → (k < n → S (p + k) ≠ 2) → ext S p n = k
  | 0, p, k, h, _, _ => by obtain rfl : k = 0 := by omega
                           rfl
  | n + 1, p, 0, _, _, h2 => by
    have := h2 (by omega)
    unfold ext
    rw [if_neg (by simpa using this)]
  | n + 1, p, k + 1, h, h1, h2 => by
    have h0 := h1 0 (by omega)
    unfold ext
    rw [if_pos (by simpa using h0), ext_eq (n := n) (p := p + 1) (k := k) (by omega) (fun t ht => by have := h1 (t + 1) (by omega); rwa [show p + 1 + t = p + (t + 1) from by omega]) (fun hk => by have := h2 (by omega); rwa [show p + 1 + k = p + (k + 1) from by omega])]
theorem rs_skip (S : Nat → Nat) : ∀ sk p n, sk ≤ n → rs S p n sk = rs S (p + sk) (n - sk) 0
  | 0, p, n, _ => rfl
  | sk + 1, p, 0, h => by omega
  | sk + 1, p, n + 1, h => by
    show rs S (p + 1) n sk = _
    rw [rs_skip S sk (p + 1) n (by omega), show p + 1 + sk = p + (sk + 1) from by omega, show n - sk = n + 1 - (sk + 1) from by omega]
/-- One look: the run that begins at p, if there is one, and what lies behind the page behind it. -/
theorem rs_step {S : Nat → Nat} {p n k : Nat} (hn : 1 ≤ n) (hk : k ≤ n) (h1 : ∀ t, t < k → S (p + t) = 2) (h2 : k < n → S (p + k) ≠ 2) :
    rs S p n 0 = (if k = 0 then [] else [(p, k)]) ++ rs S (p + (k + 1)) (n - (k + 1)) 0 := by
  obtain ⟨n, rfl⟩ : ∃ j, n = j + 1 := ⟨n - 1, by omega⟩
  have miss : ∀ q j, (0 < j → S q ≠ 2) → rs S q j 0 = rs S (q + 1) (j - 1) 0 := fun q j h => by
    cases j with
    | zero => rfl
    | succ j =>
      show (if S q = 2 then _ else rs S (q + 1) j 0) = _
      rw [if_neg (h (by omega))]; rfl
  cases k with
  | zero =>
    rw [if_pos rfl, List.nil_append]
    exact miss p (n + 1) (fun _ => by simpa using h2 (by omega))
  | succ k =>
    have h0 : S p = 2 := by simpa using h1 0 (by omega)
    have he : ext S (p + 1) n = k := ext_eq (by omega) (fun t ht => by have := h1 (t + 1) (by omega); rwa [show p + 1 + t = p + (t + 1) from by omega]) (fun hk => by have := h2 (by omega); rwa [show p + 1 + k = p + (k + 1) from by omega])
    show (if S p = 2 then (p, ext S (p + 1) n + 1) :: rs S (p + 1) n (ext S (p + 1) n) else rs S (p + 1) n 0) = _
    rw [if_pos h0, he, if_neg (by omega), rs_skip S k (p + 1) n (by omega), miss (p + 1 + k) (n - k) (fun hj => by have := h2 (by omega); rwa [show p + 1 + k = p + (k + 1) from by omega])]
    rw [show p + 1 + k + 1 = p + (k + 1 + 1) from by omega, show n - k - 1 = n + 1 - (k + 1 + 1) from by omega]
    rfl

theorem rs_len (S : Nat → Nat) : ∀ n p sk : Nat, (rs S p n sk).length ≤ n
  | 0, _, _ => Nat.le_refl _
  | n + 1, p, sk + 1 => Nat.le_trans (rs_len S n (p + 1) sk) (Nat.le_succ _)
  | n + 1, p, 0 => by
    show (if S p = 2 then (p, ext S (p + 1) n + 1) :: rs S (p + 1) n (ext S (p + 1) n) else rs S (p + 1) n 0).length ≤ n + 1
    split
    · rw [List.length_cons]
      exact Nat.succ_le_succ (rs_len S n (p + 1) _)
    · exact Nat.le_trans (rs_len S n (p + 1) 0) (Nat.le_succ _)

end Go.Proofs.Ytecfjibmpbgllaa
