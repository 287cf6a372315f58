/- The order of the plan: what holds of it. -/
import Derived.Test.YtecfjibmpbgllaaMa
namespace Go.Proofs.Ytecfjibmpbgllaa

theorem ins_nil (S : Nat → Nat) (k : Nat) : ins S k [] = [k] := rfl
theorem ins_cons (S : Nat → Nat) (k x : Nat) (l : List Nat) : ins S k (x :: l) = if key S x < key S k then x :: ins S k l else k :: x :: l := by
  unfold ins
  rw [List.takeWhile_cons, List.dropWhile_cons]
  by_cases h : key S x < key S k
  · simp [h]
  · simp [h]
theorem mem_ins (S : Nat → Nat) (k : Nat) : ∀ (l : List Nat) (y : Nat), y ∈ ins S k l ↔ y = k ∨ y ∈ l
  | [], y => by rw [ins_nil]; simp
  | x :: l, y => by
    rw [ins_cons]
    split
    · rw [List.mem_cons, mem_ins S k l y, List.mem_cons]
      constructor
      · rintro (h | h | h)
        · exact .inr (.inl h)
        · exact .inl h
        · exact .inr (.inr h)
      · rintro (h | h | h)
        · exact .inr (.inl h)
        · exact .inl h
        · exact .inr (.inr h)
    · simp
theorem len_ins (S : Nat → Nat) (k : Nat) : ∀ l : List Nat, (ins S k l).length = l.length + 1
  | [] => rfl
  | x :: l => by
    rw [ins_cons]
    split
    · rw [List.length_cons, len_ins S k l, List.length_cons]
    · rfl
theorem ins_pw (S : Nat → Nat) (k : Nat) : ∀ l : List Nat, l.Pairwise (fun a b => key S a < key S b) → (∀ x ∈ l, key S x ≠ key S k) → (ins S k l).Pairwise (fun a b => key S a < key S b)
  | [], _, _ => by rw [ins_nil]; exact List.pairwise_singleton _ _
  | x :: l, h, hn => by
    obtain ⟨h1, h2⟩ := List.pairwise_cons.1 h
    rw [ins_cons]
    split
    · rename_i hlt
      refine List.pairwise_cons.2 ⟨fun y hy => ?_, ins_pw S k l h2 (fun y hy => hn y (List.mem_cons_of_mem _ hy))⟩
      rcases (mem_ins S k l y).1 hy with rfl | hy
      · exact hlt
      · exact h1 y hy
    · rename_i hlt
      have hx := hn x (List.mem_cons_self ..)
      refine List.pairwise_cons.2 ⟨fun y hy => ?_, h⟩
      rcases List.mem_cons.1 hy with rfl | hy
      · omega
      · have := h1 y hy; omega

/-- The huge pages with backed pages, in the order of the plan. -/
structure OrdL (S : Nat → Nat) (n : Nat) (l : List Nat) : Prop where
  pw : l.Pairwise (fun a b => key S a < key S b)
  mem : ∀ k, k ∈ l ↔ k < n ∧ anyS S 2 (16 * k) 16 = true

theorem ordN_ok (S : Nat → Nat) : ∀ n, n ≤ 64 → OrdL S n (ordN S n)
  | 0, _ => ⟨List.Pairwise.nil, fun k => by simp [ordN]⟩
  | n + 1, h => by
    obtain ⟨h1, h2⟩ := ordN_ok S n (by omega)
    unfold ordN
    split
    · rename_i ha
      refine ⟨ins_pw S n _ h1 (fun x hx e => ?_), fun k => ?_⟩
      · have := ((h2 x).1 hx).1
        have := key_inj (by omega) (by omega) e
        omega
      · rw [mem_ins, h2]
        constructor
        · rintro (rfl | ⟨q1, q2⟩)
          · exact ⟨by omega, ha⟩
          · exact ⟨by omega, q2⟩
        · rintro ⟨q1, q2⟩
          by_cases e : k = n
          · exact .inl e
          · exact .inr ⟨by omega, q2⟩
    · rename_i ha
      refine ⟨h1, fun k => ?_⟩
      rw [h2]
      constructor
      · rintro ⟨q1, q2⟩
        exact ⟨by omega, q2⟩
      · rintro ⟨q1, q2⟩
        by_cases e : k = n
        · rw [e] at q2; exact absurd q2 ha
        · exact ⟨by omega, q2⟩
theorem ordN_len (S : Nat → Nat) : ∀ n, (ordN S n).length ≤ n
  | 0 => Nat.le_refl _
  | n + 1 => by
    have := ordN_len S n
    unfold ordN
    split
    · rw [len_ins]; omega
    · omega

theorem pw_unique {R : Nat → Nat → Prop} (hi : ∀ a, ¬ R a a) (ha : ∀ a b, R a b → ¬ R b a) : ∀ l1 l2 : List Nat, l1.Pairwise R → l2.Pairwise R → (∀ x, x ∈ l1 ↔ x ∈ l2) → l1 = l2
  | [], [], _, _, _ => rfl
  | [], b :: t, _, _, h => absurd ((h b).2 (List.mem_cons_self ..)) (by simp)
  | a :: t, [], _, _, h => absurd ((h a).1 (List.mem_cons_self ..)) (by simp)
  | a :: t1, b :: t2, h1, h2, h => by
    obtain ⟨p1, q1⟩ := List.pairwise_cons.1 h1
    obtain ⟨p2, q2⟩ := List.pairwise_cons.1 h2
    have e : a = b := by
      rcases List.mem_cons.1 ((h a).1 (List.mem_cons_self ..)) with e | hm
      · exact e
      · rcases List.mem_cons.1 ((h b).2 (List.mem_cons_self ..)) with e | hm2
        · exact e.symm
        · exact absurd (p2 a hm) (ha _ _ (p1 b hm2))
    subst e
    rw [pw_unique hi ha t1 t2 q1 q2 (fun x => ?_)]
    constructor
    · intro hx
      rcases List.mem_cons.1 ((h x).1 (List.mem_cons_of_mem _ hx)) with e | hm
      · subst e; exact absurd (p1 x hx) (hi x)
      · exact hm
    · intro hx
      rcases List.mem_cons.1 ((h x).2 (List.mem_cons_of_mem _ hx)) with e | hm
      · subst e; exact absurd (p2 x hx) (hi x)
      · exact hm
theorem OrdL.eq {S : Nat → Nat} {n : Nat} {l l' : List Nat} (h : OrdL S n l) (h' : OrdL S n l') : l = l' :=
  pw_unique (R := fun a b => key S a < key S b) (fun _ => Nat.lt_irrefl _) (fun _ _ h1 h2 => absurd h1 (Nat.lt_asymm h2)) l l' h.pw h'.pw (fun x => (h.mem x).trans (h'.mem x).symm)

/-- The huge pages with backed pages, rising. -/
def cands (S : Nat → Nat) : Nat → List Nat
  | 0 => []
  | j + 1 => cands S j ++ if anyS S 2 (16 * j) 16 = true then [j] else []
theorem cands_hit {S : Nat → Nat} {j : Nat} (h : anyS S 2 (16 * j) 16 = true) : cands S (j + 1) = cands S j ++ [j] := by
  show cands S j ++ (if anyS S 2 (16 * j) 16 = true then [j] else []) = _
  rw [if_pos h]
theorem cands_miss {S : Nat → Nat} {j : Nat} (h : anyS S 2 (16 * j) 16 = false) : cands S (j + 1) = cands S j := by
  show cands S j ++ (if anyS S 2 (16 * j) 16 = true then [j] else []) = _
  rw [if_neg (by rw [h]; decide), List.append_nil]
theorem cands_len (S : Nat → Nat) : ∀ n, (cands S n).length ≤ n
  | 0 => Nat.le_refl _
  | n + 1 => by
    have := cands_len S n
    unfold cands
    rw [List.length_append]
    split <;> simp <;> omega
theorem cands_mem (S : Nat → Nat) : ∀ n k, k ∈ cands S n ↔ k < n ∧ anyS S 2 (16 * k) 16 = true
  | 0, k => by simp [cands]
  | n + 1, k => by
    unfold cands
    rw [List.mem_append, cands_mem S n k]
    constructor
    · rintro (⟨h1, h2⟩ | h)
      · exact ⟨by omega, h2⟩
      · split at h
        · rename_i ha
          obtain rfl : k = n := by simpa using h
          exact ⟨by omega, ha⟩
        · cases h
    · rintro ⟨h1, h2⟩
      by_cases e : k = n
      · subst e; rw [if_pos h2]; exact .inr (List.mem_cons_self ..)
      · exact .inl ⟨by omega, h2⟩
theorem cands_nodup (S : Nat → Nat) : ∀ n, (cands S n).Nodup
  | 0 => List.nodup_nil
  | n + 1 => by
    unfold cands
    refine List.nodup_append.2 ⟨cands_nodup S n, by split <;> simp, fun a ha b hb e => ?_⟩
    subst e
    have := ((cands_mem S n a).1 ha).1
    split at hb
    · simp at hb; omega
    · cases hb

/-- How two huge pages compare. -/
def cmpI (a b : Int) : Int := if a < b then -1 else if b < a then 1 else 0
def orV (a b c : Int) : Int := if a ≠ 0 then a else if b ≠ 0 then b else c
def cfv (S : Nat → Nat) (x y : Nat) : Int := orV (cmpI (kdS S x) (kdS S y)) (cmpI (cnt S 1 (16 * x) 16) (cnt S 1 (16 * y) 16)) (cmpI y x)
theorem cfv_lt (S : Nat → Nat) (x y : Nat) (hx : x < 64) (hy : y < 64) : cfv S x y < 0 ↔ key S x < key S y := by
  have h1 := cnt_le S 1 (16 * x) 16
  have h2 := cnt_le S 1 (16 * y) 16
  unfold cfv orV cmpI key
  generalize kdS S x = a at *
  generalize kdS S y = b at *
  generalize cnt S 1 (16 * x) 16 = c at *
  generalize cnt S 1 (16 * y) 16 = d at *
  repeat' split
  all_goals omega

end Go.Proofs.Ytecfjibmpbgllaa
