/- Marks: as a function of the pages with numbers, and in memory. -/
import Derived.Test.YtdjfeibcbmelcaaLa
namespace Go.Proofs.Ytdjfeibcbmelcaa
open Go.RowKit

/-- One page more, the last mark ahead. -/
def addM (M : Nat → Int) (l : List Mk) (p : Nat) : List Mk := match l with
  | [] => [⟨p, 1, M p⟩]
  | m :: t => if p = m.s + m.n ∧ M p = m.v then ⟨m.s, m.n + 1, m.v⟩ :: t else ⟨p, 1, M p⟩ :: m :: t
def rkM (M : Nat → Int) (ps : List Nat) : List Mk := ps.foldl (addM M) []
def marksM (M : Nat → Int) : List Mk := (rkM M (pgs M 0)).reverse
theorem addM_more {M : Nat → Int} {m : Mk} {t : List Mk} {p : Nat} (h : p = m.s + m.n ∧ M p = m.v) : addM M (m :: t) p = ⟨m.s, m.n + 1, m.v⟩ :: t := if_pos h
theorem addM_one {M : Nat → Int} {m : Mk} {t : List Mk} {p : Nat} (h : ¬ (p = m.s + m.n ∧ M p = m.v)) : addM M (m :: t) p = ⟨p, 1, M p⟩ :: m :: t := if_neg h
theorem rkM_snoc (M : Nat → Int) (ps : List Nat) (p : Nat) : rkM M (ps ++ [p]) = addM M (rkM M ps) p := by
  unfold rkM
  rw [List.foldl_append]; rfl
theorem addM_len (M : Nat → Int) (l : List Mk) (p : Nat) : (addM M l p).length ≤ l.length + 1 := by
  unfold addM
  split
  · simp
  · split <;> simp
theorem rkM_len (M : Nat → Int) : ∀ ps : List Nat, (rkM M ps).length ≤ ps.length := fun ps => by
  have : ∀ (ps : List Nat) (l : List Mk), (ps.foldl (addM M) l).length ≤ l.length + ps.length := fun ps => by
    induction ps with
    | nil => intro l; simp
    | cons p ps ih =>
      intro l
      have h1 := ih (addM M l p)
      have h2 := addM_len M l p
      rw [List.foldl_cons, List.length_cons]
      omega
  have := this ps []
  unfold rkM
  simpa using this
/-- What marks keep to. -/
def MkR (m : Mk) : Prop := m.s + m.n ≤ 1024
theorem rkM_ok {M : Nat → Int} {ps : List Nat} (h : ∀ p ∈ ps, p < 1024) : ∀ m ∈ rkM M ps, MkR m := by
  have : ∀ (ps : List Nat) (l : List Mk), (∀ p ∈ ps, p < 1024) → (∀ m ∈ l, MkR m) → ∀ m ∈ ps.foldl (addM M) l, MkR m := fun ps => by
    induction ps with
    | nil => intro l _ h; exact h
    | cons p ps ih =>
      intro l hp hl
      refine ih _ (fun q hq => hp q (List.mem_cons_of_mem _ hq)) ?_
      have hp0 := hp p (List.mem_cons_self ..)
      cases l with
      | nil => intro m hm; cases List.mem_singleton.1 hm; unfold MkR; simp only; omega
      | cons a t =>
        by_cases e : p = a.s + a.n ∧ M p = a.v
        · rw [addM_more e]
          intro m hm
          rcases List.mem_cons.1 hm with rfl | hm
          · unfold MkR; simp only; omega
          · exact hl m (List.mem_cons_of_mem _ hm)
        · rw [addM_one e]
          intro m hm
          rcases List.mem_cons.1 hm with rfl | hm
          · unfold MkR; simp only; omega
          · exact hl m hm
  exact this ps [] h (fun m hm => by cases hm)

def cellsM (l : List Mk) : List Value := l.flatMap fun m => [.int .i64 m.s, .int .i64 m.n, .int .i64 m.v]
theorem cellsM_app (l k : List Mk) : cellsM (l ++ k) = cellsM l ++ cellsM k := List.flatMap_append
theorem cellsM_len : ∀ l : List Mk, (cellsM l).length = l.length * 3
  | [] => rfl
  | m :: l => by
    show ([Value.int .i64 m.s, .int .i64 m.n, .int .i64 m.v] ++ cellsM l).length = _
    rw [List.length_append, cellsM_len l, List.length_cons]
    simp only [List.length_cons, List.length_nil]
    omega
theorem cellsM_at : ∀ (l : List Mk) (i : Nat) (m : Mk), l[i]? = some m → (cellsM l)[i * 3]? = some (.int .i64 m.s) ∧ (cellsM l)[i * 3 + 1]? = some (.int .i64 m.n) ∧ (cellsM l)[i * 3 + 2]? = some (.int .i64 m.v)
  | [], i, m, h => by simp at h
  | x :: l, 0, m, h => by
    obtain rfl : x = m := by simpa using h
    exact ⟨rfl, rfl, rfl⟩
  | x :: l, i + 1, m, h => by
    have ih := cellsM_at l i m (by simpa using h)
    have e : cellsM (x :: l) = .int .i64 x.s :: .int .i64 x.n :: .int .i64 x.v :: cellsM l := rfl
    rw [e, show (i + 1) * 3 = i * 3 + 3 from by omega, show i * 3 + 3 + 1 = i * 3 + 1 + 3 from by omega, show i * 3 + 3 + 2 = i * 3 + 2 + 3 from by omega]
    simpa using ih
theorem cellsM_set (l : List Mk) (m : Mk) (n : Nat) : (cellsM (l ++ [m])).set (l.length * 3 + 1) (.int .i64 n) = cellsM (l ++ [⟨m.s, n, m.v⟩]) := by
  rw [cellsM_app, cellsM_app, List.set_append_right _ _ (by rw [cellsM_len]; omega), cellsM_len, show l.length * 3 + 1 - l.length * 3 = 1 from by omega]
  rfl

/-- Marks that lie in memory, in a block from N on. -/
def MksAt (w : World) (N : Nat) (A : Option Addr) (l : List Mk) : Prop :=
  ∀ (i : Nat) (m : Mk), l[i]? = some m → ∃ g, A = some ⟨g, 0, none⟩ ∧ N ≤ g ∧ g < w.heap.size ∧ w.cell? ⟨g, i * 3, none⟩ = some (.int .i64 m.s) ∧ w.cell? ⟨g, i * 3 + 1, none⟩ = some (.int .i64 m.n) ∧ w.cell? ⟨g, i * 3 + 2, none⟩ = some (.int .i64 m.v)
theorem MksAt.keep {w w' : World} {N : Nat} {A : Option Addr} {l : List Mk} {O : Nat → Prop} (h : MksAt w N A l) (hk : Keep O w w') (hd : ∀ k, N ≤ k → ¬ O k) : MksAt w' N A l := fun i m hi => by
  obtain ⟨g, e, h1, h2, h3, h4, h5⟩ := h i m hi
  have hb := hk.block g h2 (hd g h1)
  exact ⟨g, e, h1, Nat.lt_of_lt_of_le h2 hk.size, (World.cell?_of_block (w := w) (a := ⟨g, _, none⟩) hb).trans h3, (World.cell?_of_block (w := w) (a := ⟨g, _, none⟩) hb).trans h4, (World.cell?_of_block (w := w) (a := ⟨g, _, none⟩) hb).trans h5⟩
theorem MksAt.below {w w' : World} {N : Nat} {A : Option Addr} {l : List Mk} (h : MksAt w N A l) (hb : Below w.heap.size w w') : MksAt w' N A l := h.keep (Keep.of (O := fun _ => False) hb) (fun _ _ h => h)
theorem MksAt.low {w : World} {N N' : Nat} {A : Option Addr} {l : List Mk} (h : MksAt w N A l) (hN : N' ≤ N) : MksAt w N' A l := fun i m hi => by
  obtain ⟨g, e, h1, h2⟩ := h i m hi
  exact ⟨g, e, Nat.le_trans hN h1, h2⟩
def MarksPost (w : World) (l : List Mk) (e : Ending) (w' : World) : Prop := ∃ A c, e = .returned (.slice A l.length c) ∧ MksAt w' w.heap.size A l ∧ Below w.heap.size w w'

theorem owns_base {W : World} {base base' : Nat} {e : TypeId} {size n : Nat} {v : Value} {xs : List Value} (h : W.ownsRow base e size v n xs) (hb : base' ≤ base) : W.ownsRow base' e size v n xs := by
  obtain ⟨h1, h2⟩ := h
  refine ⟨h1, ?_⟩
  rcases h2 with h0 | ⟨g, cap, cur, a, b, c⟩
  · exact .inl h0
  · exact .inr ⟨g, cap, cur, a, Nat.le_trans hb b, c⟩
theorem owns_form {W : World} {base : Nat} {e : TypeId} {size : Nat} {v : Value} {k : Nat} {xs : List Value} (h : W.ownsRow base e size v k xs) : ∃ A c, v = .slice A k c := by
  rcases h.2 with ⟨rfl, rfl⟩ | ⟨g, cap, _, rfl, _⟩
  · exact ⟨none, 0, rfl⟩
  · exact ⟨_, cap, rfl⟩
theorem owns_some {W : World} {base : Nat} {e : TypeId} {size : Nat} {v : Value} {k : Nat} {xs : List Value} (h : W.ownsRow base e size v (k + 1) xs) : ∃ g cap, v = .slice (some ⟨g, 0, none⟩) (k + 1) cap ∧ base ≤ g ∧ g < W.heap.size := by
  rcases h.2 with ⟨_, h0⟩ | ⟨g, cap, cur, hv, hb, hg, _⟩
  · omega
  · exact ⟨g, cap, hv, hb, (Array.getElem?_eq_some_iff.1 hg).1⟩
theorem owns_cell {W : World} {base : Nat} {e : TypeId} {size g n cap j : Nat} {xs : List Value} {u : Value} (h : W.ownsRow base e size (.slice (some ⟨g, 0, none⟩) n cap) n xs) (hu : xs[j]? = some u) : W.cell? ⟨g, j, none⟩ = some u ∧ W.frozen? ⟨g, j, none⟩ = false := by
  rcases h.2 with ⟨h0, _⟩ | ⟨g', cap', cur, hv, _, hg, _, _, _, ht⟩
  · cases h0
  · cases hv
    refine ⟨?_, by simp [World.frozen?, hg]⟩
    have e1 : W.cell? ⟨g, j, none⟩ = cur[j]? := by simp [World.cell?, hg]
    rw [e1]
    rw [← ht, List.getElem?_take] at hu
    split at hu
    · simpa using hu
    · cases hu
theorem owns_below {w w' : World} {B e size n : Nat} {v : Value} {xs : List Value} (h : w.ownsRow B e size v n xs) (hb : Below w.heap.size w w') : w'.ownsRow B e size v n xs := by
  obtain ⟨h1, h2⟩ := h
  refine ⟨h1, ?_⟩
  rcases h2 with h0 | ⟨g, cap, cur, a, b, hg, c⟩
  · exact .inl h0
  · exact .inr ⟨g, cap, cur, a, b, by rw [hb.block g (Array.getElem?_eq_some_iff.1 hg).1]; exact hg, c⟩
theorem owns_set {W : World} {base : Nat} {e : TypeId} {size g n cap j : Nat} {xs xs' : List Value} {u : Value} (h : W.ownsRow base e size (.slice (some ⟨g, 0, none⟩) n cap) n xs) (hx : xs.set j u = xs') :
    (W.setCell ⟨g, j, none⟩ u).ownsRow base e size (.slice (some ⟨g, 0, none⟩) n cap) n xs' := by
  subst hx
  rcases h.2 with ⟨h0, _⟩ | ⟨g', cap', cur, hv, hb, hg, hn, hc, hs, ht⟩
  · cases h0
  · cases hv
    refine ⟨by rw [List.length_set]; exact h.1, .inr ⟨g, cap, cur.setIfInBounds j u, rfl, hb, ?_, hn, hc, by rw [Array.size_setIfInBounds]; exact hs, ?_⟩⟩
    · simp [World.setCell, Array.getElem?_modify, hg]
    · rw [← ht, Array.toList_setIfInBounds, List.take_set]
/-- The row's block is a row of marks. -/
theorem owns_type {W : World} {base size n : Nat} {e : TypeId} {g cap : Nat} {xs : List Value} (h : W.ownsRow base e size (.slice (some ⟨g, 0, none⟩) n cap) n xs) : ∃ cur, W.heap[g]? = some (.cells cur e (0, 0)) := by
  rcases h.2 with ⟨h0, _⟩ | ⟨g', cap', cur, hv, _, hg, _⟩
  · cases h0
  · cases hv
    exact ⟨cur, hg⟩
theorem mks_of_owns {w : World} {base : Nat} {v : Value} {l : List Mk} (h : w.ownsRow base 50 3 v l.length (cellsM l)) : ∃ A c, v = .slice A l.length c ∧ MksAt w base A l := by
  rcases h.2 with ⟨rfl, h0⟩ | ⟨g, cap, cur, rfl, hb, hg, _⟩
  · refine ⟨none, 0, by rw [h0], fun i a hi => ?_⟩
    have := (List.getElem?_eq_some_iff.1 hi).1
    omega
  · refine ⟨_, cap, rfl, fun i m hi => ⟨g, rfl, hb, (Array.getElem?_eq_some_iff.1 hg).1, ?_, ?_, ?_⟩⟩
    · exact (owns_cell h (cellsM_at _ _ _ hi).1).1
    · exact (owns_cell h (cellsM_at _ _ _ hi).2.1).1
    · exact (owns_cell h (cellsM_at _ _ _ hi).2.2).1
theorem cells3_new (w : World) (a b c : Value) (t : TypeId) : ∀ j u, [a, b, c][j]? = some u → (w.alloc (.cells #[a, b, c] t)).cell? ((⟨w.heap.size, 0, none⟩ : Addr).add j) = some u := by
  intro j u h
  have hj : j = 0 ∨ j = 1 ∨ j = 2 := by
    have := (List.getElem?_eq_some_iff.1 h).1
    simp at this
    omega
  rcases hj with rfl | rfl | rfl
  · obtain rfl : a = u := by simpa using h
    go_simp
  · obtain rfl : b = u := by simpa using h
    go_simp
  · obtain rfl : c = u := by simpa using h
    go_simp
theorem Try.info50 : (Try.prog.info? 50).map (fun i => (i.zero, i.size, i.bytes)) = some (some (.agg #[.int .i64 0, .int .i64 0, .int .i64 0]), 3, 24) := by kernel_rfl

/-- Marks as a row that grows, the last one ahead in the list. -/
def RowM (W : World) (N : Nat) (v : Value) (l : List Mk) : Prop := W.ownsRow N 50 3 v l.length (cellsM l.reverse)
section
variable {W : World} {N : Nat} {v : Value} {m : Mk} {t : List Mk}
theorem RowM.last (h : RowM W N v (m :: t)) : ∃ g c, v = .slice (some ⟨g, 0, none⟩) (t.length + 1) c ∧ N ≤ g ∧ g < W.heap.size ∧ W.cell? ⟨g, t.length * 3, none⟩ = some (.int .i64 m.s) ∧ W.cell? ⟨g, t.length * 3 + 1, none⟩ = some (.int .i64 m.n) ∧ W.cell? ⟨g, t.length * 3 + 2, none⟩ = some (.int .i64 m.v) ∧ W.frozen? ⟨g, t.length * 3 + 1, none⟩ = false := by
  have ho : W.ownsRow N 50 3 v (t.length + 1) (cellsM (m :: t).reverse) := h
  obtain ⟨g, c, rfl, hb, hg⟩ := owns_some ho
  have hat : (m :: t).reverse[t.length]? = some m := by rw [List.reverse_cons, List.getElem?_append_right (by simp)]; simp
  have h1 := cellsM_at _ _ _ hat
  exact ⟨g, c, rfl, hb, hg, (owns_cell ho h1.1).1, (owns_cell ho h1.2.1).1, (owns_cell ho h1.2.2).1, (owns_cell ho h1.2.1).2⟩
theorem RowM.more {g c : Nat} (h : RowM W N (.slice (some ⟨g, 0, none⟩) (t.length + 1) c) (m :: t)) : RowM (W.setCell ⟨g, t.length * 3 + 1, none⟩ (.int .i64 ((m.n : Int) + 1))) N (.slice (some ⟨g, 0, none⟩) (t.length + 1) c) (⟨m.s, m.n + 1, m.v⟩ :: t) := by
  refine owns_set (n := t.length + 1) (size := 3) h ?_
  rw [List.reverse_cons, List.reverse_cons]
  have := cellsM_set t.reverse m (m.n + 1)
  rw [List.length_reverse] at this
  exact this
theorem RowM.one {l : List Mk} (h : W.ownsRow N 50 3 v (l.length + 1) (cellsM l.reverse ++ [.int .i64 m.s, .int .i64 m.n, .int .i64 m.v])) : RowM W N v (m :: l) := by
  unfold RowM
  rw [List.reverse_cons, cellsM_app]
  exact h
theorem RowM.done {l : List Mk} (h : RowM W N v l) : ∃ A c, v = .slice A l.reverse.length c ∧ MksAt W N A l.reverse := mks_of_owns (by rw [List.length_reverse]; exact h)
end

end Go.Proofs.Ytdjfeibcbmelcaa
