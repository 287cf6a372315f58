/- Runs in memory. -/
import Derived.Test.YtnmejilpifmlnaaDoorLm
import Derived.Test.YtnmejilpifmlnaaDoorRa
import Derived.IntWalk
namespace Go.Proofs.YtnmejilpifmlnaaDoor
open Go.RowKit

/-- Runs that lie in memory, in a block from N on. -/
def RunsAt (w : World) (N : Nat) (A : Option Addr) (l : List (Nat × Nat)) : Prop :=
  ∀ i a b : Nat, l[i]? = some (a, b) → ∃ g, A = some ⟨g, 0, none⟩ ∧ N ≤ g ∧ g < w.heap.size ∧ w.cell? ⟨g, i * 2, none⟩ = some (.int .i64 a) ∧ w.cell? ⟨g, i * 2 + 1, none⟩ = some (.int .i64 b)
theorem RunsAt.keep {w w' : World} {N : Nat} {A : Option Addr} {l : List (Nat × Nat)} {O : Nat → Prop} (h : RunsAt w N A l) (hk : Keep O w w') (hd : ∀ k, N ≤ k → ¬ O k) : RunsAt w' N A l := fun i a b hi => by
  obtain ⟨g, e, h1, h2, h3, h4⟩ := h i a b hi
  exact ⟨g, e, h1, Nat.lt_of_lt_of_le h2 hk.size, (World.cell?_of_block (w := w) (a := ⟨g, _, none⟩) (hk.block g h2 (hd g h1))).trans h3, (World.cell?_of_block (w := w) (a := ⟨g, _, none⟩) (hk.block g h2 (hd g h1))).trans h4⟩
theorem RunsAt.below {w w' : World} {N : Nat} {A : Option Addr} {l : List (Nat × Nat)} (h : RunsAt w N A l) (hb : Below w.heap.size w w') : RunsAt w' N A l := h.keep (Keep.of (O := fun _ => False) hb) (fun _ _ h => h)
def RunsPost (w : World) (l : List (Nat × Nat)) (e : Ending) (w' : World) : Prop := ∃ A c, e = .returned (.slice A l.length c) ∧ RunsAt w' w.heap.size A l ∧ Below w.heap.size w w'

theorem owns_base {W : World} {base base' : Nat} {e : TypeId} {size n : Nat} {v : Value} {xs : List Value} (h : W.ownsRow base e size v n xs) (hb : base' ≤ base) : W.ownsRow base' e size v n xs := by
  obtain ⟨h1, h2⟩ := h
  refine ⟨h1, ?_⟩
  rcases h2 with h0 | ⟨g, cap, cur, a, b, c⟩
  · exact .inl h0
  · exact .inr ⟨g, cap, cur, a, Nat.le_trans hb b, c⟩
theorem owns_form {W : World} {base : Nat} {e : TypeId} {size : Nat} {v : Value} {k : Nat} {xs : List Value} (h : W.ownsRow base e size v k xs) : ∃ A c, v = .slice A k c := by
  rcases h.2 with ⟨rfl, rfl⟩ | ⟨g, cap, _, rfl, _⟩
  · exact ⟨none, 0, rfl⟩
  · exact ⟨_, cap, rfl⟩
theorem owns_some {W : World} {base : Nat} {e : TypeId} {size : Nat} {v : Value} {k : Nat} {xs : List Value} (h : W.ownsRow base e size v (k + 1) xs) : ∃ g cap, v = .slice (some ⟨g, 0, none⟩) (k + 1) cap ∧ base ≤ g ∧ g < W.heap.size := by
  rcases h.2 with ⟨_, h0⟩ | ⟨g, cap, cur, hv, hb, hg, _⟩
  · omega
  · exact ⟨g, cap, hv, hb, (Array.getElem?_eq_some_iff.1 hg).1⟩
theorem owns_below {w w' : World} {B e size n : Nat} {v : Value} {xs : List Value} (h : w.ownsRow B e size v n xs) (hb : Below w.heap.size w w') : w'.ownsRow B e size v n xs := by
  obtain ⟨h1, h2⟩ := h
  refine ⟨h1, ?_⟩
  rcases h2 with h0 | ⟨g, cap, cur, a, b, hg, c⟩
  · exact .inl h0
  · exact .inr ⟨g, cap, cur, a, b, by rw [hb.block g (Array.getElem?_eq_some_iff.1 hg).1]; exact hg, c⟩
/-- A cell of an owned row is written. -/
theorem owns_set {W : World} {base : Nat} {e : TypeId} {size g n cap j : Nat} {xs xs' : List Value} {u : Value} (h : W.ownsRow base e size (.slice (some ⟨g, 0, none⟩) n cap) n xs) (hx : xs.set j u = xs') : 
    (W.setCell ⟨g, j, none⟩ u).ownsRow base e size (.slice (some ⟨g, 0, none⟩) n cap) n xs' := by
  subst hx
  rcases h.2 with ⟨h0, _⟩ | ⟨g', cap', cur, hv, hb, hg, hn, hc, hs, ht⟩
  · cases h0
  · cases hv
    refine ⟨by rw [List.length_set]; exact h.1, .inr ⟨g, cap, cur.setIfInBounds j u, rfl, hb, ?_, hn, hc, by rw [Array.size_setIfInBounds]; exact hs, ?_⟩⟩
    · simp [World.setCell, Array.getElem?_modify, hg]
    · rw [← ht, Array.toList_setIfInBounds, List.take_set]
theorem runs_of_owns {w : World} {base : Nat} {v : Value} {l : List (Nat × Nat)} (h : w.ownsRow base 92 2 v l.length (cellsR l)) : ∃ A c, v = .slice A l.length c ∧ RunsAt w base A l := by
  rcases h.2 with ⟨rfl, h0⟩ | ⟨g, cap, cur, rfl, hb, hg, _⟩
  · refine ⟨none, 0, by rw [h0], fun i a b hi => ?_⟩
    have := (List.getElem?_eq_some_iff.1 hi).1
    omega
  · refine ⟨_, cap, rfl, fun i a b hi => ⟨g, rfl, hb, (Array.getElem?_eq_some_iff.1 hg).1, ?_, ?_⟩⟩
    · exact (owns_cell h (cellsR_at _ _ _ _ hi).1).1
    · exact (owns_cell h (cellsR_at _ _ _ _ hi).2).1
theorem cells2_new (w : World) (a b : Value) (t : TypeId) : ∀ j u, [a, b][j]? = some u → (w.alloc (.cells #[a, b] t)).cell? ((⟨w.heap.size, 0, none⟩ : Addr).add j) = some u := by
  intro j u h
  have hj : j = 0 ∨ j = 1 := by
    have := (List.getElem?_eq_some_iff.1 h).1
    simp at this
    omega
  rcases hj with rfl | rfl
  · obtain rfl : a = u := by simpa using h
    go_simp
  · obtain rfl : b = u := by simpa using h
    go_simp

theorem Tryd.info92 : (Tryd.prog.info? 92).map (fun i => (i.zero, i.size, i.bytes)) = some (some (.agg #[.int .i64 0, .int .i64 0]), 2, 16) := by kernel_rfl

/-- What Runs has made after some pages. -/
structure RunsIn (w wr : World) (st : Nat → Int) (s : Int) (k : Nat) (v : Value) : Prop where
  own : wr.ownsRow w.heap.size 92 2 v (rr st s k).length (cellsR (rr st s k).reverse)
  bel : Below w.heap.size w wr
theorem RunsIn.then {w wr w1 : World} {st : Nat → Int} {s : Int} {k : Nat} {v : Value} (h : RunsIn w wr st s k v) (hb : Below wr.heap.size wr w1) : RunsIn w w1 st s k v :=
  ⟨owns_below h.own hb, btr h.bel hb (Nat.le_refl _)⟩
theorem RunsIn.skip {w wr : World} {st : Nat → Int} {s : Int} {k : Nat} {v : Value} (h : RunsIn w wr st s k v) (hs : st k ≠ s) : RunsIn w wr st s (k + 1) v := by
  have e : rr st s (k + 1) = rr st s k := if_neg hs
  exact ⟨by rw [e]; exact h.own, h.bel⟩
theorem RunsIn.form {w wr : World} {st : Nat → Int} {s : Int} {k : Nat} {v : Value} (h : RunsIn w wr st s k v) : ∃ A c, v = .slice A (rr st s k).length c := owns_form h.own
theorem RunsIn.done {w wr : World} {st : Nat → Int} {s : Int} {n : Nat} {v : Value} (h : RunsIn w wr st s n v) : RunsPost w (runsL st s n) (.returned v) wr := by
  have hl : (runsL st s n).length = (rr st s n).length := List.length_reverse
  have ho := h.own
  rw [← hl] at ho
  obtain ⟨A, c, rfl, hr⟩ := runs_of_owns ho
  exact ⟨A, c, rfl, hr, h.bel⟩
/-- The last run, as it lies in memory. -/
theorem RunsIn.last {w wr : World} {st : Nat → Int} {s : Int} {k a b : Nat} {t : List (Nat × Nat)} {v : Value} (h : RunsIn w wr st s k v) (hr : rr st s k = (a, b) :: t) :
    ∃ g c, v = .slice (some ⟨g, 0, none⟩) (t.length + 1) c ∧ w.heap.size ≤ g ∧ g < wr.heap.size ∧ wr.cell? ⟨g, t.length * 2, none⟩ = some (.int .i64 a) ∧ wr.cell? ⟨g, t.length * 2 + 1, none⟩ = some (.int .i64 b) ∧ wr.frozen? ⟨g, t.length * 2 + 1, none⟩ = false := by
  have ho := h.own
  rw [hr] at ho
  obtain ⟨g, c, rfl, hb, hg⟩ := owns_some (k := t.length) ho
  have hat : ((a, b) :: t).reverse[t.length]? = some (a, b) := by rw [List.reverse_cons, List.getElem?_append_right (by simp)]; simp
  have h1 := owns_cell ho (cellsR_at _ _ _ _ hat).1
  have h2 := owns_cell ho (cellsR_at _ _ _ _ hat).2
  exact ⟨g, c, rfl, hb, hg, h1.1, h2.1, h2.2⟩
/-- One page more in the last run. -/
theorem RunsIn.more {w wr : World} {st : Nat → Int} {s : Int} {k a b g c : Nat} {t : List (Nat × Nat)} (h : RunsIn w wr st s k (.slice (some ⟨g, 0, none⟩) (t.length + 1) c)) (hr : rr st s k = (a, b) :: t) (hs : st k = s) (hk : a + b = k) (hg : w.heap.size ≤ g) :
    RunsIn w (wr.setCell ⟨g, t.length * 2 + 1, none⟩ (.int .i64 ((b : Int) + 1))) st s (k + 1) (.slice (some ⟨g, 0, none⟩) (t.length + 1) c) := by
  have e : rr st s (k + 1) = (a, b + 1) :: t := by
    show (if st k = s then addR (rr st s k) k else rr st s k) = _
    rw [if_pos hs, hr, addR_cons, if_pos hk]
  refine ⟨?_, h.bel.setCell (p := ⟨g, _, none⟩) hg _⟩
  have ho := h.own
  rw [hr] at ho
  rw [e]
  refine owns_set (n := t.length + 1) (size := 2) ho ?_
  rw [List.reverse_cons, List.reverse_cons]
  have := cellsR_set t.reverse a b
  rw [List.length_reverse] at this
  exact this
theorem RunsIn.one {w wr : World} {st : Nat → Int} {s : Int} {k : Nat} {v : Value} (h : wr.ownsRow w.heap.size 92 2 v ((rr st s k).length + 1) (cellsR (rr st s k).reverse ++ [.int .i64 k, .int .i64 1])) (hb : Below w.heap.size w wr) (hs : st k = s) (hn : ∀ a b t, rr st s k = (a, b) :: t → a + b ≠ k) :
    RunsIn w wr st s (k + 1) v := by
  have e : rr st s (k + 1) = (k, 1) :: rr st s k := by
    show (if st k = s then addR (rr st s k) k else rr st s k) = _
    rw [if_pos hs]
    cases hr : rr st s k with
    | nil => rfl
    | cons x t =>
      obtain ⟨a, b⟩ := x
      rw [addR_cons, if_neg (hn a b t hr)]
  refine ⟨?_, hb⟩
  rw [e, List.reverse_cons, cellsR_app]
  exact h

/-- Which pages are free, as states. -/
def stF (F : Nat → Bool) (p : Nat) : Int := if F p = true then 1 else 0
theorem stF_t {F : Nat → Bool} {p : Nat} (h : F p = true) : stF F p = 1 := if_pos h
theorem stF_f {F : Nat → Bool} {p : Nat} (h : F p = false) : stF F p ≠ 1 := by unfold stF; rw [h]; decide
/-- The maximal runs of free pages. -/
def Mo.rs (m : Mo) : List (Nat × Nat) := runsL (stF m.F) 1 m.n

theorem rr_gap {F : Nat → Bool} {k : Nat} (h : k = 0 ∨ F (k - 1) = false) : ∀ a b t, rr (stF F) 1 k = (a, b) :: t → a + b ≠ k := by
  intro a b t hr e
  have hok := rr_ok (stF F) 1 k
  rw [hr] at hok
  obtain ⟨h1, h2, h3, _⟩ := hok
  rcases h with h0 | h0
  · omega
  · exact stF_f h0 (h3 (k - 1) (by omega) (by omega))
theorem rr_run {F : Nat → Bool} {k : Nat} (h : k = 0 ∨ F (k - 1) = false) : ∀ d, (∀ p, k ≤ p → p < k + (d + 1) → F p = true) → rr (stF F) 1 (k + (d + 1)) = (k, d + 1) :: rr (stF F) 1 k
  | 0, hf => by
    show (if stF F k = 1 then addR (rr (stF F) 1 k) k else _) = _
    rw [if_pos (stF_t (hf k (by omega) (by omega)))]
    cases hr : rr (stF F) 1 k with
    | nil => rfl
    | cons x t =>
      obtain ⟨a, b⟩ := x
      rw [addR_cons, if_neg (rr_gap h a b t hr)]
  | d + 1, hf => by
    have ih := rr_run h d (fun p p1 p2 => hf p p1 (by omega))
    show (if stF F (k + (d + 1)) = 1 then addR (rr (stF F) 1 (k + (d + 1))) (k + (d + 1)) else _) = _
    rw [if_pos (stF_t (hf _ (by omega) (by omega))), ih, addR_cons, if_pos rfl]
theorem rr_off {F : Nat → Bool} {k : Nat} (h : F k = false) : rr (stF F) 1 (k + 1) = rr (stF F) 1 k := if_neg (stF_f h)

theorem RunsIn.push {w wr : World} {F : Nat → Bool} {k r : Nat} {v : Value} (h : k = 0 ∨ F (k - 1) = false) (hkr : k < r) (hf : ∀ p, k ≤ p → p < r → F p = true) (ho : wr.ownsRow w.heap.size 92 2 v ((rr (stF F) 1 k).length + 1) (cellsR (rr (stF F) 1 k).reverse ++ [.int .i64 k, .int .i64 ((r : Int) - (k : Int))])) (hb : Below w.heap.size w wr) :
    RunsIn w wr (stF F) 1 r v := by
  obtain ⟨d, rfl⟩ : ∃ d, r = k + (d + 1) := ⟨r - k - 1, by omega⟩
  have e := rr_run h d hf
  refine ⟨?_, hb⟩
  rw [e, List.reverse_cons, cellsR_app]
  have e2 : (((k + (d + 1) : Nat) : Int) - (k : Int)) = ((d + 1 : Nat) : Int) := by omega
  rw [e2] at ho
  exact ho

end Go.Proofs.YtnmejilpifmlnaaDoor
