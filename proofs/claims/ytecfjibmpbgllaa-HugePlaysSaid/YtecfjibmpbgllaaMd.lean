/- Lists of numbers and of runs in memory. -/
import Derived.Test.YtecfjibmpbgllaaLb
import Derived.IntWalk
import Derived.Maps.AppendAt
namespace Go.Proofs.Ytecfjibmpbgllaa
open Go.RowKit

def cellsR (l : List (Nat × Nat)) : List Value := l.flatMap fun r => [.int .i64 r.1, .int .i64 r.2]
theorem cellsR_len (l : List (Nat × Nat)) : (cellsR l).length = l.length * 2 := by
  induction l with
  | nil => rfl
  | cons x t ih => simp [cellsR] at ih ⊢; omega
theorem cellsR_app (l k : List (Nat × Nat)) : cellsR (l ++ k) = cellsR l ++ cellsR k := by simp [cellsR]
theorem cellsR_at : ∀ (l : List (Nat × Nat)) (i a b : Nat), l[i]? = some (a, b) → (cellsR l)[i * 2]? = some (.int .i64 a) ∧ (cellsR l)[i * 2 + 1]? = some (.int .i64 b)
  | [], i, a, b, h => by simp at h
  | x :: t, 0, a, b, h => by
    simp at h
    subst h
    exact ⟨rfl, rfl⟩
  | x :: t, i + 1, a, b, h => by
    obtain ⟨h1, h2⟩ := cellsR_at t i a b (by simpa using h)
    have e : cellsR (x :: t) = .int .i64 x.1 :: .int .i64 x.2 :: cellsR t := rfl
    rw [e, show (i + 1) * 2 = i * 2 + 1 + 1 from by omega]
    exact ⟨by simpa using h1, by simpa using h2⟩
theorem cellsR_one (l : List (Nat × Nat)) : ∀ u ∈ cellsR l, u.oneCell' = true := by
  intro u hu
  unfold cellsR at hu
  rw [List.mem_flatMap] at hu
  obtain ⟨r, _, hr⟩ := hu
  simp at hr
  rcases hr with rfl | rfl <;> rfl
/-- Runs that lie in memory, in a block from N on. -/
def RunsAt (w : World) (N : Nat) (A : Option Addr) (l : List (Nat × Nat)) : Prop :=
  ∀ i a b : Nat, l[i]? = some (a, b) → ∃ g, A = some ⟨g, 0, none⟩ ∧ N ≤ g ∧ g < w.heap.size ∧ w.cell? ⟨g, i * 2, none⟩ = some (.int .i64 a) ∧ w.cell? ⟨g, i * 2 + 1, none⟩ = some (.int .i64 b)
theorem RunsAt.keep {w w' : World} {N : Nat} {A : Option Addr} {l : List (Nat × Nat)} {O : Nat → Prop} (h : RunsAt w N A l) (hk : Keep O w w') (hd : ∀ k, N ≤ k → ¬ O k) : RunsAt w' N A l := fun i a b hi => by
  obtain ⟨g, e, h1, h2, h3, h4⟩ := h i a b hi
  exact ⟨g, e, h1, Nat.lt_of_lt_of_le h2 hk.size, (World.cell?_of_block (w := w) (a := ⟨g, _, none⟩) (hk.block g h2 (hd g h1))).trans h3, (World.cell?_of_block (w := w) (a := ⟨g, _, none⟩) (hk.block g h2 (hd g h1))).trans h4⟩
theorem RunsAt.below {w w' : World} {N : Nat} {A : Option Addr} {l : List (Nat × Nat)} (h : RunsAt w N A l) (hb : Below w.heap.size w w') : RunsAt w' N A l := h.keep (Keep.of (O := fun _ => False) hb) (fun _ _ h => h)
def RunsPost (w : World) (l : List (Nat × Nat)) (e : Ending) (w' : World) : Prop := ∃ A c, e = .returned (.slice A l.length c) ∧ RunsAt w' w.heap.size A l ∧ Below w.heap.size w w'

theorem owns_base {W : World} {base base' : Nat} {e : TypeId} {size n : Nat} {v : Value} {xs : List Value} (h : W.ownsRow base e size v n xs) (hb : base' ≤ base) : W.ownsRow base' e size v n xs := by
  obtain ⟨h1, h2⟩ := h
  refine ⟨h1, ?_⟩
  rcases h2 with h0 | ⟨g, cap, cur, a, b, c⟩
  · exact .inl h0
  · exact .inr ⟨g, cap, cur, a, Nat.le_trans hb b, c⟩
theorem owns_form {W : World} {base : Nat} {e : TypeId} {size : Nat} {v : Value} {k : Nat} {xs : List Value} (h : W.ownsRow base e size v k xs) : ∃ A c, v = .slice A k c := by
  rcases h.2 with ⟨rfl, rfl⟩ | ⟨g, cap, _, rfl, _⟩
  · exact ⟨none, 0, rfl⟩
  · exact ⟨_, cap, rfl⟩
theorem owns_some {W : World} {base : Nat} {e : TypeId} {size : Nat} {v : Value} {k : Nat} {xs : List Value} (h : W.ownsRow base e size v (k + 1) xs) : ∃ g cap, v = .slice (some ⟨g, 0, none⟩) (k + 1) cap ∧ base ≤ g ∧ g < W.heap.size := by
  rcases h.2 with ⟨_, h0⟩ | ⟨g, cap, cur, hv, hb, hg, _⟩
  · omega
  · exact ⟨g, cap, hv, hb, (Array.getElem?_eq_some_iff.1 hg).1⟩
theorem owns_cell {W : World} {base : Nat} {e : TypeId} {size g n cap j : Nat} {xs : List Value} {u : Value} (h : W.ownsRow base e size (.slice (some ⟨g, 0, none⟩) n cap) n xs) (hu : xs[j]? = some u) : W.cell? ⟨g, j, none⟩ = some u ∧ W.frozen? ⟨g, j, none⟩ = false := by
  rcases h.2 with ⟨h0, _⟩ | ⟨g', cap', cur, hv, _, hg, _, _, _, ht⟩
  · cases h0
  · cases hv
    refine ⟨?_, by simp [World.frozen?, hg]⟩
    have e1 : W.cell? ⟨g, j, none⟩ = cur[j]? := by simp [World.cell?, hg]
    rw [e1]
    rw [← ht, List.getElem?_take] at hu
    split at hu
    · simpa using hu
    · cases hu
theorem owns_below {w w' : World} {B e size n : Nat} {v : Value} {xs : List Value} (h : w.ownsRow B e size v n xs) (hb : Below w.heap.size w w') : w'.ownsRow B e size v n xs := by
  obtain ⟨h1, h2⟩ := h
  refine ⟨h1, ?_⟩
  rcases h2 with h0 | ⟨g, cap, cur, a, b, hg, c⟩
  · exact .inl h0
  · exact .inr ⟨g, cap, cur, a, b, by rw [hb.block g (Array.getElem?_eq_some_iff.1 hg).1]; exact hg, c⟩
/-- A cell of an owned row is written. -/
theorem owns_set {W : World} {base : Nat} {e : TypeId} {size g n cap j : Nat} {xs xs' : List Value} {u : Value} (h : W.ownsRow base e size (.slice (some ⟨g, 0, none⟩) n cap) n xs) (hx : xs.set j u = xs') : 
    (W.setCell ⟨g, j, none⟩ u).ownsRow base e size (.slice (some ⟨g, 0, none⟩) n cap) n xs' := by
  subst hx
  rcases h.2 with ⟨h0, _⟩ | ⟨g', cap', cur, hv, hb, hg, hn, hc, hs, ht⟩
  · cases h0
  · cases hv
    refine ⟨by rw [List.length_set]; exact h.1, .inr ⟨g, cap, cur.setIfInBounds j u, rfl, hb, ?_, hn, hc, by rw [Array.size_setIfInBounds]; exact hs, ?_⟩⟩
    · simp [World.setCell, Array.getElem?_modify, hg]
    · rw [← ht, Array.toList_setIfInBounds, List.take_set]
theorem runs_of_owns {w : World} {base : Nat} {v : Value} {l : List (Nat × Nat)} (h : w.ownsRow base 55 2 v l.length (cellsR l)) : ∃ A c, v = .slice A l.length c ∧ RunsAt w base A l := by
  rcases h.2 with ⟨rfl, h0⟩ | ⟨g, cap, cur, rfl, hb, hg, _⟩
  · refine ⟨none, 0, by rw [h0], fun i a b hi => ?_⟩
    have := (List.getElem?_eq_some_iff.1 hi).1
    omega
  · refine ⟨_, cap, rfl, fun i a b hi => ⟨g, rfl, hb, (Array.getElem?_eq_some_iff.1 hg).1, ?_, ?_⟩⟩
    · exact (owns_cell h (cellsR_at _ _ _ _ hi).1).1
    · exact (owns_cell h (cellsR_at _ _ _ _ hi).2).1
theorem cells2_new (w : World) (a b : Value) (t : TypeId) : ∀ j u, [a, b][j]? = some u → (w.alloc (.cells #[a, b] t)).cell? ((⟨w.heap.size, 0, none⟩ : Addr).add j) = some u := by
  intro j u h
  have hj : j = 0 ∨ j = 1 := by
    have := (List.getElem?_eq_some_iff.1 h).1
    simp at this
    omega
  rcases hj with rfl | rfl
  · obtain rfl : a = u := by simpa using h
    go_simp
  · obtain rfl : b = u := by simpa using h
    go_simp

/-- The numbers of a list as cells. -/
def natC (l : List Nat) : List Value := l.map fun (x : Nat) => Value.int .i64 (x : Int)

/-- Numbers that lie in memory, in a block from N on. -/
def NatsAt (w : World) (N : Nat) (A : Option Addr) (l : List Nat) : Prop := ∀ i x : Nat, l[i]? = some x → ∃ g, A = some ⟨g, 0, none⟩ ∧ N ≤ g ∧ g < w.heap.size ∧ w.cell? ⟨g, i, none⟩ = some (.int .i64 x)
theorem NatsAt.keep {w w' : World} {N : Nat} {A : Option Addr} {l : List Nat} {O : Nat → Prop} (h : NatsAt w N A l) (hk : Keep O w w') (hd : ∀ k, N ≤ k → ¬ O k) : NatsAt w' N A l := fun i x hi => by
  obtain ⟨g, e, h1, h2, h3⟩ := h i x hi
  exact ⟨g, e, h1, Nat.lt_of_lt_of_le h2 hk.size, (World.cell?_of_block (w := w) (a := ⟨g, _, none⟩) (hk.block g h2 (hd g h1))).trans h3⟩
theorem NatsAt.below {w w' : World} {N : Nat} {A : Option Addr} {l : List Nat} (h : NatsAt w N A l) (hb : Below w.heap.size w w') : NatsAt w' N A l := h.keep (Keep.of (O := fun _ => False) hb) (fun _ _ h => h)
theorem NatsAt.nil (w : World) (N : Nat) : NatsAt w N none [] := fun i x h => by simp at h
def NatsPost (w : World) (l : List Nat) (e : Ending) (w' : World) : Prop := ∃ A c, e = .returned (.slice A l.length c) ∧ NatsAt w' w.heap.size A l ∧ Below w.heap.size w w'

theorem nats_of_owns {w : World} {base : Nat} {v : Value} {l : List Nat} (h : w.ownsRow base 3 1 v l.length (natC l)) : ∃ A c, v = .slice A l.length c ∧ NatsAt w base A l := by
  rcases h.2 with ⟨rfl, h0⟩ | ⟨g, cap, cur, rfl, hb, hg, _⟩
  · refine ⟨none, 0, by rw [h0], fun i x hi => ?_⟩
    have := (List.getElem?_eq_some_iff.1 hi).1
    omega
  · refine ⟨_, cap, rfl, fun i x hi => ⟨g, rfl, hb, (Array.getElem?_eq_some_iff.1 hg).1, (owns_cell h ?_).1⟩⟩
    unfold natC
    rw [List.getElem?_map, hi]
    rfl


theorem cells1_new (w : World) (a : Value) (t : TypeId) : ∀ j u, [a][j]? = some u → (w.alloc (.cells #[a] t)).cell? ((⟨w.heap.size, 0, none⟩ : Addr).add j) = some u := by
  intro j u h
  obtain rfl : j = 0 := by
    have := (List.getElem?_eq_some_iff.1 h).1
    simp at this
    omega
  obtain rfl : a = u := by simpa using h
  go_simp

theorem Try.info3 : (Try.prog.info? 3).map (fun i => (i.zero, i.size, i.bytes)) = some (some (.int .i64 0), 1, 8) := by kernel_rfl
theorem Try.info55 : (Try.prog.info? 55).map (fun i => (i.zero, i.size, i.bytes)) = some (some (.agg #[.int .i64 0, .int .i64 0]), 2, 16) := by kernel_rfl
theorem natC_app (l : List Nat) (x : Nat) : natC (l ++ [x]) = natC l ++ [.int .i64 (x : Int)] := by simp [natC]

end Go.Proofs.Ytecfjibmpbgllaa
