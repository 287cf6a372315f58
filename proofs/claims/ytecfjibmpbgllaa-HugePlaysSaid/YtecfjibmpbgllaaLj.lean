/- Package huge: what the loops of Plan keep. -/
import Derived.Test.YtecfjibmpbgllaaLi
namespace Go.Proofs.Ytecfjibmpbgllaa
open Go.RowKit Go.Shelf

/-- A run within a huge page. -/
abbrev Rn := { x : Nat × Nat // x.2 ≤ 16 }
def encN : Rn → Array Value := fun x => encR x.1

theorem runs_stops (n : Nat) {O : Nat → Prop} {B A cap : Nat} {m : Mo} {b1 b2 g : Nat} (hg : g < m.h) (w : World) (hI : ItIn w O B A cap m b1 b2 g) :
    SeqStopsK Fence.wide n Try.prog 78 #[.pointer (some ⟨b1, 0, none⟩), .pointer (some ⟨b2, 0, none⟩)] encN (KpI O B A cap m b1 b2 g) (fun ys => ys.map (·.1) = rs m.S (16 * g) 16 0) (fun pre => pre.map (·.1) <+: rs m.S (16 * g) 16 0) 17 w := fun l J Jx W hW hJ _ hY h0 => by
  have := runs_in n l hg (fun s W => ∃ la : List Rn, la.map (·.1) = s ∧ J la W) (fun s W => ∃ la : List Rn, la.map (·.1) = s ∧ Jx la W)
    (fun s A B hs hb => by obtain ⟨la, e, h⟩ := hs; exact ⟨la, e, hJ la A B none h (grown_of hb none) (fun _ h => by cases h)⟩)
    (fun pre x W hx hj hl => by
      obtain ⟨la, e, h⟩ := hj
      refine (hY la ⟨x, hx⟩ W h (by have := congrArg List.length e; rw [List.length_map] at this; omega)).mono fun e' W' hp => ?_
      rcases hp with ⟨q1, q2, q3⟩ | ⟨q1, q2⟩
      · exact .inl ⟨q1, ⟨_, by rw [List.map_append, e]; rfl, q2⟩, q3⟩
      · exact .inr ⟨q1, ⟨_, by rw [List.map_append, e]; rfl, q2⟩⟩) W (hI.below hW) ⟨[], rfl, h0⟩
  refine this.mono fun e W' hp => ⟨hp.1, ?_⟩
  rcases hp.2 with ⟨ys, e1, la, e2, h⟩ | ⟨pre, e1, la, e2, h⟩
  · exact .inl ⟨la, e2.trans e1, h⟩
  · exact .inr ⟨la, by subst e2; exact e1, h⟩

/-- How many pages runs have. -/
def sumR (l : List (Nat × Nat)) : Nat := (l.map (·.2)).foldr (· + ·) 0
theorem sumR_nil : sumR [] = 0 := rfl
theorem sumR_cons (x : Nat × Nat) (l : List (Nat × Nat)) : sumR (x :: l) = x.2 + sumR l := rfl
theorem sumR_app (l k : List (Nat × Nat)) : sumR (l ++ k) = sumR l + sumR k := by
  induction l with
  | nil => simp [sumR]
  | cons x t ih => rw [List.cons_append, sumR_cons, sumR_cons, ih]; omega
theorem sumR_le (l : List Rn) : sumR (l.map (·.1)) ≤ 16 * l.length := by
  induction l with
  | nil => exact Nat.le_refl _
  | cons x t ih => rw [List.map_cons, sumR_cons, List.length_cons]; have := x.2; omega

theorem pl_app {w : Int} : ∀ {a b : List (Nat × Nat)} {c : Nat}, pl w a c = a → pl w (a ++ b) c = a ++ pl w b (c + sumR a)
  | [], b, c, _ => rfl
  | r :: t, b, c, h => by
    show (if w ≤ c then [] else r :: pl w (t ++ b) (c + r.2)) = r :: (t ++ pl w b (c + (r.2 + sumR t)))
    have h' : (if w ≤ c then [] else r :: pl w t (c + r.2)) = r :: t := h
    by_cases e : w ≤ c
    · rw [if_pos e] at h'; cases h'
    · rw [if_neg e] at h' ⊢
      injection h' with _ h2
      rw [pl_app h2, Nat.add_assoc]
theorem pl_stop {w : Int} {c : Nat} (h : w ≤ c) : ∀ b, pl w b c = []
  | [] => rfl
  | _ :: _ => if_pos h
theorem pl_one {w : Int} {c : Nat} (h : ¬ w ≤ c) (x : Nat × Nat) : pl w [x] c = [x] := if_neg h
theorem pl_snoc {w : Int} {a : List (Nat × Nat)} {c : Nat} {x : Nat × Nat} (h : pl w a c = a) (hx : ¬ w ≤ (c + sumR a : Nat)) : pl w (a ++ [x]) c = a ++ [x] := by
  rw [pl_app h, pl_one hx]
theorem allR_cons (S : Nat → Nat) (k : Nat) (l : List Nat) : allR S (k :: l) = rs S (16 * k) 16 0 ++ allR S l := by simp [allR]

/-- Where the boxes of Plan lie. -/
structure Cs (w : World) (O : Nat → Prop) (M Z3 Z6 Z7 : Nat) : Prop where
  o : ∀ x, O x → x < w.heap.size
  l3 : w.heap.size ≤ Z3
  l6 : w.heap.size ≤ Z6
  l7 : w.heap.size ≤ Z7
  m3 : Z3 < M
  m6 : Z6 < M
  m7 : Z7 < M
  n36 : Z3 ≠ Z6
  n37 : Z3 ≠ Z7
  n67 : Z6 ≠ Z7

/-- The candidates in memory. -/
def CaAt (M Z6 Z7 : Nat) (A : Option Addr) (L : List Nat) (W : World) : Prop := ∀ i x : Nat, L[i]? = some x → ∃ g, A = some ⟨g, 0, none⟩ ∧ g < M ∧ g ≠ Z6 ∧ g ≠ Z7 ∧ g < W.heap.size ∧ W.cell? ⟨g, i, none⟩ = some (.int .i64 x)

/-- What the loops of Plan keep: the tracker, what was wanted, how many pages the runs have. -/
structure PlR (w : World) (O : Nat → Prop) (B A cap : Nat) (m : Mo) (want : Int) (M Z3 Z6 Z7 : Nat) (Ac : Option Addr) (L : List Nat) (c : Nat) (W : World) : Prop where
  tk : TkA W O B A cap m
  x3 : Boxed W Z3 3 (.int .i64 want)
  x7 : Boxed W Z7 3 (.int .i64 c)
  ca : CaAt M Z6 Z7 Ac L W
  bel : Below w.heap.size w W
  hM : M ≤ W.heap.size
/-- The runs so far. -/
def PlV (M Z6 : Nat) (l : List (Nat × Nat)) (W : World) : Prop := ∃ v, Boxed W Z6 50 v ∧ W.ownsRow M 55 2 v l.length (cellsR l) ∧ True

section
variable {w : World} {O : Nat → Prop} {B A cap : Nat} {m : Mo} {want : Int} {M Z3 Z6 Z7 : Nat} {Ac : Option Addr} {L : List Nat} {c : Nat} {W W' : World}
theorem PlR.keep (h : PlR w O B A cap m want M Z3 Z6 Z7 Ac L c W) (hc : Cs w O M Z3 Z6 Z7) (hk : Keep (fun x => x = Z6 ∨ M ≤ x) W W') : PlR w O B A cap m want M Z3 Z6 Z7 Ac L c W' := by
  have hb : ∀ i, i < M → i ≠ Z6 → i < W.heap.size → W'.heap[i]? = W.heap[i]? := fun i h1 h2 h3 => hk.block i h3 (fun hx => by rcases hx with hx | hx; exact h2 hx; omega)
  refine ⟨h.tk.keep hk (fun x hx hy => ?_), (hb _ hc.m3 hc.n36 h.x3.lt).trans h.x3, (hb _ hc.m7 (fun e => hc.n67 e.symm) h.x7.lt).trans h.x7, fun i x hi => ?_, ?_, Nat.le_trans h.hM hk.size⟩
  · have := hc.o x hx
    have := hc.l6
    have := hc.m6
    rcases hy with hy | hy <;> omega
  · obtain ⟨g, e, h1, h2, h3, h4, h5⟩ := h.ca i x hi
    exact ⟨g, e, h1, h2, h3, Nat.lt_of_lt_of_le h4 hk.size, (World.cell?_of_block (w := W) (a := ⟨g, _, none⟩) (hb g h1 h2 h4)).trans h5⟩
  · have := hc.l6
    have := hc.m6
    exact ⟨hk.os.trans h.bel.os, hk.tape.trans h.bel.tape, hk.output.trans h.bel.output, Nat.le_trans h.bel.size hk.size, fun i hi => (hb i (by omega) (by omega) (Nat.lt_of_lt_of_le hi h.bel.size)).trans (h.bel.block i hi)⟩
theorem PlR.below (h : PlR w O B A cap m want M Z3 Z6 Z7 Ac L c W) (hc : Cs w O M Z3 Z6 Z7) (hb : Below W.heap.size W W') : PlR w O B A cap m want M Z3 Z6 Z7 Ac L c W' :=
  h.keep hc ⟨hb.os, hb.tape, hb.output, hb.size, fun i hi _ => hb.block i hi⟩
theorem PlV.below {l : List (Nat × Nat)} (h : PlV M Z6 l W) (hb : Below W.heap.size W W') : PlV M Z6 l W' := by
  obtain ⟨v, h1, h2, h3⟩ := h
  exact ⟨v, (hb.block _ h1.lt).trans h1, owns_below h2 hb, h3⟩
/-- The count is written. -/
theorem PlR.count (h : PlR w O B A cap m want M Z3 Z6 Z7 Ac L c W) (hc : Cs w O M Z3 Z6 Z7) (c' : Nat) : PlR w O B A cap m want M Z3 Z6 Z7 Ac L c' (W.setCell ⟨Z7, 0, none⟩ (.int .i64 c')) := by
  have hb : ∀ i, i ≠ Z7 → (W.setCell ⟨Z7, 0, none⟩ (.int .i64 c')).heap[i]? = W.heap[i]? := fun i hi => Below.heap_setCell _ _ _ _ hi
  refine ⟨h.tk.keep (O1 := fun x => x = Z7) ((Keep.refl (fun x => x = Z7) W).set (a := ⟨Z7, 0, none⟩) (.inl rfl) _) (fun x hx hy => ?_), h.x3.other hc.n37 _, h.x7.set _, fun i x hi => ?_, h.bel.setCell (p := ⟨Z7, 0, none⟩) hc.l7 _, by rw [World.size_setCell]; exact h.hM⟩
  · have := hc.o x hx
    have := hc.l7
    omega
  · obtain ⟨g, e, h1, h2, h3, h4, h5⟩ := h.ca i x hi
    exact ⟨g, e, h1, h2, h3, by rw [World.size_setCell]; exact h4, (World.cell?_of_block (w := W) (a := ⟨g, _, none⟩) (hb g h3)).trans h5⟩
theorem PlV.count {l : List (Nat × Nat)} (h : PlV M Z6 l W) (hc : Cs w O M Z3 Z6 Z7) (u : Value) : PlV M Z6 l (W.setCell ⟨Z7, 0, none⟩ u) := by
  obtain ⟨v, h1, h2, h3⟩ := h
  refine ⟨v, h1.other hc.n67 _, h2.kept (grownBy_setCell' W Z7 u) ?_, h3⟩
  rcases h2.2 with ⟨rfl, _⟩ | ⟨g, cap, cur, rfl, hb, _⟩
  · exact .inl rfl
  · refine .inr fun e => ?_
    have := hc.m7
    simp [Value.ownBlock] at e
    omega
/-- One run more. -/
theorem PlR.push {v v' : Value} {l : List (Nat × Nat)} {tmp : Obj} {w1 : World} {x : Nat × Nat} (h : PlR w O B A cap m want M Z3 Z6 Z7 Ac L c W) (hc : Cs w O M Z3 Z6 Z7) (hv : Boxed W Z6 50 v) (hrow : W.ownsRow M 55 2 v l.length (cellsR l))
    (hown : w1.ownsRow M 55 2 v' (l.length + 1) (cellsR l ++ [.int .i64 x.1, .int .i64 x.2])) (hgrow : (W.alloc tmp).grownBy w1 v.ownBlock) :
    PlR w O B A cap m want M Z3 Z6 Z7 Ac L c (w1.setCell ⟨Z6, 0, none⟩ v') ∧ PlV M Z6 (l ++ [x]) (w1.setCell ⟨Z6, 0, none⟩ v') ∧ KeepsOthers W (w1.setCell ⟨Z6, 0, none⟩ v') ∧ Keep (fun x => x = Z6 ∨ M ≤ x) W (w1.setCell ⟨Z6, 0, none⟩ v') ∧
      (∀ (b : Nat) (t : TypeId) (u : Value), t ≠ 55 → b ≠ Z6 → Boxed W b t u → Boxed (w1.setCell ⟨Z6, 0, none⟩ v') b t u) ∧ Boxed w1 Z6 50 v := by
  have hv1 : Boxed w1 Z6 50 v := (hv.alloc tmp).kept hgrow (hv.not_row (by decide) hrow)
  have hsz : W.heap.size ≤ w1.heap.size := Nat.le_trans (by simp) hgrow.size
  have hkp : Keep (fun x => x = Z6 ∨ M ≤ x) W (w1.setCell ⟨Z6, 0, none⟩ v') := by
    refine ⟨hgrow.os, hgrow.tape, hgrow.output, by rw [World.size_setCell]; exact hsz, fun i hi hn => ?_⟩
    rw [Below.heap_setCell _ _ _ _ (show i ≠ Z6 from fun e => hn (.inl e)), hgrow.block i (by simp; omega) (fun e => ?_)]
    · exact Below.heap_alloc _ _ _ hi
    · rcases hrow.2 with ⟨rfl, _⟩ | ⟨g, cap, cur, rfl, hb, _⟩
      · simp [Value.ownBlock] at e
      · obtain rfl : g = i := by simpa [Value.ownBlock] using e.symm
        exact hn (.inr hb)
  refine ⟨h.keep hc hkp, ⟨v', hv1.set v', ?_, trivial⟩, ?_, hkp, fun b t u ht hb hu => ((hu.alloc tmp).kept hgrow (hu.not_row ht hrow)).other hb v', hv1⟩
  · have := hown.kept (grownBy_setCell' w1 Z6 v') (.inr (hv1.not_row (by decide) hown).symm)
    rw [List.length_append, cellsR_app]
    exact this
  · refine ((KeepsOthers.alloc W tmp).trans (KeepsOthers.of_grownBy hgrow fun j o ej hj => ?_)).trans (KeepsOthers.setCell _ _ _)
    rcases (hrow.alloc tmp).2 with ⟨rfl, _⟩ | ⟨g, cap, cur, rfl, _, hgb, _⟩
    · simp [Value.ownBlock] at ej
    · obtain rfl : g = j := by simpa [Value.ownBlock] using ej
      rw [hgb] at hj; cases hj; rfl
end

theorem ItIn.keepN {W W' : World} {O : Nat → Prop} {B A cap : Nat} {m : Mo} {b1 b2 k N : Nat} (h : ItIn W O B A cap m b1 b2 k) (hk : Keep (fun x => N ≤ x) W W') (hO : ∀ x, O x → x < N) (h1 : b1 < N) (h2 : b2 < N) : ItIn W' O B A cap m b1 b2 k :=
  ⟨h.tk.keep hk (fun x hx hy => by have := hO x hx; omega), (hk.block b1 h.x1.lt (by omega)).trans h.x1, (hk.block b2 h.x2.lt (by omega)).trans h.x2⟩

/-- Lists of runs in memory: what was planned. -/
def PlanPost (w : World) (l : List (Nat × Nat)) (e : Ending) (w' : World) : Prop :=
  ∃ A c, e = .returned (.tuple #[.slice A l.length c, .int .i64 0]) ∧ RunsAt w' w.heap.size A l ∧ Below w.heap.size w w'

end Go.Proofs.Ytecfjibmpbgllaa
