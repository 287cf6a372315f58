/- A central list in memory. -/
import Derived.Test.YtejfoefhaphacaaGreatLm
import Derived.Test.YtejfoefhaphacaaGreatMd
import Derived.Maps.AppendAt
namespace Go.Proofs.YtejfoefhaphacaaGreat
open Go.RowKit

/-! Rows of the call's own. -/
theorem owns_cell {W : World} {base : Nat} {e : TypeId} {size n j : Nat} {v u : Value} {xs : List Value} (h : W.ownsRow base e size v n xs) (hu : xs[j]? = some u) : ∃ g cap, v = .slice (some ⟨g, 0, none⟩) n cap ∧ base ≤ g ∧ g < W.heap.size ∧ W.cell? ⟨g, j, none⟩ = some u := by
  rcases h.2 with ⟨rfl, rfl⟩ | ⟨g, cap, cur, rfl, hb, hg, _, _, _, ht⟩
  · have h1 := h.1
    rw [Nat.zero_mul] at h1
    rw [List.length_eq_zero_iff.1 h1] at hu
    simp at hu
  · refine ⟨g, cap, rfl, hb, (Array.getElem?_eq_some_iff.1 hg).1, ?_⟩
    have e1 : W.cell? ⟨g, j, none⟩ = cur[j]? := by simp [World.cell?, hg]
    rw [e1]
    rw [← ht, List.getElem?_take] at hu
    split at hu
    · simpa using hu
    · cases hu
theorem owns_block {w w' : World} {B e size n : Nat} {v : Value} {xs : List Value} (h : w.ownsRow B e size v n xs) (hb : ∀ g, v.ownBlock = some g → g < w.heap.size → w'.heap[g]? = w.heap[g]?) : w'.ownsRow B e size v n xs := by
  obtain ⟨h1, h2⟩ := h
  refine ⟨h1, ?_⟩
  rcases h2 with h0 | ⟨g, cap, cur, rfl, b, hg, c⟩
  · exact .inl h0
  · exact .inr ⟨g, cap, cur, rfl, b, by rw [hb g rfl (Array.getElem?_eq_some_iff.1 hg).1]; exact hg, c⟩
theorem owns_below {w w' : World} {B e size n : Nat} {v : Value} {xs : List Value} (h : w.ownsRow B e size v n xs) (hb : Below w.heap.size w w') : w'.ownsRow B e size v n xs := owns_block h fun _ _ hl => hb.block _ hl
theorem owns_base {W : World} {base base' : Nat} {e : TypeId} {size n : Nat} {v : Value} {xs : List Value} (h : W.ownsRow base e size v n xs) (hb : base' ≤ base) : W.ownsRow base' e size v n xs := by
  obtain ⟨h1, h2⟩ := h
  refine ⟨h1, ?_⟩
  rcases h2 with h0 | ⟨g, cap, cur, a, b, c⟩
  · exact .inl h0
  · exact .inr ⟨g, cap, cur, a, Nat.le_trans hb b, c⟩
theorem owns_at {W : World} {base : Nat} {e : TypeId} {size n : Nat} {v : Value} {xs : List Value} (h : W.ownsRow base e size v n xs) {g : Nat} (hg : v.ownBlock = some g) : base ≤ g ∧ g < W.heap.size ∧ ∃ cur, W.heap[g]? = some (.cells cur e (0, 0)) := by
  rcases h.2 with ⟨rfl, _⟩ | ⟨g', cap, cur, rfl, hb, hc, _⟩
  · cases hg
  · cases hg
    exact ⟨hb, (Array.getElem?_eq_some_iff.1 hc).1, cur, hc⟩
theorem owns_ne {W : World} {b b' : Nat} {e e' : TypeId} {s s' n n' : Nat} {v v' : Value} {xs xs' : List Value} (h : W.ownsRow b e s v n xs) (h' : W.ownsRow b' e' s' v' n' xs') (he : e ≠ e') {g : Nat} (hg : v.ownBlock = some g) : v'.ownBlock ≠ some g := fun hg' => by
  obtain ⟨_, _, cur, h1⟩ := owns_at h hg
  obtain ⟨_, _, cur', h2⟩ := owns_at h' hg'
  rw [h1] at h2
  cases h2
  exact he rfl
/-- An append to a row: what is behind it. -/
theorem grown_keep {O : Nat → Prop} {w W W' : World} {v : Value} (hk : Keep O w W) (hg : W.grownBy W' v.ownBlock) (hv : ∀ g, v.ownBlock = some g → O g ∨ w.heap.size ≤ g) : Keep O w W' :=
  ⟨hg.os.trans hk.os, hg.tape.trans hk.tape, hg.output.trans hk.output, Nat.le_trans hk.size hg.size, fun k hlt ho => (hg.block k (Nat.lt_of_lt_of_le hlt hk.size) (fun e => by rcases hv k e.symm with h | h; exact ho h; omega)).trans (hk.block k hlt ho)⟩

/-! A span in a list: its block, its states' block, their room, what it is. -/
structure Sn where
  B : Nat
  A : Nat
  c : Nat
  m : Mo
def Sn.own (x : Sn) (k : Nat) : Prop := k = x.B ∨ k = x.A
def Sn.v (x : Sn) : Value := .pointer (some ⟨x.B, 0, none⟩)
def pV (X : List Sn) : List Value := X.map Sn.v
def eT : Bool → TypeId
  | false => 63
  | true => 65

def hF (c : Ce) (V : Value) : Nat → Value := fun i => if i = 0 then .int .i64 c.z else if i = 1 then .int .i64 c.g else if i = 2 then .int .i64 c.t else V

structure LiA (r : Bool) (w : World) (O : Nat → Prop) (B : Nat) (V : Value) (X : List Sn) (c : Ce) : Prop where
  wf : CWf c
  hd : Cl w B 4 (hF c V)
  row : w.ownsRow 0 (eT r) 1 V X.length (pV X)
  rowO : ∀ g, V.ownBlock = some g → O g ∧ g ≠ B
  ob : O B
  sp : ∀ (i : Nat) (x : Sn), X[i]? = some x → SpA r w x.own x.B x.A x.c x.m
  so : ∀ (i : Nat) (x : Sn), X[i]? = some x → ∀ k, x.own k → O k ∧ k ≠ B ∧ V.ownBlock ≠ some k
  dj : X.Pairwise (fun x y => ∀ k, x.own k → ¬ y.own k)
  ms : X.map (·.m) = c.L
  lt : ∀ k, O k → k < w.heap.size
def NoL (w : World) (O : Nat → Prop) (v : Value) : Prop := v = .pointer none ∨ ∃ B, v = .pointer (some ⟨B, 0, none⟩) ∧ O B ∧ w.cell? ⟨B, 0, none⟩ = some (.int .i64 0)
/-- A list in memory, or one that nobody made. -/
def LOb (r : Bool) (w : World) (O : Nat → Prop) (v : Value) : Option Ce → Prop
  | none => NoL w O v ∧ ∀ k, O k → k < w.heap.size
  | some c => ∃ B V X, v = .pointer (some ⟨B, 0, none⟩) ∧ LiA r w O B V X c
section
variable {r : Bool} {w w' : World} {O O1 O' : Nat → Prop} {B : Nat} {V v : Value} {X : List Sn} {c : Ce} {om : Option Ce}
theorem LiA.len (h : LiA r w O B V X c) : X.length = c.L.length := by rw [← h.ms, List.length_map]
theorem LiA.at (h : LiA r w O B V X c) {i : Nat} {x : Sn} (e : X[i]? = some x) : c.L[i]? = some x.m := by rw [← h.ms, List.getElem?_map, e]; rfl
theorem LiA.get (h : LiA r w O B V X c) {i : Nat} (hi : i < c.L.length) : ∃ x, X[i]? = some x := ⟨_, List.getElem?_eq_getElem (by rw [h.len]; exact hi)⟩
theorem LiA.cells (h : LiA r w O B V X c) : w.cell? ⟨B, 0, none⟩ = some (.int .i64 c.z) ∧ w.cell? ⟨B, 1, none⟩ = some (.int .i64 c.g) ∧ w.cell? ⟨B, 2, none⟩ = some (.int .i64 c.t) ∧ w.cell? ⟨B, 3, none⟩ = some V :=
  ⟨h.hd.cell 0 (by omega), h.hd.cell 1 (by omega), h.hd.cell 2 (by omega), h.hd.cell 3 (by omega)⟩
theorem LiA.slot (h : LiA r w O B V X c) {i : Nat} {x : Sn} (e : X[i]? = some x) : ∃ g cap, V = .slice (some ⟨g, 0, none⟩) X.length cap ∧ w.cell? ⟨g, i, none⟩ = some (.pointer (some ⟨x.B, 0, none⟩)) := by
  have hu : (pV X)[i]? = some x.v := by unfold pV; rw [List.getElem?_map, e]; rfl
  obtain ⟨g, cap, e1, _, _, e2⟩ := owns_cell h.row hu
  exact ⟨g, cap, e1, e2⟩
theorem LiA.span (h : LiA r w O B V X c) {i : Nat} {x : Sn} (e : X[i]? = some x) : Ob r w x.own (.pointer (some ⟨x.B, 0, none⟩)) (some x.m) := (h.sp i x e).ob'
theorem LiA.keep (h : LiA r w O B V X c) (hk : Keep O1 w w') (hd : ∀ k, O k → O1 k → False) : LiA r w' O B V X c :=
  ⟨h.wf, h.hd.of_block (hk.block _ h.hd.lt (fun hx => hd _ h.ob hx)), owns_block h.row fun g hg hl => hk.block g hl (fun hx => hd _ (h.rowO g hg).1 hx), h.rowO, h.ob,
    fun i x e => (h.sp i x e).keep hk (fun k h1 h2 => hd k (h.so i x e k h1).1 h2), h.so, h.dj, h.ms, fun k ho => Nat.lt_of_lt_of_le (h.lt k ho) hk.size⟩
theorem LiA.below (h : LiA r w O B V X c) (hb : Below w.heap.size w w') : LiA r w' O B V X c := h.keep (Keep.of (O := fun _ => False) hb) (fun _ _ h => h)
theorem LiA.mono (h : LiA r w O B V X c) (ho : ∀ k, O k → O' k) (hl : ∀ k, O' k → k < w.heap.size) : LiA r w O' B V X c :=
  ⟨h.wf, h.hd, h.row, fun g hg => ⟨ho _ (h.rowO g hg).1, (h.rowO g hg).2⟩, ho _ h.ob, h.sp, fun i x e k hk => ⟨ho _ (h.so i x e k hk).1, (h.so i x e k hk).2⟩, h.dj, h.ms, hl⟩
theorem LiA.lob (h : LiA r w O B V X c) : LOb r w O (.pointer (some ⟨B, 0, none⟩)) (some c) := ⟨B, V, X, rfl, h⟩
theorem LOb.lt (h : LOb r w O v om) : ∀ k, O k → k < w.heap.size := by
  cases om with
  | none => exact h.2
  | some m => obtain ⟨B, A, c, _, h⟩ := h; exact h.lt
theorem LOb.keep (h : LOb r w O v om) (hk : Keep O1 w w') (hd : ∀ k, O k → O1 k → False) : LOb r w' O v om := by
  cases om with
  | none =>
    obtain ⟨h, hl⟩ := h
    refine ⟨?_, fun k ho => Nat.lt_of_lt_of_le (hl k ho) hk.size⟩
    rcases h with h | ⟨B, h, ho, hc⟩
    · exact .inl h
    · exact .inr ⟨B, h, ho, (World.cell?_of_block (a := ⟨B, 0, none⟩) (hk.block B (hl B ho) (fun hx => hd _ ho hx))).trans hc⟩
  | some m =>
    obtain ⟨B, A, c, e, h⟩ := h
    exact ⟨B, A, c, e, h.keep hk hd⟩
theorem LOb.below (h : LOb r w O v om) (hb : Below w.heap.size w w') : LOb r w' O v om := h.keep (Keep.of (O := fun _ => False) hb) (fun _ _ h => h)
theorem LOb.mono (h : LOb r w O v om) (ho : ∀ k, O k → O' k) (hl : ∀ k, O' k → k < w.heap.size) : LOb r w O' v om := by
  cases om with
  | none =>
    obtain ⟨h, _⟩ := h
    refine ⟨?_, hl⟩
    rcases h with h | ⟨B, h, hb, hc⟩
    · exact .inl h
    · exact .inr ⟨B, h, ho _ hb, hc⟩
  | some m =>
    obtain ⟨B, A, c, e, h⟩ := h
    exact ⟨B, A, c, e, h.mono ho hl⟩
theorem LOb.pt (h : LOb r w O v om) : ∃ p, v = .pointer p := by
  cases om with
  | none =>
    rcases h.1 with h | ⟨B, h, _⟩
    · exact ⟨_, h⟩
    · exact ⟨_, h⟩
  | some m =>
    obtain ⟨B, _, _, e, _⟩ := h
    exact ⟨_, e⟩

theorem pw_set {X : List Sn} (hd : X.Pairwise (fun x y => ∀ k, x.own k → ¬ y.own k)) {i : Nat} {x y : Sn} (e : X[i]? = some x) (ho : ∀ k, y.own k → x.own k) : (X.set i y).Pairwise (fun x y => ∀ k, x.own k → ¬ y.own k) := by
  obtain ⟨hi, rfl⟩ := List.getElem?_eq_some_iff.1 e
  refine List.pairwise_iff_getElem.2 fun a b ha hb hab k h1 h2 => ?_
  rw [List.length_set] at ha hb
  have hd' := List.pairwise_iff_getElem.1 hd a b ha hb hab k
  rw [List.getElem_set] at h1 h2
  split at h1 <;> split at h2
  · omega
  · subst i; exact hd' (ho k h1) h2
  · subst i; exact hd' h1 (ho k h2)
  · exact hd' h1 h2
theorem dj_of {X : List Sn} (hd : X.Pairwise (fun x y => ∀ k, x.own k → ¬ y.own k)) {i j : Nat} {x y : Sn} (hij : i ≠ j) (ex : X[i]? = some x) (ey : X[j]? = some y) (k : Nat) (h1 : x.own k) : ¬ y.own k := by
  obtain ⟨hi, rfl⟩ := List.getElem?_eq_some_iff.1 ex
  obtain ⟨hj, rfl⟩ := List.getElem?_eq_some_iff.1 ey
  rcases Nat.lt_or_ge i j with h | h
  · exact List.pairwise_iff_getElem.1 hd i j hi hj h k h1
  · exact fun h2 => List.pairwise_iff_getElem.1 hd j i hj hi (by omega) k h2 h1
/-- One span of the list has been changed. -/
theorem LiA.step (h : LiA r w O B V X c) {i : Nat} {x : Sn} (e : X[i]? = some x) {m' : Mo} (hM : Mut r w x.own (.pointer (some ⟨x.B, 0, none⟩)) (some m') w') (hw : CWf { c with L := c.L.set i m' }) :
    Keep O w w' ∧ ∃ y : Sn, y.B = x.B ∧ y.m = m' ∧ LiA r w' O B V (X.set i y) { c with L := c.L.set i m' } := by
  obtain ⟨⟨B', A', c', hp, hs⟩, hk⟩ := hM
  cases hp
  have hA : A' = x.A := by
    rcases hs.oa with h1 | h1
    · exact absurd h1.symm hs.ne
    · exact h1
  subst hA
  obtain ⟨hi, hxi⟩ := List.getElem?_eq_some_iff.1 e
  have hso := h.so i x e
  refine ⟨hk.mono fun k _ ho => (hso k ho).1, ⟨x.B, x.A, c', m'⟩, rfl, rfl, hw, ?_, ?_, h.rowO, h.ob, fun j y hj => ?_, fun j y hj k hk' => ?_, pw_set h.dj e (fun k hk => hk), ?_, fun k ho => Nat.lt_of_lt_of_le (h.lt k ho) hk.size⟩
  · exact (h.hd.of_block (hk.block _ h.hd.lt (fun hx => (hso _ hx).2.1 rfl))).congr fun _ _ => rfl
  · rw [List.length_set]
    have hp : pV (X.set i ⟨x.B, x.A, c', m'⟩) = pV X := by
      unfold pV
      rw [List.map_set]
      refine List.ext_getElem? fun j => ?_
      rw [List.getElem?_set]
      split
      · subst i
        rw [if_pos (by simpa using hi), List.getElem?_map, e]; rfl
      · rfl
    rw [hp]
    exact owns_block h.row fun g hg hl => hk.block g hl (fun hx => (hso _ hx).2.2 hg)
  · rw [List.getElem?_set] at hj
    split at hj
    · cases hj
      exact hs
    · rename_i hne
      exact (h.sp j y hj).keep hk (fun k h1 h2 => dj_of h.dj hne e hj k h2 h1)
  · rw [List.getElem?_set] at hj
    split at hj
    · cases hj
      exact hso k hk'
    · exact h.so j y hj k hk'
  · show (X.set i _).map (·.m) = c.L.set i m'
    rw [List.map_set, h.ms]
end

/-- What a call that changes a list leaves. -/
def LMut (r : Bool) (w : World) (O : Nat → Prop) (v : Value) (om : Option Ce) (w' : World) : Prop := LOb r w' (Ext O w w') v om ∧ Keep O w w'
section
variable {r : Bool} {w w1 w2 w' : World} {O : Nat → Prop} {v : Value} {om o1 o2 : Option Ce}
theorem LMut.same (h : LOb r w O v om) (hb : Below w.heap.size w w') : LMut r w O v om w' := ⟨(h.below hb).mono (fun _ hk => .inl hk) (Ext.lt h.lt hb.size), Keep.of hb⟩
theorem LMut.trans (h : LMut r w O v o1 w1) (k : LMut r w1 (Ext O w w1) v o2 w2) : LMut r w O v o2 w2 := ⟨by rw [← ext_ext h.2.size k.2.size]; exact k.1, h.2.trans k.2⟩
theorem LMut.after (hb : Below w.heap.size w w1) (h : LMut r w1 O v om w2) : LMut r w O v om w2 := by
  have s1 := hb.size
  have s2 := h.2.size
  refine ⟨h.1.mono (fun k hk => ?_) (fun k hk => ?_), (Keep.of hb).trans (h.2.mono fun _ _ hk => .inl hk)⟩
  · rcases hk with hk | hk
    · exact .inl hk
    · exact .inr (by omega)
  · rcases hk with hk | hk
    · exact h.1.lt k (.inl hk)
    · exact hk.2
theorem LMut.then (h : LMut r w O v om w1) (hb : Below w1.heap.size w1 w2) : LMut r w O v om w2 := h.trans (LMut.same h.1 hb)
end

/-- .. and what is returned beside it stays apart from it. -/
def LShp (r : Bool) (w : World) (O : Nat → Prop) (v : Value) (om : Option Ce) (A : Option Addr) (w' : World) : Prop := ∃ O' : Nat → Prop, LOb r w' O' v om ∧ ∀ k, O' k → O k ∨ (w.heap.size ≤ k ∧ ∀ x : Addr, A = some x → x.block ≠ k)
theorem LShp.same {r : Bool} {w w' : World} {O : Nat → Prop} {v : Value} {om : Option Ce} {A : Option Addr} (h : LOb r w O v om) (hb : Below w.heap.size w w') : LShp r w O v om A w' := ⟨O, h.below hb, fun _ hk => .inl hk⟩
theorem LShp.of {r : Bool} {w w' : World} {O : Nat → Prop} {v : Value} {om : Option Ce} {A : Option Addr} (h : LOb r w' O v om) : LShp r w O v om A w' := ⟨O, h, fun _ hk => .inl hk⟩

end Go.Proofs.YtejfoefhaphacaaGreat
