/- A tracker in memory, and what a call leaves as it was. -/
import Derived.Test.YtecfjibmpbgllaaMa
import Derived.Below
import Derived.Test.YtecfjibmpbgllaaRows
namespace Go.Proofs.Ytecfjibmpbgllaa
open Go.RowKit

/-- The first n cells of a block, none frozen. -/
structure Cl (w : World) (b n : Nat) (f : Nat → Value) : Prop where
  cell : ∀ i, i < n → w.cell? ⟨b, i, none⟩ = some (f i)
  free : ∀ i, i < n → w.frozen? ⟨b, i, none⟩ = false

theorem Cl.of_block {w w' : World} {b n : Nat} {f : Nat → Value} (h : Cl w b n f) (e : w'.heap[b]? = w.heap[b]?) : Cl w' b n f :=
  ⟨fun i hi => (World.cell?_of_block (a := ⟨b, i, none⟩) e).trans (h.cell i hi), fun i hi => (World.frozen?_of_block (a := ⟨b, i, none⟩) e).trans (h.free i hi)⟩
theorem Cl.lt {w : World} {b n : Nat} {f : Nat → Value} (h : Cl w b n f) (hn : 0 < n) : b < w.heap.size := World.block_lt_of_cell? _ _ (h.cell 0 hn)
theorem Cl.congr {w : World} {b n : Nat} {f g : Nat → Value} (h : Cl w b n f) (e : ∀ i, i < n → f i = g i) : Cl w b n g := ⟨fun i hi => by rw [h.cell i hi, e i hi], h.free⟩
theorem Cl.set {w : World} {b n : Nat} {f : Nat → Value} (h : Cl w b n f) (i : Nat) (v : Value) : Cl (w.setCell ⟨b, i, none⟩ v) b n (fun j => if j = i then v else f j) := by
  refine ⟨fun j hj => ?_, fun j hj => by rw [World.frozen?_setCell]; exact h.free j hj⟩
  by_cases e : j = i
  · subst e
    rw [if_pos rfl]
    exact World.cell?_setCell_same _ _ _ (h.cell j hj)
  · rw [if_neg e, World.cell?_setCell_other w _ _ v (fun h => e (by injection h with _ h2 _; exact h2.symm))]
    exact h.cell j hj
theorem Cl.other {w : World} {b n : Nat} {f : Nat → Value} (h : Cl w b n f) {a : Addr} (ha : b ≠ a.block) (v : Value) : Cl (w.setCell a v) b n f := h.of_block (Below.heap_setCell _ _ _ _ ha)

/-- What a call that owns O leaves as it was. -/
structure Keep (O : Nat → Prop) (w w' : World) : Prop where
  os : w'.os = w.os
  tape : w'.tape = w.tape
  output : w'.output = w.output
  size : w.heap.size ≤ w'.heap.size
  block : ∀ k, k < w.heap.size → ¬ O k → w'.heap[k]? = w.heap[k]?

/-- What is owned behind a call: what was, and what the call made. -/
def Ext (O : Nat → Prop) (w w' : World) : Nat → Prop := fun k => O k ∨ (w.heap.size ≤ k ∧ k < w'.heap.size)
def Nw (w w' : World) : Nat → Prop := fun k => w.heap.size ≤ k ∧ k < w'.heap.size

theorem Keep.refl (O : Nat → Prop) (w : World) : Keep O w w := ⟨rfl, rfl, rfl, Nat.le_refl _, fun _ _ _ => rfl⟩
theorem Keep.of {O : Nat → Prop} {w w' : World} (h : Below w.heap.size w w') : Keep O w w' := ⟨h.os, h.tape, h.output, h.size, fun k hk _ => h.block k hk⟩
theorem Keep.trans {O : Nat → Prop} {w w1 w2 : World} (h : Keep O w w1) (k : Keep (Ext O w w1) w1 w2) : Keep O w w2 :=
  ⟨k.os.trans h.os, k.tape.trans h.tape, k.output.trans h.output, Nat.le_trans h.size k.size, fun i hi ho => (k.block i (Nat.lt_of_lt_of_le hi h.size) (fun hx => by rcases hx with hx | hx; exact ho hx; omega)).trans (h.block i hi ho)⟩
theorem Keep.mono {O O' : Nat → Prop} {w w' : World} (h : Keep O w w') (hO : ∀ k, k < w.heap.size → O k → O' k) : Keep O' w w' := ⟨h.os, h.tape, h.output, h.size, fun k hk ho => h.block k hk (fun hx => ho (hO k hk hx))⟩
theorem Keep.below {O : Nat → Prop} {w w' : World} {N : Nat} (h : Keep O w w') (hN : N ≤ w.heap.size) (hO : ∀ k, O k → N ≤ k) : Below N w w' :=
  ⟨h.os, h.tape, h.output, h.size, fun k hk => h.block k (by omega) (fun hx => by have := hO k hx; omega)⟩
theorem Keep.set {O : Nat → Prop} {w w' : World} (h : Keep O w w') {a : Addr} (ha : O a.block ∨ w.heap.size ≤ a.block) (v : Value) : Keep O w (w'.setCell a v) :=
  ⟨h.os, h.tape, h.output, by rw [World.size_setCell]; exact h.size, fun k hk ho => (Below.heap_setCell _ _ _ _ (fun e => by rcases ha with ha | ha; exact ho (e ▸ ha); omega)).trans (h.block k hk ho)⟩
theorem Keep.drew {O : Nat → Prop} {w w' : World} (h : Keep O w w') : Keep O w w'.drew := ⟨h.os, h.tape, h.output, h.size, h.block⟩
theorem Keep.alloc {O : Nat → Prop} {w w' : World} (h : Keep O w w') (o : Obj) : Keep O w (w'.alloc o) :=
  ⟨h.os, h.tape, h.output, by have := h.size; simp; omega, fun k hk ho => (Below.heap_alloc _ _ _ (Nat.lt_of_lt_of_le hk h.size)).trans (h.block k hk ho)⟩

/-- The program's tracker in memory: its own block B, its pages' states in block A. -/
structure TkA (w : World) (O : Nat → Prop) (B A cap : Nat) (m : Mo) : Prop where
  wf : WF m
  b : Cl w B 1 (fun _ => .slice (some ⟨A, 0, none⟩) (16 * m.h) cap)
  a : Cl w A (16 * m.h) (fun i => .int .u8 (m.S i))
  ob : O B
  oa : O A
  lt : ∀ k, O k → k < w.heap.size
  ab : A ≠ B
  cp : 16 * m.h ≤ cap

def Tk (w : World) (O : Nat → Prop) (B : Nat) (m : Mo) : Prop := ∃ A cap, TkA w O B A cap m

section
variable {w w' : World} {O O1 O' : Nat → Prop} {B A cap : Nat} {m : Mo}
theorem TkA.keep (h : TkA w O B A cap m) (hk : Keep O1 w w') (hd : ∀ k, O k → O1 k → False) : TkA w' O B A cap m := by
  have hb : ∀ k, O k → w'.heap[k]? = w.heap[k]? := fun k ho => hk.block k (h.lt k ho) (fun hx => hd k ho hx)
  exact ⟨h.wf, h.b.of_block (hb _ h.ob), h.a.of_block (hb _ h.oa), h.ob, h.oa, fun k ho => Nat.lt_of_lt_of_le (h.lt k ho) hk.size, h.ab, h.cp⟩
theorem Tk.keep (h : Tk w O B m) (hk : Keep O1 w w') (hd : ∀ k, O k → O1 k → False) : Tk w' O B m := by
  obtain ⟨A, cap, h⟩ := h
  exact ⟨A, cap, h.keep hk hd⟩
theorem TkA.below (h : TkA w O B A cap m) (hb : Below w.heap.size w w') : TkA w' O B A cap m := h.keep (Keep.of (O := fun _ => False) hb) (fun _ _ h => h)
theorem Tk.below (h : Tk w O B m) (hb : Below w.heap.size w w') : Tk w' O B m := h.keep (Keep.of (O := fun _ => False) hb) (fun _ _ h => h)
theorem TkA.mono (h : TkA w O B A cap m) (ho : ∀ k, O k → O' k) (hl : ∀ k, O' k → k < w.heap.size) : TkA w O' B A cap m :=
  ⟨h.wf, h.b, h.a, ho _ h.ob, ho _ h.oa, hl, h.ab, h.cp⟩
theorem Tk.mono (h : Tk w O B m) (ho : ∀ k, O k → O' k) (hl : ∀ k, O' k → k < w.heap.size) : Tk w O' B m := by
  obtain ⟨A, cap, h⟩ := h
  exact ⟨A, cap, h.mono ho hl⟩
theorem Tk.wf (h : Tk w O B m) : WF m := h.choose_spec.choose_spec.wf
theorem Tk.lt (h : Tk w O B m) : ∀ k, O k → k < w.heap.size := h.choose_spec.choose_spec.lt
theorem Tk.ob (h : Tk w O B m) : O B := h.choose_spec.choose_spec.ob
theorem TkA.c0 (h : TkA w O B A cap m) : w.cell? ⟨B, 0, none⟩ = some (.slice (some ⟨A, 0, none⟩) (16 * m.h) cap) := h.b.cell 0 (by omega)
theorem TkA.at (h : TkA w O B A cap m) {i : Nat} (hi : i < 16 * m.h) : w.cell? ⟨A, i, none⟩ = some (.int .u8 (m.S i)) := h.a.cell i hi
theorem TkA.fr (h : TkA w O B A cap m) {i : Nat} (hi : i < 16 * m.h) : w.frozen? ⟨A, i, none⟩ = false := h.a.free i hi
end

/-- What a call that changes a tracker leaves. -/
def Mut (w : World) (O : Nat → Prop) (B : Nat) (m : Mo) (w' : World) : Prop := Tk w' (Ext O w w') B m ∧ Keep O w w'

theorem Ext.lt {O : Nat → Prop} {w w' : World} (h : ∀ k, O k → k < w.heap.size) (hs : w.heap.size ≤ w'.heap.size) : ∀ k, Ext O w w' k → k < w'.heap.size := fun k hk => by
  rcases hk with hk | hk
  · exact Nat.lt_of_lt_of_le (h k hk) hs
  · exact hk.2
theorem Mut.same {w w' : World} {O : Nat → Prop} {B : Nat} {m : Mo} (h : Tk w O B m) (hb : Below w.heap.size w w') : Mut w O B m w' :=
  ⟨(h.below hb).mono (fun _ hk => .inl hk) (Ext.lt h.lt hb.size), Keep.of hb⟩
theorem ext_ext {O : Nat → Prop} {w w1 w2 : World} (h1 : w.heap.size ≤ w1.heap.size) (h2 : w1.heap.size ≤ w2.heap.size) : Ext (Ext O w w1) w1 w2 = Ext O w w2 := by
  funext k
  apply propext
  unfold Ext
  constructor
  · rintro ((h | h) | h)
    · exact .inl h
    · exact .inr (by omega)
    · exact .inr (by omega)
  · rintro (h | h)
    · exact .inl (.inl h)
    · rcases Nat.lt_or_ge k w1.heap.size with hk | hk
      · exact .inl (.inr (by omega))
      · exact .inr (by omega)
theorem Mut.trans {w w1 w2 : World} {O : Nat → Prop} {B : Nat} {m1 m2 : Mo} (h : Mut w O B m1 w1) (k : Mut w1 (Ext O w w1) B m2 w2) : Mut w O B m2 w2 :=
  ⟨by rw [← ext_ext h.2.size k.2.size]; exact k.1, h.2.trans k.2⟩
/-- A step that makes memory alone, then a call. -/
theorem Mut.after {w w1 w2 : World} {O : Nat → Prop} {B : Nat} {m : Mo} (hb : Below w.heap.size w w1) (h : Mut w1 O B m w2) : Mut w O B m w2 := by
  refine ⟨h.1.mono (fun k hk => ?_) (fun k hk => ?_), (Keep.of hb).trans (h.2.mono fun _ _ hk => .inl hk)⟩
  · have := hb.size
    rcases hk with hk | hk
    · exact .inl hk
    · exact .inr (by omega)
  · rcases hk with hk | hk
    · exact h.1.lt k (.inl hk)
    · exact hk.2
theorem Mut.then {w w1 w2 : World} {O : Nat → Prop} {B : Nat} {m : Mo} (h : Mut w O B m w1) (hb : Below w1.heap.size w1 w2) : Mut w O B m w2 := h.trans (Mut.same h.1 hb)

end Go.Proofs.Ytecfjibmpbgllaa
