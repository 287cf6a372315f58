/- Blocks of cells, and what a call leaves as it was. -/
import Derived.Below
import Derived.WalkKit
import Derived.WalkSpells
import Derived.WalkLawsBesides
import Derived.Deep.QuietTactic
import Derived.BigQuiet
import Derived.Lib.Hide
import Derived.RangeFuncNested
import Derived.Test.YtdjfeibcbmelcaaMa
namespace Go.Proofs.Ytdjfeibcbmelcaa
open Go.RowKit

/-- A block of cells that is no row of marks. -/
def Nr (w : World) (b : Nat) : Prop := ∃ cs t d, w.heap[b]? = some (.cells cs t d) ∧ t ≠ 50
theorem Nr.of_block {w w' : World} {b : Nat} (h : Nr w b) (e : w'.heap[b]? = w.heap[b]?) : Nr w' b := by
  obtain ⟨cs, t, d, h1, h2⟩ := h
  exact ⟨cs, t, d, e.trans h1, h2⟩
theorem Nr.set {w : World} {b : Nat} (h : Nr w b) (a : Addr) (v : Value) : Nr (w.setCell a v) b := by
  obtain ⟨cs, t, d, h1, h2⟩ := h
  by_cases e : b = a.block
  · subst e
    obtain ⟨hlt, hk⟩ := Array.getElem?_eq_some_iff.1 h1
    refine ⟨if a.spot.isSome then cs else cs.setIfInBounds a.off v, t, d, ?_, h2⟩
    · show (w.heap.modify a.block _)[a.block]? = _
      rw [Array.getElem?_eq_getElem (by rw [Array.size_modify]; exact hlt), Array.getElem_modify_self, hk]
  · exact ⟨cs, t, d, (Below.heap_setCell w a v b e).trans h1, h2⟩
theorem Nr.new (w : World) (cs : Array Value) (t : TypeId) (h : t ≠ 50) : Nr (w.alloc (.cells cs t)) w.heap.size := ⟨cs, t, _, World.alloc_heap_new w _, h⟩

/-- The first n cells of a block, none frozen. -/
structure Cl (w : World) (b n : Nat) (f : Nat → Value) : Prop where
  cell : ∀ i, i < n → w.cell? ⟨b, i, none⟩ = some (f i)
  free : ∀ i, i < n → w.frozen? ⟨b, i, none⟩ = false
  nr : Nr w b
theorem Cl.of_block {w w' : World} {b n : Nat} {f : Nat → Value} (h : Cl w b n f) (e : w'.heap[b]? = w.heap[b]?) : Cl w' b n f :=
  ⟨fun i hi => (World.cell?_of_block (a := ⟨b, i, none⟩) e).trans (h.cell i hi), fun i hi => (World.frozen?_of_block (a := ⟨b, i, none⟩) e).trans (h.free i hi), h.nr.of_block e⟩
theorem Cl.lt {w : World} {b n : Nat} {f : Nat → Value} (h : Cl w b n f) : b < w.heap.size := by
  obtain ⟨cs, t, d, h1, _⟩ := h.nr
  exact (Array.getElem?_eq_some_iff.1 h1).1
theorem Cl.congr {w : World} {b n : Nat} {f g : Nat → Value} (h : Cl w b n f) (e : ∀ i, i < n → f i = g i) : Cl w b n g := ⟨fun i hi => by rw [h.cell i hi, e i hi], h.free, h.nr⟩
theorem Cl.set {w : World} {b n : Nat} {f : Nat → Value} (h : Cl w b n f) (i : Nat) (v : Value) : Cl (w.setCell ⟨b, i, none⟩ v) b n (fun j => if j = i then v else f j) := by
  refine ⟨fun j hj => ?_, fun j hj => by rw [World.frozen?_setCell]; exact h.free j hj, h.nr.set _ _⟩
  by_cases e : j = i
  · subst e
    rw [if_pos rfl]
    exact World.cell?_setCell_same _ _ _ (h.cell j hj)
  · rw [if_neg e, World.cell?_setCell_other w _ _ v (fun h => e (by injection h with _ h2 _; exact h2.symm))]
    exact h.cell j hj
theorem Cl.other {w : World} {b n : Nat} {f : Nat → Value} (h : Cl w b n f) {a : Addr} (ha : b ≠ a.block) (v : Value) : Cl (w.setCell a v) b n f := h.of_block (Below.heap_setCell _ _ _ _ ha)
theorem Cl.alloc {w : World} {b n : Nat} {f : Nat → Value} (h : Cl w b n f) (o : Obj) : Cl (w.alloc o) b n f := h.of_block (Below.heap_alloc _ _ _ h.lt)

/-- What a call that owns O leaves as it was. -/
structure Keep (O : Nat → Prop) (w w' : World) : Prop where
  os : w'.os = w.os
  tape : w'.tape = w.tape
  output : w'.output = w.output
  size : w.heap.size ≤ w'.heap.size
  block : ∀ k, k < w.heap.size → ¬ O k → w'.heap[k]? = w.heap[k]?
def Ext (O : Nat → Prop) (w w' : World) : Nat → Prop := fun k => O k ∨ (w.heap.size ≤ k ∧ k < w'.heap.size)
def Nw (w w' : World) : Nat → Prop := fun k => w.heap.size ≤ k ∧ k < w'.heap.size
theorem Keep.refl (O : Nat → Prop) (w : World) : Keep O w w := ⟨rfl, rfl, rfl, Nat.le_refl _, fun _ _ _ => rfl⟩
theorem Keep.of {O : Nat → Prop} {w w' : World} (h : Below w.heap.size w w') : Keep O w w' := ⟨h.os, h.tape, h.output, h.size, fun k hk _ => h.block k hk⟩
theorem Keep.trans {O : Nat → Prop} {w w1 w2 : World} (h : Keep O w w1) (k : Keep (Ext O w w1) w1 w2) : Keep O w w2 :=
  ⟨k.os.trans h.os, k.tape.trans h.tape, k.output.trans h.output, Nat.le_trans h.size k.size, fun i hi ho => (k.block i (Nat.lt_of_lt_of_le hi h.size) (fun hx => by rcases hx with hx | hx; exact ho hx; omega)).trans (h.block i hi ho)⟩
theorem Keep.mono {O O' : Nat → Prop} {w w' : World} (h : Keep O w w') (hO : ∀ k, k < w.heap.size → O k → O' k) : Keep O' w w' := ⟨h.os, h.tape, h.output, h.size, fun k hk ho => h.block k hk (fun hx => ho (hO k hk hx))⟩
theorem Keep.below {O : Nat → Prop} {w w' : World} {N : Nat} (h : Keep O w w') (hN : N ≤ w.heap.size) (hO : ∀ k, O k → N ≤ k) : Below N w w' :=
  ⟨h.os, h.tape, h.output, h.size, fun k hk => h.block k (by omega) (fun hx => by have := hO k hx; omega)⟩
theorem Keep.set {O : Nat → Prop} {w w' : World} (h : Keep O w w') {a : Addr} (ha : O a.block ∨ w.heap.size ≤ a.block) (v : Value) : Keep O w (w'.setCell a v) :=
  ⟨h.os, h.tape, h.output, by rw [World.size_setCell]; exact h.size, fun k hk ho => (Below.heap_setCell _ _ _ _ (fun e => by rcases ha with ha | ha; exact ho (e ▸ ha); omega)).trans (h.block k hk ho)⟩
theorem Keep.alloc {O : Nat → Prop} {w w' : World} (h : Keep O w w') (o : Obj) : Keep O w (w'.alloc o) :=
  ⟨h.os, h.tape, h.output, by have := h.size; simp; omega, fun k hk ho => (Below.heap_alloc _ _ _ (Nat.lt_of_lt_of_le hk h.size)).trans (h.block k hk ho)⟩
theorem Ext.lt {O : Nat → Prop} {w w' : World} (h : ∀ k, O k → k < w.heap.size) (hs : w.heap.size ≤ w'.heap.size) : ∀ k, Ext O w w' k → k < w'.heap.size := fun k hk => by
  rcases hk with hk | hk
  · exact Nat.lt_of_lt_of_le (h k hk) hs
  · exact hk.2
theorem ext_ext {O : Nat → Prop} {w w1 w2 : World} (h1 : w.heap.size ≤ w1.heap.size) (h2 : w1.heap.size ≤ w2.heap.size) : Ext (Ext O w w1) w1 w2 = Ext O w w2 := by
  funext k
  apply propext
  unfold Ext
  constructor
  · rintro ((h | h) | h)
    · exact .inl h
    · exact .inr (by omega)
    · exact .inr (by omega)
  · rintro (h | h)
    · exact .inl (.inl h)
    · rcases Nat.lt_or_ge k w1.heap.size with hk | hk
      · exact .inl (.inr (by omega))
      · exact .inr (by omega)

/-- A pointer to a node, or none. -/
def pt (o : Option Nat) : Value := .pointer (o.map fun b => ⟨b, 0, none⟩)

/-- The program's map in memory: its own block B, the root R, the middles, the leaves. Every block has a tag. -/
structure TrA (w : World) (O : Nat → Prop) (B R : Nat) (cm cl : Nat → Option Nat) (T : Nat → Nat) (M : Nat → Int) : Prop where
  wf : WM M
  b : Cl w B 1 (fun _ => .pointer (some ⟨R, 0, none⟩))
  r : Cl w R 16 (fun i => pt (cm i))
  m : ∀ t, t < 16 → ∀ b, cm t = some b → Cl w b 8 (fun s => pt (cl (8 * t + s)))
  l : ∀ k, k < 128 → ∀ b, cl k = some b → Cl w b 8 (fun n => .int .i64 (M (8 * k + n)))
  ob : O B
  or : O R
  om : ∀ t, t < 16 → ∀ b, cm t = some b → O b
  ol : ∀ k, k < 128 → ∀ b, cl k = some b → O b
  lt : ∀ k, O k → k < w.heap.size
  tb : T B = 0
  tr : T R = 1
  tm : ∀ t, t < 16 → ∀ b, cm t = some b → T b = 2 + t
  tl : ∀ k, k < 128 → ∀ b, cl k = some b → T b = 18 + k
  nl : ∀ k, k < 128 → cl k = none → ∀ n, n < 8 → M (8 * k + n) = 0
  nm : ∀ t, t < 16 → cm t = none → ∀ s, s < 8 → cl (8 * t + s) = none

/-- No node is in vain. -/
structure Ti (cm cl : Nat → Option Nat) (M : Nat → Int) : Prop where
  l : ∀ k, k < 128 → ∀ b, cl k = some b → ∃ n, n < 8 ∧ M (8 * k + n) ≠ 0
  m : ∀ t, t < 16 → ∀ b, cm t = some b → ∃ s, s < 8 ∧ cl (8 * t + s) ≠ none

def Tr (w : World) (O : Nat → Prop) (B : Nat) (M : Nat → Int) : Prop := ∃ R cm cl T, TrA w O B R cm cl T M ∧ Ti cm cl M

section
variable {w w' : World} {O O1 O' : Nat → Prop} {B R : Nat} {cm cl : Nat → Option Nat} {T : Nat → Nat} {M : Nat → Int}
theorem TrA.blocks (h : TrA w O B R cm cl T M) (hb : ∀ k, O k → Nr w k → w'.heap[k]? = w.heap[k]?) (hs : w.heap.size ≤ w'.heap.size) : TrA w' O B R cm cl T M :=
  ⟨h.wf, h.b.of_block (hb _ h.ob h.b.nr), h.r.of_block (hb _ h.or h.r.nr), fun t ht b e => (h.m t ht b e).of_block (hb _ (h.om t ht b e) (h.m t ht b e).nr), fun k hk b e => (h.l k hk b e).of_block (hb _ (h.ol k hk b e) (h.l k hk b e).nr),
    h.ob, h.or, h.om, h.ol, fun k ho => Nat.lt_of_lt_of_le (h.lt k ho) hs, h.tb, h.tr, h.tm, h.tl, h.nl, h.nm⟩
theorem TrA.keep (h : TrA w O B R cm cl T M) (hk : Keep O1 w w') (hd : ∀ k, O k → O1 k → False) : TrA w' O B R cm cl T M :=
  h.blocks (fun k ho _ => hk.block k (h.lt k ho) (fun hx => hd k ho hx)) hk.size
theorem Tr.keep (h : Tr w O B M) (hk : Keep O1 w w') (hd : ∀ k, O k → O1 k → False) : Tr w' O B M := by
  obtain ⟨R, cm, cl, T, h, t⟩ := h
  exact ⟨R, cm, cl, T, h.keep hk hd, t⟩
theorem TrA.below (h : TrA w O B R cm cl T M) (hb : Below w.heap.size w w') : TrA w' O B R cm cl T M := h.keep (Keep.of (O := fun _ => False) hb) (fun _ _ h => h)
theorem Tr.below (h : Tr w O B M) (hb : Below w.heap.size w w') : Tr w' O B M := h.keep (Keep.of (O := fun _ => False) hb) (fun _ _ h => h)
theorem TrA.mono (h : TrA w O B R cm cl T M) (ho : ∀ k, O k → O' k) (hl : ∀ k, O' k → k < w.heap.size) : TrA w O' B R cm cl T M :=
  ⟨h.wf, h.b, h.r, h.m, h.l, ho _ h.ob, ho _ h.or, fun t ht b e => ho _ (h.om t ht b e), fun k hk b e => ho _ (h.ol k hk b e), hl, h.tb, h.tr, h.tm, h.tl, h.nl, h.nm⟩
theorem Tr.mono (h : Tr w O B M) (ho : ∀ k, O k → O' k) (hl : ∀ k, O' k → k < w.heap.size) : Tr w O' B M := by
  obtain ⟨R, cm, cl, T, h, t⟩ := h
  exact ⟨R, cm, cl, T, h.mono ho hl, t⟩
theorem Tr.wf (h : Tr w O B M) : WM M := by obtain ⟨R, cm, cl, T, h, t⟩ := h; exact h.wf
theorem Tr.lt (h : Tr w O B M) : ∀ k, O k → k < w.heap.size := by obtain ⟨R, cm, cl, T, h, t⟩ := h; exact h.lt
theorem Tr.ob (h : Tr w O B M) : O B := by obtain ⟨R, cm, cl, T, h, t⟩ := h; exact h.ob
theorem TrA.c0 (h : TrA w O B R cm cl T M) : w.cell? ⟨B, 0, none⟩ = some (.pointer (some ⟨R, 0, none⟩)) := h.b.cell 0 (by omega)
end

/-- What a call that changes a map leaves. -/
def Mut (w : World) (O : Nat → Prop) (B : Nat) (M : Nat → Int) (w' : World) : Prop := Tr w' (Ext O w w') B M ∧ Keep O w w'
theorem Mut.same {w w' : World} {O : Nat → Prop} {B : Nat} {M : Nat → Int} (h : Tr w O B M) (hb : Below w.heap.size w w') : Mut w O B M w' :=
  ⟨(h.below hb).mono (fun _ hk => .inl hk) (Ext.lt h.lt hb.size), Keep.of hb⟩
theorem Mut.trans {w w1 w2 : World} {O : Nat → Prop} {B : Nat} {M1 M2 : Nat → Int} (h : Mut w O B M1 w1) (k : Mut w1 (Ext O w w1) B M2 w2) : Mut w O B M2 w2 :=
  ⟨by rw [← ext_ext h.2.size k.2.size]; exact k.1, h.2.trans k.2⟩
theorem Mut.after {w w1 w2 : World} {O : Nat → Prop} {B : Nat} {M : Nat → Int} (hb : Below w.heap.size w w1) (h : Mut w1 O B M w2) : Mut w O B M w2 := by
  refine ⟨h.1.mono (fun k hk => ?_) (fun k hk => ?_), (Keep.of hb).trans (h.2.mono fun _ _ hk => .inl hk)⟩
  · have := hb.size
    rcases hk with hk | hk
    · exact .inl hk
    · exact .inr (by omega)
  · rcases hk with hk | hk
    · exact h.1.lt k (.inl hk)
    · exact hk.2
theorem Mut.then {w w1 w2 : World} {O : Nat → Prop} {B : Nat} {M : Nat → Int} (h : Mut w O B M w1) (hb : Below w1.heap.size w1 w2) : Mut w O B M w2 := h.trans (Mut.same h.1 hb)

end Go.Proofs.Ytdjfeibcbmelcaa
