/- Blocks of cells, and what a call leaves as it was. -/
import Derived.Below
import Derived.WalkKit
import Derived.WalkSpells
import Derived.WalkLawsBesides
import Derived.Deep.QuietTactic
import Derived.BigQuiet
import Derived.Lib.Hide
import Derived.RangeFuncNested
import Derived.Test.YtejfoefhaphacaaGreatMa
namespace Go.Proofs.YtejfoefhaphacaaGreat
open Go.RowKit

/-- A block of cells that is no row of numbers. -/
def Nr (w : World) (b : Nat) : Prop := ∃ cs t d, w.heap[b]? = some (.cells cs t d) ∧ t ≠ 3
theorem Nr.of_block {w w' : World} {b : Nat} (h : Nr w b) (e : w'.heap[b]? = w.heap[b]?) : Nr w' b := by
  obtain ⟨cs, t, d, h1, h2⟩ := h
  exact ⟨cs, t, d, e.trans h1, h2⟩
theorem Nr.set {w : World} {b : Nat} (h : Nr w b) (a : Addr) (v : Value) : Nr (w.setCell a v) b := by
  obtain ⟨cs, t, d, h1, h2⟩ := h
  by_cases e : b = a.block
  · subst e
    obtain ⟨hlt, hk⟩ := Array.getElem?_eq_some_iff.1 h1
    refine ⟨if a.spot.isSome then cs else cs.setIfInBounds a.off v, t, d, ?_, h2⟩
    · show (w.heap.modify a.block _)[a.block]? = _
      rw [Array.getElem?_eq_getElem (by rw [Array.size_modify]; exact hlt), Array.getElem_modify_self, hk]
  · exact ⟨cs, t, d, (Below.heap_setCell w a v b e).trans h1, h2⟩
theorem Nr.new (w : World) (cs : Array Value) (t : TypeId) (h : t ≠ 3) : Nr (w.alloc (.cells cs t)) w.heap.size := ⟨cs, t, _, World.alloc_heap_new w _, h⟩

/-- The first n cells of a block, none frozen. -/
structure Cl (w : World) (b n : Nat) (f : Nat → Value) : Prop where
  cell : ∀ i, i < n → w.cell? ⟨b, i, none⟩ = some (f i)
  free : ∀ i, i < n → w.frozen? ⟨b, i, none⟩ = false
  nr : Nr w b
theorem Cl.of_block {w w' : World} {b n : Nat} {f : Nat → Value} (h : Cl w b n f) (e : w'.heap[b]? = w.heap[b]?) : Cl w' b n f :=
  ⟨fun i hi => (World.cell?_of_block (a := ⟨b, i, none⟩) e).trans (h.cell i hi), fun i hi => (World.frozen?_of_block (a := ⟨b, i, none⟩) e).trans (h.free i hi), h.nr.of_block e⟩
theorem Cl.lt {w : World} {b n : Nat} {f : Nat → Value} (h : Cl w b n f) : b < w.heap.size := by
  obtain ⟨cs, t, d, h1, _⟩ := h.nr
  exact (Array.getElem?_eq_some_iff.1 h1).1
theorem Cl.congr {w : World} {b n : Nat} {f g : Nat → Value} (h : Cl w b n f) (e : ∀ i, i < n → f i = g i) : Cl w b n g := ⟨fun i hi => by rw [h.cell i hi, e i hi], h.free, h.nr⟩
theorem Cl.set {w : World} {b n : Nat} {f : Nat → Value} (h : Cl w b n f) (i : Nat) (v : Value) : Cl (w.setCell ⟨b, i, none⟩ v) b n (fun j => if j = i then v else f j) := by
  refine ⟨fun j hj => ?_, fun j hj => by rw [World.frozen?_setCell]; exact h.free j hj, h.nr.set _ _⟩
  by_cases e : j = i
  · subst e
    rw [if_pos rfl]
    exact World.cell?_setCell_same _ _ _ (h.cell j hj)
  · rw [if_neg e, World.cell?_setCell_other w _ _ v (fun h => e (by injection h with _ h2 _; exact h2.symm))]
    exact h.cell j hj
theorem Cl.other {w : World} {b n : Nat} {f : Nat → Value} (h : Cl w b n f) {a : Addr} (ha : b ≠ a.block) (v : Value) : Cl (w.setCell a v) b n f := h.of_block (Below.heap_setCell _ _ _ _ ha)
theorem Cl.alloc {w : World} {b n : Nat} {f : Nat → Value} (h : Cl w b n f) (o : Obj) : Cl (w.alloc o) b n f := h.of_block (Below.heap_alloc _ _ _ h.lt)

/-- What a call that owns O leaves as it was. -/
structure Keep (O : Nat → Prop) (w w' : World) : Prop where
  os : w'.os = w.os
  tape : w'.tape = w.tape
  output : w'.output = w.output
  size : w.heap.size ≤ w'.heap.size
  block : ∀ k, k < w.heap.size → ¬ O k → w'.heap[k]? = w.heap[k]?
def Ext (O : Nat → Prop) (w w' : World) : Nat → Prop := fun k => O k ∨ (w.heap.size ≤ k ∧ k < w'.heap.size)
def Nw (w w' : World) : Nat → Prop := fun k => w.heap.size ≤ k ∧ k < w'.heap.size
theorem Keep.refl (O : Nat → Prop) (w : World) : Keep O w w := ⟨rfl, rfl, rfl, Nat.le_refl _, fun _ _ _ => rfl⟩
theorem Keep.of {O : Nat → Prop} {w w' : World} (h : Below w.heap.size w w') : Keep O w w' := ⟨h.os, h.tape, h.output, h.size, fun k hk _ => h.block k hk⟩
theorem Keep.trans {O : Nat → Prop} {w w1 w2 : World} (h : Keep O w w1) (k : Keep (Ext O w w1) w1 w2) : Keep O w w2 :=
  ⟨k.os.trans h.os, k.tape.trans h.tape, k.output.trans h.output, Nat.le_trans h.size k.size, fun i hi ho => (k.block i (Nat.lt_of_lt_of_le hi h.size) (fun hx => by rcases hx with hx | hx; exact ho hx; omega)).trans (h.block i hi ho)⟩
theorem Keep.mono {O O' : Nat → Prop} {w w' : World} (h : Keep O w w') (hO : ∀ k, k < w.heap.size → O k → O' k) : Keep O' w w' := ⟨h.os, h.tape, h.output, h.size, fun k hk ho => h.block k hk (fun hx => ho (hO k hk hx))⟩
theorem Keep.below {O : Nat → Prop} {w w' : World} {N : Nat} (h : Keep O w w') (hN : N ≤ w.heap.size) (hO : ∀ k, O k → N ≤ k) : Below N w w' :=
  ⟨h.os, h.tape, h.output, h.size, fun k hk => h.block k (by omega) (fun hx => by have := hO k hx; omega)⟩
theorem Keep.set {O : Nat → Prop} {w w' : World} (h : Keep O w w') {a : Addr} (ha : O a.block ∨ w.heap.size ≤ a.block) (v : Value) : Keep O w (w'.setCell a v) :=
  ⟨h.os, h.tape, h.output, by rw [World.size_setCell]; exact h.size, fun k hk ho => (Below.heap_setCell _ _ _ _ (fun e => by rcases ha with ha | ha; exact ho (e ▸ ha); omega)).trans (h.block k hk ho)⟩
theorem Keep.alloc {O : Nat → Prop} {w w' : World} (h : Keep O w w') (o : Obj) : Keep O w (w'.alloc o) :=
  ⟨h.os, h.tape, h.output, by have := h.size; simp; omega, fun k hk ho => (Below.heap_alloc _ _ _ (Nat.lt_of_lt_of_le hk h.size)).trans (h.block k hk ho)⟩
theorem Ext.lt {O : Nat → Prop} {w w' : World} (h : ∀ k, O k → k < w.heap.size) (hs : w.heap.size ≤ w'.heap.size) : ∀ k, Ext O w w' k → k < w'.heap.size := fun k hk => by
  rcases hk with hk | hk
  · exact Nat.lt_of_lt_of_le (h k hk) hs
  · exact hk.2
theorem ext_ext {O : Nat → Prop} {w w1 w2 : World} (h1 : w.heap.size ≤ w1.heap.size) (h2 : w1.heap.size ≤ w2.heap.size) : Ext (Ext O w w1) w1 w2 = Ext O w w2 := by
  funext k
  apply propext
  unfold Ext
  constructor
  · rintro ((h | h) | h)
    · exact .inl h
    · exact .inr (by omega)
    · exact .inr (by omega)
  · rintro (h | h)
    · exact .inl (.inl h)
    · rcases Nat.lt_or_ge k w1.heap.size with hk | hk
      · exact .inl (.inr (by omega))
      · exact .inr (by omega)

/-- The cells of a span's own block: the program's (r = false), the document's (r = true). -/
def bF (r : Bool) (m : Mo) (A c : Nat) : Nat → Value := fun i => match r with
  | false => if i = 0 then .int .i64 m.s else if i = 1 then .int .i64 m.z else if i = 2 then .int .i64 m.g else if i = 3 then .int .i64 m.t else .slice (some ⟨A, 0, none⟩) m.n c
  | true => if i = 0 then .int .i64 m.z else if i = 1 then .int .i64 m.g else if i = 2 then .int .i64 m.t else if i = 3 then .int .i64 m.s else .slice (some ⟨A, 0, none⟩) m.n c
def aF (r : Bool) (x : Bool) : Value := match r with
  | false => .int .u8 (if x then 1 else 0)
  | true => .bool x

structure SpA (r : Bool) (w : World) (O : Nat → Prop) (B A c : Nat) (m : Mo) : Prop where
  wf : WF m
  b : Cl w B 5 (bF r m A c)
  a : Cl w A m.n (fun i => aF r (m.f i))
  ob : O B
  oa : O A
  ne : B ≠ A
  lt : ∀ k, O k → k < w.heap.size
  cp : m.n ≤ c
def NoS (w : World) (O : Nat → Prop) (v : Value) : Prop := v = .pointer none ∨ ∃ B, v = .pointer (some ⟨B, 0, none⟩) ∧ O B ∧ w.cell? ⟨B, 4, none⟩ = some (.slice none 0 0)
/-- A span in memory, or one that nobody made. -/
def Ob (r : Bool) (w : World) (O : Nat → Prop) (v : Value) : Option Mo → Prop
  | none => NoS w O v ∧ ∀ k, O k → k < w.heap.size
  | some m => ∃ B A c, v = .pointer (some ⟨B, 0, none⟩) ∧ SpA r w O B A c m
section
variable {r : Bool} {w w' : World} {O O1 O' : Nat → Prop} {B A c : Nat} {m : Mo} {v : Value} {om : Option Mo}
theorem SpA.blocks (h : SpA r w O B A c m) (hB : w'.heap[B]? = w.heap[B]?) (hA : w'.heap[A]? = w.heap[A]?) (hs : w.heap.size ≤ w'.heap.size) : SpA r w' O B A c m :=
  ⟨h.wf, h.b.of_block hB, h.a.of_block hA, h.ob, h.oa, h.ne, fun k hk => Nat.lt_of_lt_of_le (h.lt k hk) hs, h.cp⟩
theorem SpA.keep (h : SpA r w O B A c m) (hk : Keep O1 w w') (hd : ∀ k, O k → O1 k → False) : SpA r w' O B A c m :=
  h.blocks (hk.block _ (h.lt _ h.ob) (fun hx => hd _ h.ob hx)) (hk.block _ (h.lt _ h.oa) (fun hx => hd _ h.oa hx)) hk.size
theorem SpA.below (h : SpA r w O B A c m) (hb : Below w.heap.size w w') : SpA r w' O B A c m := h.keep (Keep.of (O := fun _ => False) hb) (fun _ _ h => h)
theorem Ob.lt (h : Ob r w O v om) : ∀ k, O k → k < w.heap.size := by
  cases om with
  | none => exact h.2
  | some m => obtain ⟨B, A, c, _, h⟩ := h; exact h.lt
theorem Ob.keep (h : Ob r w O v om) (hk : Keep O1 w w') (hd : ∀ k, O k → O1 k → False) : Ob r w' O v om := by
  cases om with
  | none =>
    obtain ⟨h, hl⟩ := h
    refine ⟨?_, fun k ho => Nat.lt_of_lt_of_le (hl k ho) hk.size⟩
    rcases h with h | ⟨B, h, ho, hc⟩
    · exact .inl h
    · exact .inr ⟨B, h, ho, (World.cell?_of_block (a := ⟨B, 4, none⟩) (hk.block B (hl B ho) (fun hx => hd _ ho hx))).trans hc⟩
  | some m =>
    obtain ⟨B, A, c, e, h⟩ := h
    exact ⟨B, A, c, e, h.keep hk hd⟩
theorem Ob.below (h : Ob r w O v om) (hb : Below w.heap.size w w') : Ob r w' O v om := h.keep (Keep.of (O := fun _ => False) hb) (fun _ _ h => h)
theorem Ob.mono (h : Ob r w O v om) (ho : ∀ k, O k → O' k) (hl : ∀ k, O' k → k < w.heap.size) : Ob r w O' v om := by
  cases om with
  | none =>
    obtain ⟨h, _⟩ := h
    refine ⟨?_, hl⟩
    rcases h with h | ⟨B, h, hb, hc⟩
    · exact .inl h
    · exact .inr ⟨B, h, ho _ hb, hc⟩
  | some m =>
    obtain ⟨B, A, c, e, h⟩ := h
    exact ⟨B, A, c, e, h.wf, h.b, h.a, ho _ h.ob, ho _ h.oa, h.ne, hl, h.cp⟩
/-- One object's state is written. -/
theorem SpA.set (h : SpA r w O B A c m) (i : Nat) (x : Bool) : SpA r (w.setCell ⟨A, i, none⟩ (aF r x)) O B A c (m.set i x) :=
  ⟨h.wf.set i x, (h.b.other h.ne _).congr fun _ _ => rfl, (h.a.set i (aF r x)).congr fun j _ => by
    show (if j = i then aF r x else aF r (m.f j)) = aF r (if j = i then x else m.f j)
    split <;> rfl, h.ob, h.oa, h.ne, fun k hk => by rw [World.size_setCell]; exact h.lt k hk, h.cp⟩
theorem SpA.ob' (h : SpA r w O B A c m) : Ob r w O (.pointer (some ⟨B, 0, none⟩)) (some m) := ⟨B, A, c, rfl, h⟩
end

/-- What a call that changes a span leaves. -/
def Mut (r : Bool) (w : World) (O : Nat → Prop) (v : Value) (om : Option Mo) (w' : World) : Prop := Ob r w' O v om ∧ Keep O w w'
theorem Mut.same {r : Bool} {w w' : World} {O : Nat → Prop} {v : Value} {om : Option Mo} (h : Ob r w O v om) (hb : Below w.heap.size w w') : Mut r w O v om w' := ⟨h.below hb, Keep.of hb⟩
theorem Mut.trans {r : Bool} {w w1 w2 : World} {O : Nat → Prop} {v : Value} {o1 o2 : Option Mo} (h : Mut r w O v o1 w1) (k : Mut r w1 O v o2 w2) : Mut r w O v o2 w2 :=
  ⟨k.1, h.2.trans (k.2.mono fun _ _ hk => .inl hk)⟩
theorem Mut.after {r : Bool} {w w1 w2 : World} {O : Nat → Prop} {v : Value} {om : Option Mo} (hb : Below w.heap.size w w1) (h : Mut r w1 O v om w2) : Mut r w O v om w2 := ⟨h.1, (Keep.of hb).trans (h.2.mono fun _ _ hk => .inl hk)⟩
theorem Mut.then {r : Bool} {w w1 w2 : World} {O : Nat → Prop} {v : Value} {om : Option Mo} (h : Mut r w O v om w1) (hb : Below w1.heap.size w1 w2) : Mut r w O v om w2 := h.trans (Mut.same h.1 hb)

end Go.Proofs.YtejfoefhaphacaaGreat
