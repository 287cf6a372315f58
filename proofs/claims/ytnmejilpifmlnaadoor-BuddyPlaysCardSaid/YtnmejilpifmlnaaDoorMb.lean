/- Cells, sets and tables in memory, and what a call leaves as it was. -/
import Derived.Test.YtnmejilpifmlnaaDoorRows
import Derived.Test.YtnmejilpifmlnaaDoorMa
import Derived.Below
import Derived.Maps.OwnSet
import Derived.Laws.Externs
import Derived.WalkKit
import Derived.Deep.QuietTactic
import Derived.BigQuiet
import Derived.Lib.TrailingZeros
namespace Go.Proofs.YtnmejilpifmlnaaDoor
open Go.RowKit Go.Maps Go.ChangeMaps Go.MapKept Go.WideElems

theorem btr {B : Nat} {a b c : World} (h : Below B a b) (hb : Below b.heap.size b c) (hB : B ≤ a.heap.size) : Below B a c := h.trans (hb.mono (Nat.le_trans hB h.size))
theorem bnew (w : World) (o : Obj) : Below w.heap.size w (w.alloc o) := (Below.refl _ _).alloc (Nat.le_refl _) _
theorem belowN {N : Nat} {w1 w2 : World} (hb : Below N w1 w2) (k : Nat) : Below N w1 (w2.drewN k) := by
  constructor
  · exact hb.os
  · exact hb.tape
  · exact hb.output
  · exact hb.size
  · exact hb.block
theorem bdr {W w1 : World} {k : Nat} (h : Below (W.drewN k).heap.size (W.drewN k) w1) : Below W.heap.size W w1 := (belowN (Below.refl _ _) k).trans h

/-- The first n cells of a block, none frozen. -/
structure Cl (w : World) (b n : Nat) (f : Nat → Value) : Prop where
  cell : ∀ i, i < n → w.cell? ⟨b, i, none⟩ = some (f i)
  free : ∀ i, i < n → w.frozen? ⟨b, i, none⟩ = false

theorem Cl.of_block {w w' : World} {b n : Nat} {f : Nat → Value} (h : Cl w b n f) (e : w'.heap[b]? = w.heap[b]?) : Cl w' b n f :=
  ⟨fun i hi => (World.cell?_of_block (a := ⟨b, i, none⟩) e).trans (h.cell i hi), fun i hi => (World.frozen?_of_block (a := ⟨b, i, none⟩) e).trans (h.free i hi)⟩
theorem Cl.lt {w : World} {b n : Nat} {f : Nat → Value} (h : Cl w b n f) (hn : 0 < n) : b < w.heap.size := World.block_lt_of_cell? _ _ (h.cell 0 hn)
theorem Cl.congr {w : World} {b n : Nat} {f g : Nat → Value} (h : Cl w b n f) (e : ∀ i, i < n → f i = g i) : Cl w b n g := ⟨fun i hi => by rw [h.cell i hi, e i hi], h.free⟩
theorem Cl.set {w : World} {b n : Nat} {f : Nat → Value} (h : Cl w b n f) (i : Nat) (v : Value) : Cl (w.setCell ⟨b, i, none⟩ v) b n (fun j => if j = i then v else f j) := by
  refine ⟨fun j hj => ?_, fun j hj => by rw [World.frozen?_setCell]; exact h.free j hj⟩
  by_cases e : j = i
  · subst e
    rw [if_pos rfl]
    exact World.cell?_setCell_same _ _ _ (h.cell j hj)
  · rw [if_neg e, World.cell?_setCell_other w _ _ v (fun h => e (by injection h with _ h2 _; exact h2.symm))]
    exact h.cell j hj
theorem Cl.other {w : World} {b n : Nat} {f : Nat → Value} (h : Cl w b n f) {a : Addr} (ha : b ≠ a.block) (v : Value) : Cl (w.setCell a v) b n f := h.of_block (Below.heap_setCell _ _ _ _ ha)
theorem Cl.drew {w : World} {b n : Nat} {f : Nat → Value} (h : Cl w b n f) : Cl w.drew b n f := ⟨h.cell, h.free⟩
theorem Cl.alloc {w : World} {b n : Nat} {f : Nat → Value} (h : Cl w b n f) (hb : b < w.heap.size) (o : Obj) : Cl (w.alloc o) b n f := h.of_block (Below.heap_alloc _ _ _ hb)

/-- What a call that owns O leaves as it was. -/
structure Keep (O : Nat → Prop) (w w' : World) : Prop where
  os : w'.os = w.os
  tape : w'.tape = w.tape
  output : w'.output = w.output
  size : w.heap.size ≤ w'.heap.size
  block : ∀ k, k < w.heap.size → ¬ O k → w'.heap[k]? = w.heap[k]?

/-- What the call made. -/
def Nw (w w' : World) : Nat → Prop := fun k => w.heap.size ≤ k ∧ k < w'.heap.size

theorem Keep.refl (O : Nat → Prop) (w : World) : Keep O w w := ⟨rfl, rfl, rfl, Nat.le_refl _, fun _ _ _ => rfl⟩
theorem Keep.of {O : Nat → Prop} {w w' : World} (h : Below w.heap.size w w') : Keep O w w' := ⟨h.os, h.tape, h.output, h.size, fun k hk _ => h.block k hk⟩
theorem Keep.trans {O : Nat → Prop} {w w1 w2 : World} (h : Keep O w w1) (k : Keep O w1 w2) : Keep O w w2 :=
  ⟨k.os.trans h.os, k.tape.trans h.tape, k.output.trans h.output, Nat.le_trans h.size k.size, fun i hi ho => (k.block i (Nat.lt_of_lt_of_le hi h.size) ho).trans (h.block i hi ho)⟩
theorem Keep.mono {O O' : Nat → Prop} {w w' : World} (h : Keep O w w') (hO : ∀ k, k < w.heap.size → O k → O' k) : Keep O' w w' := ⟨h.os, h.tape, h.output, h.size, fun k hk ho => h.block k hk (fun hx => ho (hO k hk hx))⟩
theorem Keep.below {O : Nat → Prop} {w w' : World} {N : Nat} (h : Keep O w w') (hN : N ≤ w.heap.size) (hO : ∀ k, O k → N ≤ k) : Below N w w' :=
  ⟨h.os, h.tape, h.output, h.size, fun k hk => h.block k (by omega) (fun hx => by have := hO k hx; omega)⟩
theorem Keep.set {O : Nat → Prop} {w w' : World} (h : Keep O w w') {a : Addr} (ha : O a.block ∨ w.heap.size ≤ a.block) (v : Value) : Keep O w (w'.setCell a v) :=
  ⟨h.os, h.tape, h.output, by rw [World.size_setCell]; exact h.size, fun k hk ho => (Below.heap_setCell _ _ _ _ (fun e => by rcases ha with ha | ha; exact ho (e ▸ ha); omega)).trans (h.block k hk ho)⟩
theorem Keep.drew {O : Nat → Prop} {w w' : World} (h : Keep O w w') : Keep O w w'.drew := ⟨h.os, h.tape, h.output, h.size, h.block⟩
theorem Keep.drewN {O : Nat → Prop} {w w' : World} (h : Keep O w w') (n : Nat) : Keep O w (w'.drewN n) := ⟨h.os, h.tape, h.output, h.size, h.block⟩
theorem Keep.alloc {O : Nat → Prop} {w w' : World} (h : Keep O w w') (o : Obj) : Keep O w (w'.alloc o) :=
  ⟨h.os, h.tape, h.output, by have := h.size; simp; omega, fun k hk ho => (Below.heap_alloc _ _ _ (Nat.lt_of_lt_of_le hk h.size)).trans (h.block k hk ho)⟩
theorem Keep.grown {O : Nat → Prop} {w w1 w2 : World} {b : Nat} (h : Keep O w w1) (hg : w1.grownBy w2 (some b)) (hb : O b ∨ w.heap.size ≤ b) : Keep O w w2 :=
  ⟨hg.os.trans h.os, hg.tape.trans h.tape, hg.output.trans h.output, Nat.le_trans h.size hg.size, fun k hk ho => (hg.block k (Nat.lt_of_lt_of_le hk h.size) (fun e => by cases e; rcases hb with hb | hb; exact ho hb; omega)).trans (h.block k hk ho)⟩
/-- What comes behind an allocation of a box that nobody else knows. -/
theorem Keep.pre {O : Nat → Prop} {w w1 w2 : World} (hb : Below w.heap.size w w1) (h : Keep O w1 w2) : Keep O w w2 := (Keep.of hb).trans h

/-! ### sets of numbers -/

theorem keyed3 : Keyed Tryd.prog 3 := int_keyed Tryd.underlying3
theorem zero4 (w : World) : (zeroValue 4).run Tryd.prog w = .ok (.bool false) w := by kernel_rfl

/-- Block b is a map of numbers to true: just these. -/
def RawSet (w : World) (b : Nat) (L : List Nat) : Prop :=
  ∃ es clock, w.heap[b]? = some (.map es clock) ∧ Fit Tryd.prog 3 (plainElem (H := Unit) Tryd.prog 4) es clock ∧ es.toList.map (fun x => (x.key, x.val)) = L.map (fun (x : Nat) => (Value.int .i64 (x : Int), Value.bool true))
def SetAt (w : World) (b : Nat) (S : Nat → Prop) : Prop := ∃ L : List Nat, (∀ x, x ∈ L ↔ S x) ∧ RawSet w b L

theorem RawSet.of_block {w w' : World} {b : Nat} {L : List Nat} (h : RawSet w b L) (e : w'.heap[b]? = w.heap[b]?) : RawSet w' b L := by
  obtain ⟨es, clock, hb, h⟩ := h
  exact ⟨es, clock, e.trans hb, h⟩
theorem SetAt.of_block {w w' : World} {b : Nat} {S : Nat → Prop} (h : SetAt w b S) (e : w'.heap[b]? = w.heap[b]?) : SetAt w' b S := by
  obtain ⟨L, h1, h2⟩ := h
  exact ⟨L, h1, h2.of_block e⟩
theorem SetAt.congr {w : World} {b : Nat} {S S' : Nat → Prop} (h : SetAt w b S) (e : ∀ x, S x ↔ S' x) : SetAt w b S' := by
  obtain ⟨L, h1, h2⟩ := h
  exact ⟨L, fun x => (h1 x).trans (e x), h2⟩
theorem SetAt.lt {w : World} {b : Nat} {S : Nat → Prop} (h : SetAt w b S) : b < w.heap.size := by
  obtain ⟨L, _, es, clock, hb, _⟩ := h
  exact (Array.getElem?_eq_some_iff.1 hb).1
theorem SetAt.no_cell {w : World} {b : Nat} {S : Nat → Prop} (h : SetAt w b S) (a : Addr) (ha : a.block = b) : w.cell? a = none := by
  obtain ⟨L, _, es, clock, hb, _⟩ := h
  subst ha
  simp [World.cell?, hb]

section
variable {w : World} {b : Nat} {L : List Nat}
theorem RawSet.nodup (h : RawSet w b L) : L.Nodup := by
  obtain ⟨es, clock, hb, F, hm⟩ := h
  have h1 := ((stamped_iff es clock).1 F.stamped).2.2
  have h2 : (es.toList.map (fun x => x.key)).Pairwise (· ≠ ·) := List.pairwise_map.2 h1
  have h3 : es.toList.map (fun x => x.key) = L.map (fun x : Nat => Value.int .i64 (x : Int)) := by
    have := congrArg (List.map (·.1)) hm
    simpa [List.map_map, Function.comp_def] using this
  rw [h3, List.pairwise_map] at h2
  exact h2.imp (fun hne e => hne (by rw [e]))
theorem RawSet.key_of {es : Array MapEntry} (hm : es.toList.map (fun x => (x.key, x.val)) = L.map (fun (x : Nat) => (Value.int .i64 (x : Int), Value.bool true))) {e : MapEntry} (he : e ∈ es.toList) : ∃ x : Nat, x ∈ L ∧ e.key = .int .i64 x ∧ e.val = .bool true := by
  have : (e.key, e.val) ∈ es.toList.map (fun x => (x.key, x.val)) := List.mem_map.2 ⟨e, he, rfl⟩
  rw [hm] at this
  obtain ⟨x, hx, e1⟩ := List.mem_map.1 this
  exact ⟨x, hx, by injection e1 with a _; exact a.symm, by injection e1 with _ a; exact a.symm⟩
theorem RawSet.entry {es : Array MapEntry} (hm : es.toList.map (fun x => (x.key, x.val)) = L.map (fun (x : Nat) => (Value.int .i64 (x : Int), Value.bool true))) {x : Nat} (hx : x ∈ L) : ∃ e ∈ es.toList, e.key = .int .i64 (x : Int) := by
  have : (Value.int .i64 (x : Int), Value.bool true) ∈ L.map (fun (x : Nat) => (Value.int .i64 (x : Int), Value.bool true)) := List.mem_map.2 ⟨x, hx, rfl⟩
  rw [← hm] at this
  obtain ⟨e, he, e1⟩ := List.mem_map.1 this
  exact ⟨e, he, by injection e1⟩

theorem wf64 {x : Int} (h : -9223372036854775808 ≤ x ∧ x ≤ 9223372036854775807) : (Lit.int .i64 x).wf = true := WalkArith.wf_i64 (by omega)

/-- Asking. -/
theorem RawSet.look (h : RawSet w b L) {x : Int} (hx : -9223372036854775808 ≤ x ∧ x ≤ 9223372036854775807) :
    (Instr.lookup 64 (.map (some b)) (.int .i64 x) false).run Tryd.prog w = .ok (.bool (decide (∃ y ∈ L, (y : Int) = x))) w := by
  obtain ⟨es, clock, hb, F, hm⟩ := h
  rcases Maps.fit_look false keyed3 Tryd.underlying64 (zero4 w) hb F (keyOf_int_mk Tryd.underlying3 (wf64 hx)) with ⟨hrun, hno, _⟩ | ⟨e0, y, he, hk, hrun, _⟩
  · rw [hrun]
    have : decide (∃ y ∈ L, (y : Int) = x) = false := by
      rw [decide_eq_false_iff_not]
      rintro ⟨y, hy, rfl⟩
      obtain ⟨e, he, hk⟩ := RawSet.entry hm hy
      exact hno e he hk
    rw [this]
    rfl
  · rw [hrun]
    obtain ⟨y, hy, hk2, hv⟩ := RawSet.key_of hm he
    have : decide (∃ y ∈ L, (y : Int) = x) = true := by
      rw [decide_eq_true_eq]
      rw [hk] at hk2
      exact ⟨y, hy, by injection hk2 with _ a; exact a.symm⟩
    rw [this, hv]
    rfl

/-- One more. -/
theorem RawSet.put (h : RawSet w b L) {x : Nat} (hx : (x : Int) ≤ 9223372036854775807) (hn : x ∉ L) (hl : L.length < 9223372036854775807) :
    ∃ w', (Instr.mapUpdate 64 (.map (some b)) (.int .i64 (x : Int)) (.bool true)).run Tryd.prog w = .ok () w' ∧ RawSet w' b (L ++ [x]) ∧ w.grownBy w' (some b) := by
  obtain ⟨es, clock, hb, F, hm⟩ := h
  have hkey : keyOf Tryd.prog 3 (.int .i64 (x : Int)) = some (.int .i64 x) := keyOf_int_mk Tryd.underlying3 (wf64 (by omega))
  have hsz : es.size = L.length := by
    have := congrArg List.length hm
    simpa using this
  rcases keyed3.find w hkey es.toList (fun e he => by obtain ⟨y, hy⟩ := F.reads e he; exact ⟨_, rd_key hy⟩) with ⟨h1, h2⟩ | ⟨j, e0, h1, h2, h3⟩
  · refine ⟨setBlock w b (.map (es.push ⟨.int .i64 (x : Int), .bool true, clock⟩) (clock + 1)), ?_, ⟨_, _, heap_setBlock_same hb _, ⟨by simp [maxLen]; omega, stamped_push F.stamped h2, ?_⟩, ?_⟩, ?_⟩
    · simp [Instr.mapUpdate, run_underlying Tryd.underlying64, MapKept.run_getObj_map hb, keyed3.check w false hkey, h1, MapKept.run_setObj_map _ hb, Result.andThen, setBlock]
    · intro e he
      simp only [Array.toList_push, List.mem_append, List.mem_singleton] at he
      rcases he with he | rfl
      · exact F.reads e he
      · exact ⟨_, rd_mk hkey (plainElem_bool Tryd.underlying4 true)⟩
    · rw [Array.toList_push, List.map_append, hm, List.map_append]
      rfl
    · exact ⟨rfl, rfl, rfl, by simp [setBlock], fun i _ hi => heap_setBlock_other hb _ (fun e => hi (by rw [e]))⟩
  · exfalso
    obtain ⟨y, hy, hk2, _⟩ := RawSet.key_of hm (List.mem_of_getElem? h2)
    rw [h3] at hk2
    have : (x : Int) = y := by injection hk2
    have : x = y := by omega
    exact hn (this ▸ hy)

/-- One less. -/
theorem RawSet.del (h : RawSet w b L) {x : Int} (hx : -9223372036854775808 ≤ x ∧ x ≤ 9223372036854775807) :
    ∃ w' L', (∀ ty, (Builtin.delete_ #[64, 3] ty #[.map (some b), .int .i64 x]).run Tryd.prog w = .ok (.tuple #[]) w') ∧ RawSet w' b L' ∧ (∀ y : Nat, y ∈ L' ↔ y ∈ L ∧ (y : Int) ≠ x) ∧ w.grownBy w' (some b) := by
  have hnd := h.nodup
  obtain ⟨es, clock, hb, F, hm⟩ := h
  have hkey : keyOf Tryd.prog 3 (.int .i64 x) = some (.int .i64 x) := keyOf_int_mk Tryd.underlying3 (wf64 hx)
  rcases keyed3.find w hkey es.toList (fun e he => by obtain ⟨y, hy⟩ := F.reads e he; exact ⟨_, rd_key hy⟩) with ⟨h1, h2⟩ | ⟨j, e0, h1, h2, h3⟩
  · refine ⟨setBlock w b (.map es clock), L, ?_, ⟨es, clock, heap_setBlock_same hb _, F, hm⟩, fun y => ⟨fun hy => ⟨hy, ?_⟩, fun hy => hy.1⟩, ?_⟩
    · intro ty
      simp [Builtin.delete_, run_underlying Tryd.underlying64, MapKept.run_getObj_map hb, keyed3.check w _ hkey, h1, MapKept.run_setObj_map _ hb, Result.andThen, setBlock]
    · rintro rfl
      obtain ⟨e, he, hk⟩ := RawSet.entry hm hy
      exact h2 e he hk
    · exact ⟨rfl, rfl, rfl, by simp [setBlock], fun i _ hi => heap_setBlock_other hb _ (fun e => hi (by rw [e]))⟩
  · have hjl : j < es.toList.length := (List.getElem?_eq_some_iff.1 h2).1
    have hjs : j < es.size := by simpa using hjl
    have hsub : (es.eraseIdxIfInBounds j).toList = es.toList.eraseIdx j := by
      unfold Array.eraseIdxIfInBounds
      rw [dif_pos hjs]
      simp
    have hLj : L[j]? = some x.toNat ∧ 0 ≤ x := by
      have e1 : (es.toList.map (fun x => (x.key, x.val)))[j]? = some (e0.key, e0.val) := by rw [List.getElem?_map, h2]; rfl
      rw [hm, List.getElem?_map, h3] at e1
      cases hL : L[j]? with
      | none => rw [hL] at e1; cases e1
      | some y =>
        rw [hL] at e1
        have e2 : (y : Int) = x := by
          have := Option.some.inj e1
          have := (Prod.mk.inj this).1
          injection this
        refine ⟨?_, by omega⟩
        rw [← e2]; rfl
    refine ⟨setBlock w b (.map (es.eraseIdxIfInBounds j) clock), L.eraseIdx j, ?_, ⟨_, clock, heap_setBlock_same hb _, ⟨Nat.le_trans (MapFrom.size_erase es j) F.size, stamped_erase F.stamped j, ?_⟩, ?_⟩, fun y => ?_, ?_⟩
    · intro ty
      simp [Builtin.delete_, run_underlying Tryd.underlying64, MapKept.run_getObj_map hb, keyed3.check w _ hkey, h1, MapKept.run_setObj_map _ hb, Result.andThen, setBlock]
    · intro e he
      rw [hsub] at he
      exact F.reads e ((List.eraseIdx_sublist _ _).subset he)
    · rw [hsub, map_eraseIdx, hm, ← map_eraseIdx]
    · obtain ⟨hj, hx0⟩ := hLj
      rw [List.mem_eraseIdx_iff_getElem?]
      constructor
      · rintro ⟨i, hi, hy⟩
        refine ⟨List.mem_of_getElem? hy, fun e => ?_⟩
        have e2 : x.toNat = y := by omega
        rw [e2] at hj
        obtain ⟨i1, i2⟩ := List.getElem?_eq_some_iff.1 hy
        obtain ⟨j1, j2⟩ := List.getElem?_eq_some_iff.1 hj
        have hp := List.pairwise_iff_getElem.1 hnd
        rcases Nat.lt_or_gt_of_ne hi with hlt | hgt
        · exact hp i j i1 j1 hlt (by rw [i2, j2])
        · exact hp j i j1 i1 hgt (by rw [i2, j2])
      · rintro ⟨hy, hne⟩
        obtain ⟨i, hi⟩ := List.mem_iff_getElem?.1 hy
        refine ⟨i, fun e => ?_, hi⟩
        rw [e, hj] at hi
        injection hi with hi
        omega
    · exact ⟨rfl, rfl, rfl, by simp [setBlock], fun i _ hi => heap_setBlock_other hb _ (fun e => hi (by rw [e]))⟩

/-- How many. -/
theorem RawSet.len (h : RawSet w b L) (ty : TypeId) : (Builtin.len_ #[64] ty #[.map (some b)]).run Tryd.prog w = .ok (.int .i64 (L.length : Int)) w := by
  obtain ⟨es, clock, hb, F, hm⟩ := h
  have hsz : es.size = L.length := by
    have := congrArg List.length hm
    simpa using this
  simp [Builtin.len_, run_underlying Tryd.underlying64, MapKept.run_getObj_map hb, Result.andThen, hsz]
  rfl
end

end Go.Proofs.YtnmejilpifmlnaaDoor
