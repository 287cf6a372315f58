/- Blocks of cells, what a call leaves as it was; slices that begin anywhere in their block; a cache in memory. -/
import Derived.Below
import Derived.WalkKit
import Derived.WalkSpells
import Derived.WalkLawsBesides
import Derived.Deep.QuietTactic
import Derived.BigQuiet
import Derived.Lib.Hide
import Derived.ArgAppend
import Derived.Maps.AppendAt
import Derived.Test.YticcjelaenhigaaMa
import Derived.Maps.OwnSet
import Derived.Maps.RangeRun
import Derived.Maps.RangeWalk
namespace Go.Proofs.Yticcjelaenhigaa
open Go.RowKit

theorem ret_int {k : IntKind} {a b : Int} (h : a = b) : Ending.returned (.int k a) = .returned (.int k b) := by rw [h]
theorem ret_bool {a b : Bool} (h : a = b) : Ending.returned (.bool a) = .returned (.bool b) := by rw [h]
theorem btr {B : Nat} {a b c : World} (h : Below B a b) (hb : Below b.heap.size b c) (hB : B ≤ a.heap.size) : Below B a c := h.trans (hb.mono (Nat.le_trans hB h.size))
theorem bnew (w : World) (o : Obj) : Below w.heap.size w (w.alloc o) := (Below.refl _ _).alloc (Nat.le_refl _) _
theorem belowN {N : Nat} {w1 w2 : World} (hb : Below N w1 w2) (k : Nat) : Below N w1 (w2.drewN k) := by
  constructor
  · exact hb.os
  · exact hb.tape
  · exact hb.output
  · exact hb.size
  · exact hb.block
theorem w64 (a : Int) (h : -9223372036854775808 ≤ a ∧ a ≤ 9223372036854775807) : wrap64 a = a ∧ IntKind.i64.wrap a = a := ⟨IntWalk.wrap64_in _ h, IntWalk.i64_in _ h⟩
def InR (x : Int) : Prop := -9223372036854775808 ≤ x ∧ x ≤ 9223372036854775807

/-- The first n cells of a block, none frozen. -/
structure Cl (w : World) (b n : Nat) (f : Nat → Value) : Prop where
  cell : ∀ i, i < n → w.cell? ⟨b, i, none⟩ = some (f i)
  free : ∀ i, i < n → w.frozen? ⟨b, i, none⟩ = false
  lt : b < w.heap.size
theorem Cl.of_block {w w' : World} {b n : Nat} {f : Nat → Value} (h : Cl w b n f) (e : w'.heap[b]? = w.heap[b]?) : Cl w' b n f :=
  ⟨fun i hi => (World.cell?_of_block (a := ⟨b, i, none⟩) e).trans (h.cell i hi), fun i hi => (World.frozen?_of_block (a := ⟨b, i, none⟩) e).trans (h.free i hi), by
    rcases Nat.lt_or_ge b w'.heap.size with h1 | h1
    · exact h1
    · rw [Array.getElem?_eq_none h1, Array.getElem?_eq_getElem h.lt] at e; cases e⟩
theorem Cl.congr {w : World} {b n : Nat} {f g : Nat → Value} (h : Cl w b n f) (e : ∀ i, i < n → f i = g i) : Cl w b n g := ⟨fun i hi => by rw [h.cell i hi, e i hi], h.free, h.lt⟩
theorem Cl.set {w : World} {b n : Nat} {f : Nat → Value} (h : Cl w b n f) (i : Nat) (v : Value) : Cl (w.setCell ⟨b, i, none⟩ v) b n (fun j => if j = i then v else f j) := by
  refine ⟨fun j hj => ?_, fun j hj => by rw [World.frozen?_setCell]; exact h.free j hj, by rw [World.size_setCell]; exact h.lt⟩
  by_cases e : j = i
  · subst e
    rw [if_pos rfl]
    exact World.cell?_setCell_same _ _ _ (h.cell j hj)
  · rw [if_neg e, World.cell?_setCell_other w _ _ v (fun h => e (by injection h with _ h2 _; exact h2.symm))]
    exact h.cell j hj
theorem Cl.other {w : World} {b n : Nat} {f : Nat → Value} (h : Cl w b n f) {a : Addr} (ha : b ≠ a.block) (v : Value) : Cl (w.setCell a v) b n f := h.of_block (Below.heap_setCell _ _ _ _ ha)
/-- What a call that owns O leaves as it was. -/
structure Keep (O : Nat → Prop) (w w' : World) : Prop where
  os : w'.os = w.os
  tape : w'.tape = w.tape
  output : w'.output = w.output
  size : w.heap.size ≤ w'.heap.size
  block : ∀ k, k < w.heap.size → ¬ O k → w'.heap[k]? = w.heap[k]?
def Ext (O : Nat → Prop) (w w' : World) : Nat → Prop := fun k => O k ∨ (w.heap.size ≤ k ∧ k < w'.heap.size)
def Nw (w w' : World) : Nat → Prop := fun k => w.heap.size ≤ k ∧ k < w'.heap.size
theorem Keep.refl (O : Nat → Prop) (w : World) : Keep O w w := ⟨rfl, rfl, rfl, Nat.le_refl _, fun _ _ _ => rfl⟩
theorem Keep.of {O : Nat → Prop} {w w' : World} (h : Below w.heap.size w w') : Keep O w w' := ⟨h.os, h.tape, h.output, h.size, fun k hk _ => h.block k hk⟩
theorem Keep.mono {O O' : Nat → Prop} {w w' : World} (h : Keep O w w') (hO : ∀ k, k < w.heap.size → O k → O' k) : Keep O' w w' := ⟨h.os, h.tape, h.output, h.size, fun k hk ho => h.block k hk (fun hx => ho (hO k hk hx))⟩
theorem Keep.trans {O : Nat → Prop} {w w1 w2 : World} (h : Keep O w w1) (k : Keep (Ext O w w1) w1 w2) : Keep O w w2 :=
  ⟨k.os.trans h.os, k.tape.trans h.tape, k.output.trans h.output, Nat.le_trans h.size k.size, fun i hi ho => (k.block i (Nat.lt_of_lt_of_le hi h.size) (fun hx => by rcases hx with hx | hx; exact ho hx; omega)).trans (h.block i hi ho)⟩
theorem Keep.below {O : Nat → Prop} {w w' : World} {N : Nat} (h : Keep O w w') (hN : N ≤ w.heap.size) (hO : ∀ k, O k → N ≤ k) : Below N w w' :=
  ⟨h.os, h.tape, h.output, h.size, fun k hk => h.block k (by omega) (fun hx => by have := hO k hx; omega)⟩
theorem Keep.set {O : Nat → Prop} {w w' : World} (h : Keep O w w') {a : Addr} (ha : O a.block ∨ w.heap.size ≤ a.block) (v : Value) : Keep O w (w'.setCell a v) :=
  ⟨h.os, h.tape, h.output, by rw [World.size_setCell]; exact h.size, fun k hk ho => (Below.heap_setCell _ _ _ _ (fun e => by rcases ha with ha | ha; exact ho (e ▸ ha); omega)).trans (h.block k hk ho)⟩
theorem Keep.alloc {O : Nat → Prop} {w w' : World} (h : Keep O w w') (o : Obj) : Keep O w (w'.alloc o) :=
  ⟨h.os, h.tape, h.output, by have := h.size; simp; omega, fun k hk ho => (Below.heap_alloc _ _ _ (Nat.lt_of_lt_of_le hk h.size)).trans (h.block k hk ho)⟩
theorem Keep.grown {O : Nat → Prop} {w W W' : World} {v : Value} (hk : Keep O w W) (hg : W.grownBy W' v.ownBlock) (hv : ∀ g, v.ownBlock = some g → O g ∨ w.heap.size ≤ g) : Keep O w W' :=
  ⟨hg.os.trans hk.os, hg.tape.trans hk.tape, hg.output.trans hk.output, Nat.le_trans hk.size hg.size, fun k hlt ho => (hg.block k (Nat.lt_of_lt_of_le hlt hk.size) (fun e => by rcases hv k e.symm with h | h; exact ho h; omega)).trans (hk.block k hlt ho)⟩
theorem ext_ext {O : Nat → Prop} {w w1 w2 : World} (h1 : w.heap.size ≤ w1.heap.size) (h2 : w1.heap.size ≤ w2.heap.size) : Ext (Ext O w w1) w1 w2 = Ext O w w2 := by
  funext k
  apply propext
  unfold Ext
  constructor
  · rintro ((h | h) | h)
    · exact .inl h
    · exact .inr (by omega)
    · exact .inr (by omega)
  · rintro (h | h)
    · exact .inl (.inl h)
    · rcases Nat.lt_or_ge k w1.heap.size with hk | hk
      · exact .inl (.inr (by omega))
      · exact .inr (by omega)
theorem Ext.lt {O : Nat → Prop} {w w' : World} (h : ∀ k, O k → k < w.heap.size) (hs : w.heap.size ≤ w'.heap.size) : ∀ k, Ext O w w' k → k < w'.heap.size := fun k hk => by
  rcases hk with hk | hk
  · exact Nat.lt_of_lt_of_le (h k hk) hs
  · exact hk.2

/-! ## Slices that begin anywhere in their block -/

/-- A slice's elements, one cell each, the room behind them its own. -/
def OffR (w : World) (e : TypeId) (v : Value) (xs : List Value) : Prop :=
  (v = .slice none 0 0 ∧ xs = []) ∨ ∃ g o cap cur, v = .slice (some ⟨g, o, none⟩) xs.length cap ∧ w.heap[g]? = some (.cells cur e (0, 0)) ∧ xs.length ≤ cap ∧ cap ≤ maxLen ∧ o + cap ≤ cur.size ∧ ∀ j u, xs[j]? = some u → cur[o + j]? = some u
section
variable {w w' : World} {e : TypeId} {v : Value} {xs : List Value}
theorem OffR.nil (w : World) (e : TypeId) : OffR w e (.slice none 0 0) [] := .inl ⟨rfl, rfl⟩
theorem OffR.form (h : OffR w e v xs) : ∃ A c, v = .slice A xs.length c ∧ xs.length ≤ c ∧ c ≤ maxLen := by
  rcases h with ⟨rfl, rfl⟩ | ⟨g, o, cap, cur, rfl, _, h1, h2, _⟩
  · exact ⟨none, 0, rfl, Nat.le_refl _, Nat.zero_le _⟩
  · exact ⟨_, cap, rfl, h1, h2⟩
theorem OffR.lt (h : OffR w e v xs) : ∀ g, v.ownBlock = some g → g < w.heap.size := by
  rcases h with ⟨rfl, rfl⟩ | ⟨g, o, cap, cur, rfl, h1, _⟩
  · intro g h; cases h
  · intro k hk; cases hk; exact (Array.getElem?_eq_some_iff.1 h1).1
theorem OffR.block (h : OffR w e v xs) (hb : ∀ g, v.ownBlock = some g → g < w.heap.size → w'.heap[g]? = w.heap[g]?) : OffR w' e v xs := by
  rcases h with h0 | ⟨g, o, cap, cur, rfl, h1, h2⟩
  · exact .inl h0
  · exact .inr ⟨g, o, cap, cur, rfl, (hb g rfl (Array.getElem?_eq_some_iff.1 h1).1).trans h1, h2⟩
theorem OffR.below (h : OffR w e v xs) (hb : Below w.heap.size w w') : OffR w' e v xs := h.block fun _ _ hl => hb.block _ hl
theorem cell_block {w : World} {g i : Nat} {cur : Array Value} {e : TypeId} {u : Value} (h : w.heap[g]? = some (.cells cur e (0, 0))) (hu : cur[i]? = some u) : w.cell? ⟨g, i, none⟩ = some u := by simp [World.cell?, h, hu]
theorem free_block {w : World} {g i : Nat} {cur : Array Value} {e : TypeId} (h : w.heap[g]? = some (.cells cur e (0, 0))) : w.frozen? ⟨g, i, none⟩ = false := by simp [World.frozen?, h]
/-- A block that is new: its cells. -/
theorem Cl.new (w : World) {n : Nat} {f : Nat → Value} {a : Array Value} {t : TypeId} (h : ∀ i, i < n → a[i]? = some (f i)) : Cl (w.alloc (.cells a t)) w.heap.size n f :=
  ⟨fun i hi => cell_block (heap_alloc_new w _) (h i hi), fun i _ => free_block (heap_alloc_new w _), by simp⟩
theorem OffR.slot (h : OffR w e v xs) {i : Nat} {u : Value} (hu : xs[i]? = some u) : ∃ g o cap, v = .slice (some ⟨g, o, none⟩) xs.length cap ∧ w.cell? ⟨g, o + i, none⟩ = some u ∧ g < w.heap.size := by
  rcases h with ⟨rfl, rfl⟩ | ⟨g, o, cap, cur, rfl, h1, h2, h3, h4, h5⟩
  · simp at hu
  · exact ⟨g, o, cap, rfl, cell_block h1 (h5 i u hu), (Array.getElem?_eq_some_iff.1 h1).1⟩
/-- Cut at its end. -/
theorem OffR.cut {A : Option Addr} {n c : Nat} (h : OffR w e (.slice A n c) xs) (k : Nat) (hk : k ≤ xs.length) (c' : Nat) (h1 : k ≤ c') (h2 : c' ≤ c) : OffR w e (.slice A k c') (xs.take k) := by
  rcases h with ⟨h, rfl⟩ | ⟨g, o, cap, cur, h, h3, h4, h5, h6, h7⟩
  · injection h with ha hn hc
    subst ha hn hc
    obtain rfl : c' = 0 := by omega
    obtain rfl : k = 0 := by omega
    exact .inl ⟨rfl, rfl⟩
  · injection h with ha hn hc
    subst ha hn hc
    have hl : (xs.take k).length = k := by rw [List.length_take]; omega
    refine .inr ⟨g, o, c', cur, by rw [hl], h3, by omega, by omega, by omega, fun j u hj => ?_⟩
    rw [List.getElem?_take] at hj
    split at hj
    · exact h7 j u hj
    · cases hj
/-- Cut at its beginning. -/
theorem OffR.tail {g o n c : Nat} (h : OffR w e (.slice (some ⟨g, o, none⟩) n c) xs) (k : Nat) (hk : k ≤ xs.length) : OffR w e (.slice (some ⟨g, o + k, none⟩) (n - k) (c - k)) (xs.drop k) := by
  rcases h with ⟨h, rfl⟩ | ⟨g', o', cap, cur, h, h3, h4, h5, h6, h7⟩
  · cases h
  · injection h with ha hn hc
    subst hn hc
    cases ha
    have hl : (xs.drop k).length = xs.length - k := by rw [List.length_drop]
    refine .inr ⟨g, o + k, c - k, cur, by rw [hl], h3, by omega, by omega, by omega, fun j u hj => ?_⟩
    rw [List.getElem?_drop] at hj
    rw [Nat.add_assoc]
    exact h7 _ u hj
theorem OffR.of_own {base n : Nat} (h : w.ownsRow base e 1 v n xs) : OffR w e v xs := by
  obtain ⟨h0, h⟩ := h
  rw [Nat.mul_one] at h0
  subst h0
  rcases h with ⟨rfl, h⟩ | ⟨g, cap, cur, rfl, _, h1, h2, h3, h4, h5⟩
  · exact .inl ⟨rfl, List.length_eq_zero_iff.1 h⟩
  · rw [Nat.mul_one] at h4 h5
    refine .inr ⟨g, 0, cap, cur, rfl, h1, h2, h3, by omega, fun j u hj => ?_⟩
    rw [Nat.zero_add]
    rw [← h5, List.getElem?_take] at hj
    split at hj
    · simpa using hj
    · cases hj
end

/-- One element is appended: in the room behind, or all in a new block. -/
theorem run_append_off {P : Program} (w : World) (t ty e : TypeId) (i : TypeInfo) (z : Value) (bytes : Nat) (ht : P.underlying t = some (.slice e)) (hi : P.info? e = some i) (hz : i.zero = some z)
    (hsize : i.size = 1) (hby : i.bytes = bytes) (hzs : z.cells.size = 1)
    (v : Value) (xs : List Value) (hown : OffR w e v xs) (a : Addr) (c : Nat) (u : Value) (hnews : w.cell? a = some u) (ha : a.add 0 = a) (h1 : u.oneCell' = true)
    (h63 : xs.length + 1 ≤ maxLen) (hbytes : (xs.length + 1) * bytes ≤ 140737488355328) :
    ∃ v' w', (Builtin.append_ #[t, t] ty #[v, .slice (some a) 1 c]).run P w = .ok v' w' ∧ OffR w' e v' (xs ++ [u]) ∧ w.grownBy w' v.ownBlock ∧ (v'.ownBlock = v.ownBlock ∨ v'.ownBlock = some w.heap.size) := by
  have hn : ∀ j u', [u][j]? = some u' → w.cell? (a.add j) = some u' := fun j u' hj => by
    cases j with
    | zero => simp at hj; subst hj; rw [ha]; exact hnews
    | succ j => simp at hj
  rcases hown with ⟨rfl, rfl⟩ | ⟨g, o, cap, cur, rfl, hg, hle, hcm, hcs, hx⟩
  · obtain ⟨v', w', hr, h2, h3, _, h5⟩ := run_append_own_at (P := P) w w.heap.size t ty e i z 1 bytes ht hi hz hsize hby hzs (by decide) (.slice none 0 0) 0 [] (World.ownsRow_nil w _ e 1) a 1 c [u] rfl hn (by simpa using h1) (by simpa using h63) (by simpa using hbytes) (Nat.le_refl _)
    exact ⟨v', w', hr, OffR.of_own h2, h3, h5⟩
  · by_cases hroom : xs.length + 1 ≤ cap
    · have hlt : o + xs.length < cur.size := by omega
      have hcell : w.cell? ⟨g, o + xs.length * i.size + 0, none⟩ = some cur[o + xs.length] := by
        rw [hsize, Nat.mul_one, Nat.add_zero]
        exact cell_block hg (Array.getElem?_eq_getElem hlt)
      have hr := run_append_room_cells (P := P) w t ty e i ht hi g o xs.length cap a 1 c [u] (by rw [hsize]; rfl) hn (by simpa using h1) hroom
        (fun j hj => by obtain rfl : j = 0 := by simpa using hj
                        rw [hcell]; rfl)
        (fun j hj => free_block hg)
      rw [hsize, Nat.mul_one] at hr
      have hg' : (w.setCells g (o + xs.length) [u]).heap[g]? = some (.cells (cur.setIfInBounds (o + xs.length) u) e (0, 0)) := by
        obtain ⟨hlt2, hk⟩ := Array.getElem?_eq_some_iff.1 hg
        show (w.heap.modify g _)[g]? = _
        rw [Array.getElem?_eq_getElem (by rw [Array.size_modify]; exact hlt2), Array.getElem_modify_self, hk]
        rfl
      refine ⟨_, _, hr, .inr ⟨g, o, cap, _, by rw [List.length_append]; rfl, hg', by rw [List.length_append]; simpa using hroom, hcm, by rw [Array.size_setIfInBounds]; exact hcs, fun j u' hj => ?_⟩, ⟨rfl, rfl, rfl, ?_, fun k hk hne => ?_⟩, .inl rfl⟩
      · rw [Array.getElem?_setIfInBounds]
        rcases Nat.lt_or_ge j xs.length with hj1 | hj1
        · rw [if_neg (by omega)]
          rw [List.getElem?_append_left hj1] at hj
          exact hx j u' hj
        · rw [List.getElem?_append_right hj1] at hj
          obtain ⟨hj2, hj3⟩ := List.getElem?_eq_some_iff.1 hj
          simp at hj2
          obtain rfl : j = xs.length := by omega
          rw [if_pos rfl, if_pos hlt]
          simpa using hj
      · show _ ≤ (w.setCell _ u).heap.size
        rw [World.size_setCell]; exact Nat.le_refl _
      · exact Below.heap_setCell _ _ _ _ (fun e => hne (by rw [e]; rfl))
    · obtain ⟨v', w', hr, h2, h3⟩ := run_append_arg_grows (P := P) w t ty e i z 1 bytes ht hi hz hsize hby hzs (by decide) ⟨g, o, none⟩ xs.length cap xs (by rw [Nat.mul_one]) (fun j u' hj => by rw [Addr.add_lit]; exact cell_block hg (hx j u' hj)) a 1 c [u] rfl hn (by omega) h63 hbytes
      refine ⟨v', w', hr, OffR.of_own h2, ⟨h3.os, h3.tape, h3.output, h3.size, fun k hk _ => h3.block k hk (fun h => nomatch h)⟩, ?_⟩
      -- it lies in the block that was made
      obtain ⟨h2l, h2r⟩ := h2
      rcases h2r with ⟨_, h0⟩ | ⟨g', cap', cur', rfl, hb, hg', _⟩
      · omega
      · right
        have hr2 := run_append_grow (P := P) w t ty e i z ht hi hz ⟨g, o, none⟩ xs.length cap xs (by rw [hsize, Nat.mul_one]) (fun j u' hj => by rw [Addr.add_lit]; exact cell_block hg (hx j u' hj)) a 1 c [u] (by rw [hsize]; rfl) hn (by omega) (by simp only [maxLen] at h63; omega) (growslice_fits (by omega) (by rw [hby]; exact hbytes))
        rw [hr] at hr2
        injection hr2 with h6 h7
        injection h6 with h8 _ _
        injection h8 with h8
        rw [h8]; rfl
theorem OffR.grown {w : World} {e : TypeId} {v u : Value} {xs : List Value} (h : OffR w e v (xs ++ [u])) : ∃ g o cp, v = .slice (some ⟨g, o, none⟩) (xs.length + 1) cp := by
  rcases h with ⟨_, h0⟩ | ⟨g, o, cap, cur, e, _⟩
  · simp at h0
  · exact ⟨g, o, cap, by rw [e, List.length_append]; rfl⟩
theorem wpList_append_off {P : Program} (w : World) {ops : Array Oper} {rest : List Oper} {o : Oper} {a : Act} {Q : Exit → Act → World → Prop} (hgd : o.guard = none) (s x : Operand) (t : TypeId)
    (ho : o.op = .call { callee := .builtin .append, args := #[s, x], argTypes := #[t, t] })
    (e : TypeId) (i : TypeInfo) (z : Value) (bytes : Nat) (ht : P.underlying t = some (.slice e)) (hi : P.info? e = some i) (hz : i.zero = some z)
    (hsize : i.size = 1) (hby : i.bytes = bytes) (hzs : z.cells.size = 1)
    (v : Value) (xs : List Value) (hs : a.eval s = v) (hown : OffR w e v xs) (ad : Addr) (c : Nat) (u : Value) (hx : a.eval x = .slice (some ad) 1 c) (hnews : w.cell? ad = some u) (ha : ad.add 0 = ad) (h1 : u.oneCell' = true)
    (h63 : xs.length + 1 ≤ maxLen) (hbytes : (xs.length + 1) * bytes ≤ 140737488355328)
    (h : ∀ g q cp w', OffR w' e (.slice (some ⟨g, q, none⟩) (xs.length + 1) cp) (xs ++ [u]) → w.grownBy w' v.ownBlock → ((Value.slice (some ⟨g, q, none⟩) (xs.length + 1) cp).ownBlock = v.ownBlock ∨ (Value.slice (some ⟨g, q, none⟩) (xs.length + 1) cp).ownBlock = some w.heap.size) → wpList P ops Q rest (a.put o.dst (.slice (some ⟨g, q, none⟩) (xs.length + 1) cp)) w') :
    wpList P ops Q (o :: rest) a w := by
  refine wpList_plain hgd fun K hK => ?_
  obtain ⟨v', w', hr, h2, h3, h4⟩ := run_append_off (P := P) w t o.type e i z bytes ht hi hz hsize hby hzs v xs hown ad c u hnews ha h1 h63 hbytes
  obtain ⟨g5, q5, cp5, rfl⟩ := h2.grown
  unfold Oper.wp execOp
  simp only [ho, resolve, invoke, builtin, Sem.run_bind, Sem.run_pure, Result.andThen_ok, List.map_toArray, List.map_cons, List.map_nil, hs, hx, hr]
  exact hK _ _ (h _ _ _ w' h2 h3 h4)
theorem step_append_off {P : Program} (w : World) {ops : Array Oper} {o : Oper} {a : Act} {K : Act → World → Prop} {Q : Exit → Act → World → Prop} {E : Prop} (hgd : o.guard = none) (s x : Operand) (t : TypeId)
    (ho : o.op = .call { callee := .builtin .append, args := #[s, x], argTypes := #[t, t] })
    (e : TypeId) (i : TypeInfo) (z : Value) (bytes : Nat) (ht : P.underlying t = some (.slice e)) (hi : P.info? e = some i) (hz : i.zero = some z)
    (hsize : i.size = 1) (hby : i.bytes = bytes) (hzs : z.cells.size = 1)
    (v : Value) (xs : List Value) (hs : a.eval s = v) (hown : OffR w e v xs) (ad : Addr) (c : Nat) (u : Value) (hx : a.eval x = .slice (some ad) 1 c) (hnews : w.cell? ad = some u) (ha : ad.add 0 = ad) (h1 : u.oneCell' = true)
    (h63 : xs.length + 1 ≤ maxLen) (hbytes : (xs.length + 1) * bytes ≤ 140737488355328)
    (h : ∀ g q cp w', OffR w' e (.slice (some ⟨g, q, none⟩) (xs.length + 1) cp) (xs ++ [u]) → w.grownBy w' v.ownBlock → ((Value.slice (some ⟨g, q, none⟩) (xs.length + 1) cp).ownBlock = v.ownBlock ∨ (Value.slice (some ⟨g, q, none⟩) (xs.length + 1) cp).ownBlock = some w.heap.size) → K (a.put o.dst (.slice (some ⟨g, q, none⟩) (xs.length + 1) cp)) w') :
    if Region.wanted o (yielded ops a.tmps) = true then Oper.wp P o a w K Q else E := by
  have hw : Region.wanted o (yielded ops a.tmps) = true := by simp [Region.wanted, hgd]
  rw [if_pos hw]
  obtain ⟨v', w', hr, h2, h3, h4⟩ := run_append_off (P := P) w t o.type e i z bytes ht hi hz hsize hby hzs v xs hown ad c u hnews ha h1 h63 hbytes
  obtain ⟨g5, q5, cp5, rfl⟩ := h2.grown
  unfold Oper.wp execOp
  simp only [ho, resolve, invoke, builtin, Sem.run_bind, Sem.run_pure, Result.andThen_ok, List.map_toArray, List.map_cons, List.map_nil, hs, hx, hr]
  exact h _ _ _ w' h2 h3 h4

end Go.Proofs.Yticcjelaenhigaa
