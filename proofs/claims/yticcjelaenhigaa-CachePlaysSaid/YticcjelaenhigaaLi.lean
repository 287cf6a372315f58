/- A drawn region within a round; an append there; one object more in a list. -/
import Derived.Test.YticcjelaenhigaaLh
import Derived.StillTailTactics
import Derived.TacticsIn
import Derived.OrdersIn
namespace Go.Proofs.Yticcjelaenhigaa
open Go.RowKit Go.Shelf

def noDefer (ops : Array Oper) : Bool := ops.all fun o => match o.op with
  | .defer _ => false
  | _ => true
theorem noDefer_at {ops : Array Oper} (h : noDefer ops = true) {i : Nat} {o : Oper} (hi : ops[i]? = some o) : ∀ c, o.op ≠ .defer c := fun c e => by
  unfold noDefer at h
  rw [Array.all_eq_true] at h
  obtain ⟨hlt, rfl⟩ := Array.getElem?_eq_some_iff.1 hi
  have := h i hlt
  rw [e] at this
  cases this

section
variable {P : Program} {ops : Array Oper} {l0 m : Nat} {Q' : Exit → Act → World → Prop}

theorem opRound {o : Oper} (hnd : ∀ c, o.op ≠ .defer c) {a : Act} {w : World} {K : Act → World → Prop} (h : o.wpIn Fence.wide m P a w K Q') : o.wpIn (Fence.wide.inRound l0) m P a w K Q' := by
  unfold Oper.wpIn at *
  refine ⟨h.1, ?_⟩
  have h2 := h.2
  rw [Oper.semAt_eq _ _ _ hnd] at h2 ⊢
  generalize (execOp a.eval o).run P w = r at h2 ⊢
  cases r with
  | ok x w' => cases x <;> exact h2
  | halt x w' => cases x <;> exact h2

theorem wpOpIn_round (hnd : noDefer ops = true) {i : Nat} {a : Act} {w : World} {K : Act → World → Prop} (h : wpOpIn Fence.wide m P ops Q' i K a w) : wpOpIn (Fence.wide.inRound l0) m P ops Q' i K a w := by
  unfold wpOpIn at *
  split
  · rename_i ho; simpa only [ho] using h
  · rename_i o ho
    simp only [ho] at h
    split
    · rename_i hw
      simp only [hw, if_true] at h
      exact opRound (noDefer_at hnd ho) h
    · rename_i hw
      simp only [hw] at h
      exact h

theorem wpAnyIn_round {md : Region.Mode} (hnd : noDefer ops = true) : ∀ (f : Nat) (listed : Array Bool) (a : Act) (w : World), wpAnyIn Fence.wide m P md ops Q' f listed a w → wpAnyIn (Fence.wide.inRound l0) m P md ops Q' f listed a w
  | 0, _, _, _, h => h
  | f + 1, _, _, _, h => ⟨h.1, fun i hi => wpOpIn_mono (fun a' w' h' => wpAnyIn_round hnd f _ a' w' h') (wpOpIn_round hnd (h.2 i hi))⟩

theorem wpIn_region_round {id : Nat} {a : Act} {w : World} (hm : P.follows .mixedOrders = true) (hnd : noDefer ops = true) (h : wpAnyIn Fence.wide m P .any ops Q' ops.size (Array.replicate ops.size false) a w.drew) : (Code.region id ops true).wpIn (Fence.wide.inRound l0) m P Q' a w :=
  wpIn_region_any hm (wpAnyIn_round hnd _ _ _ _ h)
end

/-- Operations that can only come one after the other. -/
theorem wpAnyIn_tail {F : Fence} {m : Nat} {P : Program} {ops : Array Oper} {Q' : Exit → Act → World → Prop} {md : Region.Mode} : ∀ (l : List Oper) (k : Nat) (listed : Array Bool) (a : Act) (w : World), ops.toList.drop k = l → Region.seqB md ops l.length k listed = true → wpListIn F m P ops Q' l a w → wpAnyIn F m P md ops Q' l.length listed a w
  | [], _, _, _, _, _, hB, h => ⟨by simpa [Region.seqB] using hB, h⟩
  | o :: l, k, listed, a, w, ho, hB, h => by
    simp only [List.length_cons, Region.seqB, Bool.and_eq_true, decide_eq_true_eq] at hB
    refine ⟨fun h1 => (by rw [hB.1] at h1; cases h1), fun i hi => ?_⟩
    rw [hB.1] at hi
    have hik : i = k := by simpa using hi
    subst hik
    have h0 : ops[i]? = some o := by
      have : (ops.toList.drop i)[0]? = some o := by rw [ho]; rfl
      simpa [List.getElem?_drop] using this
    have hw : wpOpIn F m P ops Q' i (wpListIn F m P ops Q' l) a w := by
      unfold wpOpIn
      simp only [h0]
      exact h
    exact wpOpIn_mono (fun a' w' h' => wpAnyIn_tail l (i + 1) _ a' w' (by rw [← List.tail_drop, ho]; rfl) hB.2 h') hw

theorem wpListIn_append_off {F : Fence} {nF : Nat} {P : Program} (w : World) {ops : Array Oper} {rest : List Oper} {o : Oper} {a : Act} {Q : Exit → Act → World → Prop} (hgd : o.guard = none) (s x : Operand) (t : TypeId)
    (ho : o.op = .call { callee := .builtin .append, args := #[s, x], argTypes := #[t, t] })
    (e : TypeId) (i : TypeInfo) (z : Value) (bytes : Nat) (ht : P.underlying t = some (.slice e)) (hi : P.info? e = some i) (hz : i.zero = some z)
    (hsize : i.size = 1) (hby : i.bytes = bytes) (hzs : z.cells.size = 1)
    (v : Value) (xs : List Value) (hs : a.eval s = v) (hown : OffR w e v xs) (ad : Addr) (c : Nat) (u : Value) (hx : a.eval x = .slice (some ad) 1 c) (hnews : w.cell? ad = some u) (ha : ad.add 0 = ad) (h1 : u.oneCell' = true)
    (h63 : xs.length + 1 ≤ maxLen) (hbytes : (xs.length + 1) * bytes ≤ 140737488355328)
    (h : ∀ g q cp w', OffR w' e (.slice (some ⟨g, q, none⟩) (xs.length + 1) cp) (xs ++ [u]) → w.grownBy w' v.ownBlock → ((Value.slice (some ⟨g, q, none⟩) (xs.length + 1) cp).ownBlock = v.ownBlock ∨ (Value.slice (some ⟨g, q, none⟩) (xs.length + 1) cp).ownBlock = some w.heap.size) → wpListIn F nF P ops Q rest (a.put o.dst (.slice (some ⟨g, q, none⟩) (xs.length + 1) cp)) w') :
    wpListIn F nF P ops Q (o :: rest) a w := by
  refine wpListIn_plain hgd fun K hK => ?_
  obtain ⟨v', w', hr, h2, h3, h4⟩ := run_append_off (P := P) w t o.type e i z bytes ht hi hz hsize hby hzs v xs hown ad c u hnews ha h1 h63 hbytes
  obtain ⟨g5, q5, cp5, rfl⟩ := h2.grown
  unfold Oper.wpIn
  refine ⟨by simp [Oper.about, ho, resolve, Target.leads, Sem.run_pure], ?_⟩
  rw [Oper.semAt_plain F _ _ (by rw [ho]; intro c hc'; cases hc')]
  simp only [execOp, ho, resolve, invoke, builtin, Sem.run_bind, Sem.run_pure, Result.andThen_ok, List.map_toArray, List.map_cons, List.map_nil, hs, hx, hr]
  exact hK _ _ (h _ _ _ w' h2 h3 h4)
theorem stepIn_append_off {F : Fence} {nF : Nat} {P : Program} (w : World) {ops : Array Oper} {o : Oper} {a : Act} {K : Act → World → Prop} {Q : Exit → Act → World → Prop} {E : Prop} (hgd : o.guard = none) (s x : Operand) (t : TypeId)
    (ho : o.op = .call { callee := .builtin .append, args := #[s, x], argTypes := #[t, t] })
    (e : TypeId) (i : TypeInfo) (z : Value) (bytes : Nat) (ht : P.underlying t = some (.slice e)) (hi : P.info? e = some i) (hz : i.zero = some z)
    (hsize : i.size = 1) (hby : i.bytes = bytes) (hzs : z.cells.size = 1)
    (v : Value) (xs : List Value) (hs : a.eval s = v) (hown : OffR w e v xs) (ad : Addr) (c : Nat) (u : Value) (hx : a.eval x = .slice (some ad) 1 c) (hnews : w.cell? ad = some u) (ha : ad.add 0 = ad) (h1 : u.oneCell' = true)
    (h63 : xs.length + 1 ≤ maxLen) (hbytes : (xs.length + 1) * bytes ≤ 140737488355328)
    (h : ∀ g q cp w', OffR w' e (.slice (some ⟨g, q, none⟩) (xs.length + 1) cp) (xs ++ [u]) → w.grownBy w' v.ownBlock → ((Value.slice (some ⟨g, q, none⟩) (xs.length + 1) cp).ownBlock = v.ownBlock ∨ (Value.slice (some ⟨g, q, none⟩) (xs.length + 1) cp).ownBlock = some w.heap.size) → K (a.put o.dst (.slice (some ⟨g, q, none⟩) (xs.length + 1) cp)) w') :
    if Region.wanted o (yielded ops a.tmps) = true then Oper.wpIn F nF P o a w K Q else E := by
  have hw : Region.wanted o (yielded ops a.tmps) = true := by simp [Region.wanted, hgd]
  rw [if_pos hw]
  obtain ⟨v', w', hr, h2, h3, h4⟩ := run_append_off (P := P) w t o.type e i z bytes ht hi hz hsize hby hzs v xs hown ad c u hnews ha h1 h63 hbytes
  obtain ⟨g5, q5, cp5, rfl⟩ := h2.grown
  unfold Oper.wpIn
  refine ⟨by simp [Oper.about, ho, resolve, Target.leads, Sem.run_pure], ?_⟩
  rw [Oper.semAt_plain F _ _ (by rw [ho]; intro c hc'; cases hc')]
  simp only [execOp, ho, resolve, invoke, builtin, Sem.run_bind, Sem.run_pure, Result.andThen_ok, List.map_toArray, List.map_cons, List.map_nil, hs, hx, hr]
  exact h _ _ _ w' h2 h3 h4
theorem grownBy_set (W : World) (a : Addr) (v : Value) : W.grownBy (W.setCell a v) (some a.block) := ⟨rfl, rfl, rfl, by rw [World.size_setCell]; exact Nat.le_refl _, fun k _ hk => Below.heap_setCell _ _ _ _ (fun e => hk (by rw [e]))⟩
theorem grown_of {w w' : World} (h : Below w.heap.size w w') (row : Option Nat) : w.grownBy w' row := ⟨h.os, h.tape, h.output, h.size, fun k hk _ => h.block k hk⟩
/-- Blocks that are no cells are turned: a list stays as it is. -/
theorem OffR.blk {w : World} {e : TypeId} {v : Value} {xs : List Value} (h : OffR w e v xs) : ∀ g, v.ownBlock = some g → ∃ cs t d, w.heap[g]? = some (.cells cs t d) := by
  rcases h with ⟨rfl, _⟩ | ⟨g, o, cap, cur, rfl, h1, _⟩
  · intro g h; cases h
  · intro k hk; cases hk; exact ⟨_, _, _, h1⟩
theorem nr_of {w : World} {b i : Nat} {v : Value} (h : w.cell? ⟨b, i, none⟩ = some v) : Nr w b := by
  obtain ⟨ob, hob, hoc⟩ := cells_of_cell h
  cases ob with
  | cells cs t d => exact ⟨cs, t, d, hob⟩
  | _ => cases hoc
theorem KAt.grown {w w' : World} {O : Nat → Prop} {p : Nat} {V : Value} {k : Kl} {row : Option Nat} (h : KAt w O p V k) (hg : w.grownBy w' row) (hr : ∀ r, row = some r → ∃ o : Obj, w.heap[r]? = some o ∧ o.isCells = false) : KAt w' O p V k := by
  have hb : ∀ g, Nr w g → w'.heap[g]? = w.heap[g]? := fun g hn => hg.block g hn.lt (fun e => by
    obtain ⟨o, ho, hc⟩ := hr g e.symm
    obtain ⟨cs, t, d, hi⟩ := hn
    rw [hi] at ho
    cases ho
    cases hc)
  exact ⟨h.wf, h.hd.of_block (hb p (nr_of (h.hd.cell 0 (by omega)))), h.row.block fun g hg' _ => hb g (h.row.blk g hg'), h.rowO, h.ob, h.inr, fun j ho => Nat.lt_of_lt_of_le (h.lt j ho) hg.size⟩
/-- One object more. -/
theorem push_post {X w5 X6 : World} {O : Nat → Prop} {p : Nat} {V v' : Value} {k : Kl} {a : Int} {tmp : Obj} (h : KAt X O p V k) (hrow : OffR w5 3 v' (cZ k.l ++ [.int .i64 a])) (hgr : (X.alloc tmp).grownBy w5 V.ownBlock) (hat : v'.ownBlock = V.ownBlock ∨ v'.ownBlock = some (X.alloc tmp).heap.size)
    (hs : X6 = w5.setCell ⟨p, 2, none⟩ v') (ha : InR a) (hl : k.l.length < 256) : KAt X6 (Ext O X X6) p v' { k with l := k.l ++ [a] } ∧ Keep O X X6 ∧ KeepsOthers X X6 := by
  have s2 : X.heap.size + 1 ≤ w5.heap.size := by have := hgr.size; simp at this; omega
  have s6 : X6.heap.size = w5.heap.size := by rw [hs, World.size_setCell]
  have hk5 : Keep O X w5 := ((Keep.refl O X).alloc tmp).grown (v := V) hgr (fun g hg => .inl (h.rowO g hg).1)
  have hk6 : Keep O X X6 := by rw [hs]; exact keep_set hk5 h.ob _
  have hplt := h.lt _ h.ob
  have old : ∀ k, k < X.heap.size → V.ownBlock ≠ some k → w5.heap[k]? = X.heap[k]? := fun k hk hne => (hgr.block k (by simp; omega) (fun e => hne e.symm)).trans (Below.heap_alloc _ _ _ (by omega))
  have hp5 : w5.heap[p]? = X.heap[p]? := old p hplt (fun e => (h.rowO _ e).2 rfl)
  have hvo : ∀ g, v'.ownBlock = some g → (O g ∨ X.heap.size ≤ g) ∧ g ≠ p := fun g hg => by
    rcases hat with e | e
    · rw [e] at hg; exact ⟨.inl (h.rowO g hg).1, (h.rowO g hg).2⟩
    · rw [e] at hg
      injection hg with hg
      simp at hg
      exact ⟨.inr (by omega), by omega⟩
  have hvl := hrow.lt
  refine ⟨⟨⟨h.wf.s8, h.wf.s512, h.wf.b1, h.wf.b32, h.wf.m1, h.wf.m128, by show k.lo ≤ (k.l ++ [a]).length; have := h.wf.low; simp; omega, by show (k.l ++ [a]).length ≤ 256; simp; omega⟩, ?_, ?_, fun g hg => ⟨?_, (hvo g hg).2⟩, .inl h.ob, fun x hx => ?_, ?_⟩, hk6, ?_⟩
  · rw [hs]
    refine ((h.hd.of_block hp5).set 2 v').congr fun i hi => ?_
    rcases five hi with rfl | rfl | rfl | rfl | rfl <;> rfl
  · show OffR X6 3 v' (cZ (k.l ++ [a]))
    rw [cZ_app, hs]
    exact hrow.block fun g hg _ => Below.heap_setCell _ _ _ _ (hvo g hg).2
  · rcases (hvo g hg).1 with h1 | h1
    · exact .inl h1
    · exact .inr ⟨h1, by rw [s6]; exact hvl g hg⟩
  · rcases List.mem_append.1 hx with h1 | h1
    · exact h.inr x h1
    · rw [List.mem_singleton.1 h1]; exact ha
  · intro j hj
    rcases hj with hj | hj
    · exact Nat.lt_of_lt_of_le (h.lt j hj) hk6.size
    · exact hj.2
  · rw [hs]
    refine ((KeepsOthers.alloc X tmp).trans (KeepsOthers.of_grownBy hgr fun j o ej hj => ?_)).trans (KeepsOthers.setCell _ _ _)
    obtain ⟨cs, t, d, hc⟩ := h.row.blk j ej
    rw [Below.heap_alloc _ _ _ (h.lt _ (h.rowO j ej).1), hc] at hj
    cases hj; rfl
end Go.Proofs.Yticcjelaenhigaa
