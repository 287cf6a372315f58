/- Take: what its loops keep. -/
import Derived.Test.YtnmejilpifmlnaaDoorLi
namespace Go.Proofs.YtnmejilpifmlnaaDoor
open Go.RowKit Go.Shelf

/-- A start of a free block. -/
abbrev Ak (F : Nat → Bool) (k : Nat) := { x : Nat // Bk F k x }

theorem starts_stopsA (n : Nat) (hn1 : 1 ≤ n) {O : Nat → Prop} {B : Nat} {m : Mo} {b1 b2 k : Nat} (hk : k < ords m.n) (w : World) (hI : ItIn w O B m b1 b2 k) :
    SeqStopsK Fence.wide n Tryd.prog 64 #[.pointer (some ⟨b1, 0, none⟩), .pointer (some ⟨b2, 0, none⟩)] (fun x : Ak m.F k => #[.int .i64 (x.1 : Int)]) (KpI O B m b1 b2 k) (fun ys => ys.map (·.1) = bl m.F m.n k) (fun pre => pre.map (·.1) <+: bl m.F m.n k) (bl m.F m.n k).length w := fun l J Jx W hW hJ _ hY h0 => by
  have := starts_in n hn1 l hk (fun s W => ∃ la : List (Ak m.F k), la.map (·.1) = s ∧ J la W) (fun s W => ∃ la : List (Ak m.F k), la.map (·.1) = s ∧ Jx la W)
    (fun s A B hs hb => by obtain ⟨la, e, h⟩ := hs; exact ⟨la, e, hJ la A B none h (grown_of hb none) (fun _ h => by cases h)⟩)
    (fun pre x W hb hj hl => by
      obtain ⟨la, e, h⟩ := hj
      refine (hY la ⟨x, hb⟩ W h (by have := congrArg List.length e; rw [List.length_map] at this; omega)).mono fun e' W' hp => ?_
      rcases hp with ⟨q1, q2, q3⟩ | ⟨q1, q2⟩
      · exact .inl ⟨q1, ⟨_, by rw [List.map_append, e]; rfl, q2⟩, q3⟩
      · exact .inr ⟨q1, ⟨_, by rw [List.map_append, e]; rfl, q2⟩⟩) W (hI.below hW) ⟨[], rfl, h0⟩
  refine this.mono fun e W' hp => ⟨hp.1, ?_⟩
  rcases hp.2 with ⟨ys, e1, la, e2, h⟩ | ⟨pre, e1, la, e2, h⟩
  · exact .inl ⟨la, e2.trans e1, h⟩
  · exact .inr ⟨la, by subst e2; exact e1, h⟩

/-- The deferred calls of loops that are over: blocks from N on and below M. -/
def DOK (N M : Nat) (ds : List Deferred) (W : World) : Prop :=
  ∃ Ds : List Nat, ds = Ds.map (fun D => { target := .collected D, args := #[] }) ∧ Ds.Nodup ∧ ∀ D ∈ Ds, N ≤ D ∧ D < M ∧ W.heap[D]? = some (.deferred (some []))
theorem DOK.nil (N M : Nat) (W : World) : DOK N M [] W := ⟨[], rfl, List.nodup_nil, fun D h => by cases h⟩
theorem DOK.keep {N M : Nat} {ds : List Deferred} {W W' : World} (h : DOK N M ds W) (hk : ∀ D, N ≤ D → D < M → ∀ o : Obj, W.heap[D]? = some o → o.isCells = false → W'.heap[D]? = some o) : DOK N M ds W' := by
  obtain ⟨Ds, h1, h2, h3⟩ := h
  exact ⟨Ds, h1, h2, fun D hD => ⟨(h3 D hD).1, (h3 D hD).2.1, hk D (h3 D hD).1 (h3 D hD).2.1 _ (h3 D hD).2.2 rfl⟩⟩
theorem DOK.more {N M M' : Nat} {ds : List Deferred} {W : World} (h : DOK N M ds W) (hM : M ≤ M') : DOK N M' ds W := by
  obtain ⟨Ds, h1, h2, h3⟩ := h
  exact ⟨Ds, h1, h2, fun D hD => ⟨(h3 D hD).1, Nat.lt_of_lt_of_le (h3 D hD).2.1 hM, (h3 D hD).2.2⟩⟩
theorem DOK.cons {N M D : Nat} {ds : List Deferred} {W : World} (h : DOK N M ds W) (hM : M ≤ D) (hN : N ≤ D) (hD : W.heap[D]? = some (.deferred (some []))) : DOK N (D + 1) ({ target := .collected D, args := #[] } :: ds) W := by
  obtain ⟨Ds, h1, h2, h3⟩ := h
  refine ⟨D :: Ds, by rw [h1]; rfl, List.nodup_cons.2 ⟨fun hx => by have := (h3 D hx).2.1; omega, h2⟩, fun E hE => ?_⟩
  rcases List.mem_cons.1 hE with rfl | hE
  · exact ⟨hN, Nat.lt_succ_self _, hD⟩
  · exact ⟨(h3 E hE).1, by have := (h3 E hE).2.1; omega, (h3 E hE).2.2⟩

theorem leaves_ok {n : Nat} {fn : Func} {tmps : Array Value} {R : Ending → World → Prop} {N M : Nat} : ∀ (Ds : List Nat) (W : World), Ds.Nodup → (∀ D ∈ Ds, N ≤ D ∧ D < M ∧ W.heap[D]? = some (.deferred (some []))) →
    (∀ W', Below N W W' → (∀ (i : Nat) (o : Obj), W.heap[i]? = some o → o.isCells = true → W'.heap[i]? = some o) → ∃ v, (results fn tmps).run Tryd.prog W' = .ok v W' ∧ R (.returned v) W') →
    LeavesInM Fence.wide n Tryd.prog fn tmps R (Ds.map (fun D => { target := .collected D, args := #[] })) .returning W
  | [], W, _, _, h => h W (Below.refl _ _) (fun _ _ h _ => h)
  | D :: Ds, W, hnd, hD, h => by
    obtain ⟨hN, hM, hb⟩ := hD D (List.mem_cons_self ..)
    refine ⟨by simp, .inl ⟨D, _, rfl, run_takeDeferred hb, ?_⟩⟩
    have hother : ∀ i, i ≠ D → (W.putObj D (.deferred none)).heap[i]? = W.heap[i]? := fun i hi => World.putObj_heap_other (fun e => hi e)
    have hbl : Below N W (W.putObj D (.deferred none)) := (Below.refl N W).grown (grownBy_putObj' W D _) (by have := (Array.getElem?_eq_some_iff.1 hb).1; omega) (fun k e => by cases e; omega)
    refine leaves_ok (M := M) Ds _ (List.nodup_cons.1 hnd).2 (fun E hE => ?_) (fun W' hb' hc => h W' (hbl.trans hb') (fun i o hi ho => hc i o ?_ ho))
    · have := hD E (List.mem_cons_of_mem _ hE)
      refine ⟨this.1, this.2.1, ?_⟩
      rw [hother E (fun e => (List.nodup_cons.1 hnd).1 (e ▸ hE))]
      exact this.2.2
    · by_cases e : i = D
      · subst e
        rw [hb] at hi
        cases hi
        cases ho
      · rw [hother i e]; exact hi

/-- What Take's loops keep: the heap, the boxes of what it captured, all that lay before. -/
structure TkIn (w : World) (O : Nat → Prop) (B : Nat) (m : Mo) (p Z3 Z4 Z6 Z7 : Nat) (W : World) : Prop where
  hp : Hp W O B m
  x3 : Boxed W Z3 25 (.pointer (some ⟨B, 0, none⟩))
  x4 : Boxed W Z4 3 (.int .i64 p)
  x6 : Boxed W Z6 3 (.int .i64 0)
  x7 : Boxed W Z7 26 (.int .i64 0)
  bel : Below w.heap.size w W
section
variable {w : World} {O : Nat → Prop} {B : Nat} {m : Mo} {p Z3 Z4 Z6 Z7 N : Nat} {W W' : World}
theorem TkIn.keep (h : TkIn w O B m p Z3 Z4 Z6 Z7 W) (hk : Keep (fun x => N ≤ x) W W') (q3 : Z3 < N) (q4 : Z4 < N) (q6 : Z6 < N) (q7 : Z7 < N) (hO : ∀ x, O x → x < N) (h1 : 1 < N) (hw : w.heap.size ≤ N) : TkIn w O B m p Z3 Z4 Z6 Z7 W' := by
  have hb : ∀ i, i < N → i < W.heap.size → W'.heap[i]? = W.heap[i]? := fun i hi hs => hk.block i hs (by omega)
  refine ⟨h.hp.keep hk (fun x hx hy => by have := hO x hx; omega) (by omega), (hb _ q3 h.x3.lt).trans h.x3, (hb _ q4 h.x4.lt).trans h.x4, (hb _ q6 h.x6.lt).trans h.x6, (hb _ q7 h.x7.lt).trans h.x7, ?_⟩
  exact ⟨hk.os.trans h.bel.os, hk.tape.trans h.bel.tape, hk.output.trans h.bel.output, Nat.le_trans h.bel.size hk.size, fun i hi => (hb i (by omega) (Nat.lt_of_lt_of_le hi h.bel.size)).trans (h.bel.block i hi)⟩
theorem TkIn.below (h : TkIn w O B m p Z3 Z4 Z6 Z7 W) (hb : Below W.heap.size W W') : TkIn w O B m p Z3 Z4 Z6 Z7 W' :=
  h.keep (N := W.heap.size) ⟨hb.os, hb.tape, hb.output, hb.size, fun i hi _ => hb.block i hi⟩ h.x3.lt h.x4.lt h.x6.lt h.x7.lt h.hp.lt h.hp.tb.lt h.bel.size

/-- What a round leaves that took its pages. -/
structure TkOut (w : World) (O : Nat → Prop) (B : Nat) (m : Mo) (s Z6 Z7 : Nat) (W : World) : Prop where
  mt : Mut w O B m W
  x6 : Boxed W Z6 3 (.int .i64 s)
  x7 : Boxed W Z7 26 (.int .i64 0)
theorem TkOut.keep {s : Nat} (h : TkOut w O B m s Z6 Z7 W) (hk : Keep (fun x => N ≤ x) W W') (q6 : Z6 < N) (q7 : Z7 < N) (hO : ∀ x, O x → x < N) (h1 : 1 < N) (hw : w.heap.size ≤ N) : TkOut w O B m s Z6 Z7 W' := by
  have hb : ∀ i, i < N → i < W.heap.size → W'.heap[i]? = W.heap[i]? := fun i hi hs => hk.block i hs (by omega)
  refine ⟨⟨h.mt.1.keep hk (fun x hx hy => by have := hO x hx; omega) (by omega), ?_⟩, (hb _ q6 h.x6.lt).trans h.x6, (hb _ q7 h.x7.lt).trans h.x7⟩
  have k := h.mt.2
  exact ⟨hk.os.trans k.os, hk.tape.trans k.tape, hk.output.trans k.output, Nat.le_trans k.size hk.size, fun i hi ho => (hb i (by omega) (Nat.lt_of_lt_of_le hi k.size)).trans (k.block i hi ho)⟩
end

theorem keep_row {W W' : World} {row : Option Nat} {N : Nat} (h : W.grownBy W' row) (hr : ∀ r, row = some r → N ≤ r) : Keep (fun x => N ≤ x) W W' :=
  ⟨h.os, h.tape, h.output, h.size, fun i hi ho => h.block i hi (fun e => ho (hr i e.symm))⟩

/-- What the loop over the orders knows. -/
structure TkRel (w : World) (O : Nat → Prop) (B : Nat) (m : Mo) (p Z3 Z4 Z6 Z7 k0 k Z8 : Nat) (ds : List Deferred) (W : World) : Prop where
  lo : k0 ≤ k
  hi : k ≤ 11
  eq : bst m.F m.n k0 (11 - k0) = bst m.F m.n k (11 - k)
  tk : TkIn w O B m p Z3 Z4 Z6 Z7 W
  x8 : Boxed W Z8 3 (.int .i64 k)
  dok : DOK w.heap.size W.heap.size ds W
theorem TkRel.below {w : World} {O : Nat → Prop} {B : Nat} {m : Mo} {p Z3 Z4 Z6 Z7 k0 k Z8 : Nat} {ds : List Deferred} {W W' : World} (h : TkRel w O B m p Z3 Z4 Z6 Z7 k0 k Z8 ds W) (hb : Below W.heap.size W W') : TkRel w O B m p Z3 Z4 Z6 Z7 k0 k Z8 ds W' :=
  ⟨h.lo, h.hi, h.eq, h.tk.below hb, (hb.block _ h.x8.lt).trans h.x8, (h.dok.keep (fun D _ hD _ hx _ => (hb.block D hD).trans hx)).more hb.size⟩

/-- The measure of the loop over the orders. -/
def muB (a : Act) (W : World) : Nat := match a.tmps.getD 8 undef with
  | .pointer (some q) => 12 - (intOf ((W.cell? q).getD undef)).toNat
  | _ => 0

/-- Both results are stored. -/
theorem two_stores {w : World} {O : Nat → Prop} {B : Nat} {m : Mo} {Z6 Z7 M : Nat} {ds : List Deferred} {W : World} {a b v e : Value} (hM : Mut w O B m W) (x6 : Boxed W Z6 3 a) (x7 : Boxed W Z7 26 b) (q6 : w.heap.size ≤ Z6) (q7 : w.heap.size ≤ Z7) (ne : Z6 ≠ Z7) (hO : ∀ x, O x → x < w.heap.size) (h1 : 1 < w.heap.size) (hd : DOK w.heap.size M ds W) :
    Mut w O B m ((W.setCell ⟨Z6, 0, none⟩ v).setCell ⟨Z7, 0, none⟩ e) ∧ Boxed ((W.setCell ⟨Z6, 0, none⟩ v).setCell ⟨Z7, 0, none⟩ e) Z6 3 v ∧ Boxed ((W.setCell ⟨Z6, 0, none⟩ v).setCell ⟨Z7, 0, none⟩ e) Z7 26 e ∧ DOK w.heap.size M ds ((W.setCell ⟨Z6, 0, none⟩ v).setCell ⟨Z7, 0, none⟩ e) := by
  refine ⟨⟨hM.1.keep (O1 := fun x => w.heap.size ≤ x) (((Keep.refl (fun x => w.heap.size ≤ x) W).set (a := ⟨Z6, 0, none⟩) (.inl q6) _).set (a := ⟨Z7, 0, none⟩) (.inl q7) _) (fun x hx hy => by have := hO x hx; omega) (by omega),
    (hM.2.set (a := ⟨Z6, 0, none⟩) (.inr q6) _).set (a := ⟨Z7, 0, none⟩) (.inr q7) _⟩, (x6.set v).other (fun e => ne e) _, (x7.other (fun e => ne e.symm) v).set e, hd.keep fun D _ _ o ho hc => ?_⟩
  have n6 : D ≠ Z6 := fun e => by rw [e, show W.heap[Z6]? = _ from x6] at ho; cases ho; cases hc
  have n7 : D ≠ Z7 := fun e => by rw [e, show W.heap[Z7]? = _ from x7] at ho; cases ho; cases hc
  rw [Below.heap_setCell _ _ _ _ n7, Below.heap_setCell _ _ _ _ n6]
  exact ho

theorem take_end {w : World} {O : Nat → Prop} {B : Nat} {m md : Mo} {p a : Int} {v e : Int} {Z6 Z7 M : Nat} {ds : List Deferred} {W : World} {tmps : Array Value} (h6 : tmps[6]? = some (.pointer (some ⟨Z6, 0, none⟩))) (h7 : tmps[7]? = some (.pointer (some ⟨Z7, 0, none⟩)))
    (hd : DOK w.heap.size M ds W) (hM : Mut w O B md W) (x6 : Boxed W Z6 3 (.int .i64 v)) (x7 : Boxed W Z7 26 (.int .i64 e)) (hV : tkV m p a = v) (hE : tkE m p a = e) (hD : tkD m p a = md) (hO : ∀ x, O x → x < w.heap.size) (h1 : 1 < w.heap.size) :
    LeavesInM Fence.wide 9 Tryd.prog Tryd.f25 tmps (TakePost w O B m p a) ds .returning W := by
  obtain ⟨Ds, rfl, hnd, hDs⟩ := hd
  refine leaves_ok Ds W hnd hDs (fun W' hb hc => ?_)
  have y6 : Boxed W' Z6 3 (.int .i64 v) := hc _ _ x6 rfl
  have y7 : Boxed W' Z7 26 (.int .i64 e) := hc _ _ x7 rfl
  have c6 := y6.cell
  have c7 := y7.cell
  refine ⟨.tuple #[.int .i64 v, .int .i64 e], ?_, ?_, ?_⟩
  · simp [results, Tryd.results25, go_sem, h6, h7, c6, c7]
  · rw [hV, hE]
  · rw [hD]
    have hk : Keep (fun x => w.heap.size ≤ x) W W' := ⟨hb.os, hb.tape, hb.output, hb.size, fun i _ ho => hb.block i (by omega)⟩
    refine ⟨hM.1.keep hk (fun x hx hy => by have := hO x hx; omega) (by omega), ?_⟩
    exact ⟨hb.os.trans hM.2.os, hb.tape.trans hM.2.tape, hb.output.trans hM.2.output, Nat.le_trans hM.2.size hb.size, fun i hi ho => (hb.block i hi).trans (hM.2.block i hi ho)⟩

end Go.Proofs.YtnmejilpifmlnaaDoor
