/- What a round of a range over a function keeps; the law of such a range. -/
import Derived.Test.YticcjelaenhigaaLe
import Derived.RangeFuncNested
import Derived.RangeFuncBound
import Derived.RangeFuncCalls
import Derived.RangeFuncLeaves
import Derived.Shelf.Abstract
import Derived.Shelf.RegionOpen
import Derived.OwnWalkIn
import Derived.TacticsInMore
import Derived.LoopNIn
import Derived.LoopIn
import Derived.Sort.BigQuietIn
import Derived.WalkSmall
namespace Go.Proofs.Yticcjelaenhigaa
open Go.RowKit Go.Shelf

/-- A block of cells. -/
def Nr (w : World) (b : Nat) : Prop := ∃ cs t d, w.heap[b]? = some (.cells cs t d)
theorem Nr.of_block {w w' : World} {b : Nat} (h : Nr w b) (e : w'.heap[b]? = w.heap[b]?) : Nr w' b := by
  obtain ⟨cs, t, d, h⟩ := h
  exact ⟨cs, t, d, e.trans h⟩
/-- What a round keeps: all blocks of cells but those of Zs. -/
structure KpC (Zs : Nat → Prop) (X W : World) : Prop where
  size : X.heap.size ≤ W.heap.size
  same : ∀ i, Nr X i → ¬ Zs i → W.heap[i]? = X.heap[i]?
theorem KpC.refl (Zs : Nat → Prop) (W : World) : KpC Zs W W := ⟨Nat.le_refl _, fun _ _ _ => rfl⟩
theorem KpC.trans {Zs : Nat → Prop} {X Y W : World} (h : KpC Zs X Y) (k : KpC Zs Y W) : KpC Zs X W :=
  ⟨Nat.le_trans h.size k.size, fun i hi hz => (k.same i (hi.of_block (h.same i hi hz)) hz).trans (h.same i hi hz)⟩
theorem Nr.lt {w : World} {b : Nat} (h : Nr w b) : b < w.heap.size := by
  obtain ⟨cs, t, d, h⟩ := h
  exact (Array.getElem?_eq_some_iff.1 h).1
theorem KpC.grown {Zs : Nat → Prop} {X W W' : World} {row : Option Nat} (h : KpC Zs X W) (hg : W.grownBy W' row) (hr : ∀ r, row = some r → ∃ o : Obj, W.heap[r]? = some o ∧ o.isCells = false) : KpC Zs X W' :=
  h.trans ⟨hg.size, fun i hi _ => hg.block i hi.lt (fun e => by
    obtain ⟨o, ho, hc⟩ := hr i e.symm
    obtain ⟨cs, t, d, hi⟩ := hi
    rw [hi] at ho
    cases ho
    cases hc)⟩
theorem KpC.below {Zs : Nat → Prop} {X W W' : World} (h : KpC Zs X W) (hb : Below W.heap.size W W') : KpC Zs X W' := h.trans ⟨hb.size, fun i hi _ => hb.block i hi.lt⟩
theorem kpC_b {Zs : Nat → Prop} (W : World) (l : Nat) (o o' : Obj) (h : W.heap[l]? = some o) (hc : o.isCells = false) : KpC Zs W (W.putObj l o') :=
  (KpC.refl Zs W).grown (grownBy_putObj' W l o') (fun r e => by cases e; exact ⟨o, h, hc⟩)
theorem kpC_own {β : Type} (B : Nat) (Zs : Nat → Prop) (X : World) : OwnFrom B (fun (_ : β) W => KpC Zs X W) := fun _ _ _ _ hs hg hr => hs.grown hg (fun r e => (hr r e).2)
theorem bx_kp {Zs : Nat → Prop} {X W : World} {b : Nat} {t : TypeId} {v : Value} (h : Boxed X b t v) (hz : ¬ Zs b) (k : KpC Zs X W) : Boxed W b t v := (k.same b ⟨_, _, _, h⟩ hz).trans h
def YBoth (a b : Prop) (c : Bool) : Prop := (c = true → a) ∧ (c = false → b)

/-- The iterator's word: what comes, one by one; a caller's invariant may speak of blocks that the iterator's own loops turn. -/
def SeqO (n g : Nat) (lb : Array Value) (encs : Nat → Array Value) (Pd Zs : Nat → Prop) (all : List Nat) (w : World) : Prop :=
  ∀ (l : Nat) (J Jx : List Nat → World → Prop) (W : World), Below w.heap.size w W → OwnFrom W.heap.size J → OwnFrom W.heap.size Jx →
    (∀ pre x X, Pd x → J pre X → pre.length < all.length → YieldAt Fence.wide (n - 1) Try.prog l (encs x) X fun e X' =>
      (e = .returned (.bool true) ∧ J (pre ++ [x]) X' ∧ KpC Zs X X' ∧ KeepsFrom W.heap.size X X') ∨ (e = .returned (.bool false) ∧ Jx (pre ++ [x]) X' ∧ KeepsFrom W.heap.size X X')) →
    J [] W →
    CallsIn Fence.wide n Try.prog g (#[.func (.yield l) #[] #[]] ++ lb) W fun e W' => (∃ v, e = .returned v) ∧ (J all W' ∨ (∃ pre, pre <+: all ∧ Jx pre W'))

/-- How a body of such a loop is left. -/
def BodyO (B : Nat) (Zs : Nat → Prop) (I Ix : List Nat → World → Prop) (xs : List Nat) (X : World) (e : Exit) (_ : Act) (X' : World) : Prop :=
  (e = .normal ∧ KeepsFrom B X X' ∧ KpC Zs X X' ∧ I xs X') ∨ (e = .ret ∧ KeepsFrom B X X' ∧ Ix xs X')

theorem over {n gf : Nat} {lb : Array Value} {encs : Nat → Array Value} {Pd Zs : Nat → Prop} {all : List Nat} {w0 w : World} {g : Operand} {ps : Array Tmp} {assign body : Code} {Q : Exit → Act → World → Prop} {a : Act}
    (h1 : 1 ≤ n) (hg : a.eval g = .func (.func gf) #[] lb) (eg : ∀ args w, (callFunc gf args).run Try.prog w = .ok (.enter gf args) w) (hseq : SeqO (n - 1) gf lb encs Pd Zs all w0) (hb0 : Below w0.heap.size w0 w) (hps : ∀ x, (encs x).size = ps.size)
    (I Ix : List Nat → World → Prop) (hI : OwnFrom w.heap.size I) (hIx : OwnFrom w.heap.size Ix) (h0 : I [] w) (a₁ : Nat → Act)
    (hassign : ∀ (l x : Nat) (W : World) (K : Act → World → Prop), K (a₁ x) W → assign.wpIn (Fence.wide.inRound l) (n - 1 - 1) Try.prog (Exit.then K (fun _ _ _ => False)) { tmps := (ps.zip (encs x)).foldl (fun t (p, v) => t.setIfInBounds p v) a.tmps, defers := [] } W)
    (hbody : ∀ (l : Nat) (pre : List Nat) (x : Nat) (W : World), Pd x → I pre W → pre.length < all.length → body.wpIn (Fence.wide.inRound l) (n - 1 - 1) Try.prog (BodyO w.heap.size Zs I Ix (pre ++ [x]) W) (a₁ x) W)
    (hdone : ∀ (D : Nat) (W : World), w.heap.size ≤ D → I all W → W.heap[D]? = some (.deferred (some [])) → Q .normal { a with defers := { target := .collected D, args := #[] } :: a.defers } W)
    (hstop : ∀ (D : Nat) (pre : List Nat) (W : World), w.heap.size ≤ D → pre <+: all → Ix pre W → W.heap[D]? = some (.deferred (some [])) → Code.ret.wpIn Fence.wide n Try.prog Q { a with defers := { target := .collected D, args := #[] } :: a.defers } W) :
    (Code.rangeFunc g ps assign body).wpIn Fence.wide n Try.prog Q a w := by
  refine wpIn_rangeFunc fun fn _ => ?_
  -- the loop's record, at its states
  obtain ⟨P, hP⟩ : ∃ P : LoopState → Option Code → Loop, P = fun st pe => { state := st, pending := pe, fn, tmps := a.tmps, params := ps, assign, body, defers := w.heap.size } := ⟨_, rfl⟩
  obtain ⟨R, hR⟩ : ∃ R : LoopState → Option Code → Obj, R = fun st pe => .loop (P st pe) := ⟨_, rfl⟩
  have hRc : ∀ st pe, (R st pe).isCells = false := fun _ _ => by rw [hR]; rfl
  have isL : ∀ {X : World} {st : LoopState} {pe : Option Code}, X.heap[w.heap.size + 1]? = some (R st pe) → X.heap[w.heap.size + 1]? = some (.loop (P st pe)) := fun h => by rw [hR] at h; exact h
  have yl : ∀ (X : World) (x : Nat), X.heap[w.heap.size + 1]? = some (R .ready none) → (Instr.yield (w.heap.size + 1) (encs x)).run Try.prog X = .ok (.round (w.heap.size + 1) fn ((ps.zip (encs x)).foldl (fun t (p, v) => t.setIfInBounds p v) a.tmps) assign body) X := fun X x h => by
    have := run_yield (P := Try.prog) (args := encs x) (isL h) (by rw [hP]; exact hps x)
    rw [hP] at this
    exact this
  have bg : ∀ (X : World), X.heap[w.heap.size + 1]? = some (R .ready none) → (Instr.beginRound (w.heap.size + 1)).run Try.prog X = .ok () (X.putObj (w.heap.size + 1) (R .busy none)) := fun X h => by
    have := run_beginRound (P := Try.prog) (isL h) (by rw [hP])
    rw [hR]
    rw [hP] at this ⊢
    exact this
  have en : ∀ (X : World) (jump : Option Code), X.heap[w.heap.size + 1]? = some (R .busy none) → (Instr.endRound (w.heap.size + 1) jump).run Try.prog X = .ok (.bool jump.isNone) (X.putObj (w.heap.size + 1) (R (if jump.isNone then .ready else .done) jump)) := fun X jump h => by
    have := run_endRound (P := Try.prog) jump (isL h)
    rw [hR]
    rw [hP] at this ⊢
    exact this
  have fin : ∀ (X : World) (st : LoopState) (pe : Option Code), st ≠ .busy → X.heap[w.heap.size + 1]? = some (R st pe) → (Instr.endLoop (w.heap.size + 1)).run Try.prog X = .ok pe (X.putObj (w.heap.size + 1) (R .exhausted pe)) := fun X st pe hs h => by
    have := run_endLoop (P := Try.prog) (isL h) (by rw [hP]; exact hs)
    rw [hR]
    rw [hP] at this ⊢
    exact this
  have hold : ∀ (X : World) (o : Obj), X.heap[w.heap.size + 1]? = some (R .ready none) → ∀ i, i ≠ w.heap.size + 1 → (X.putObj (w.heap.size + 1) o).heap[i]? = X.heap[i]? := fun X o _ i hi => World.putObj_heap_other (fun e => hi e)
  have eW : ∃ W1 : World, (w.alloc (.deferred (some []))).alloc (R .ready none) = W1 := ⟨_, rfl⟩
  obtain ⟨W1, eW⟩ := eW
  have sz : W1.heap.size = w.heap.size + 2 := by rw [← eW]; simp
  have rec1 : W1.heap[w.heap.size + 1]? = some (R .ready none) := by
    have := World.alloc_heap_new (w.alloc (.deferred (some []))) (R .ready none)
    rw [World.size_alloc] at this
    rw [← eW]; exact this
  have def1 : W1.heap[w.heap.size]? = some (.deferred (some [])) := by
    rw [← eW, Below.heap_alloc _ _ _ (by simp)]; exact World.alloc_heap_new w _
  have bel1 : Below w.heap.size w W1 := by rw [← eW]; exact (bnew _ _).alloc (by simp) _
  have turn : ∀ {β : Type} {F : β → World → Prop}, OwnFrom w.heap.size F → ∀ (s : β) (X : World) (st : LoopState) (pe : Option Code) (o : Obj), F s X → X.heap[w.heap.size + 1]? = some (R st pe) → F s (X.putObj (w.heap.size + 1) o) :=
    fun hF s X st pe o hs hl => hF.putObj o hs (by omega) hl (hRc st pe)
  have later : ∀ {F : List Nat → World → Prop} (st : LoopState) (pe : Option Code), OwnFrom w.heap.size F → OwnFrom W1.heap.size (fun pre X => F pre X ∧ X.heap[w.heap.size + 1]? = some (R st pe) ∧ X.heap[w.heap.size]? = some (.deferred (some []))) :=
    fun st pe hF s X Y row hs hgr hr => by
      have hrow : ∀ r, row = some r → w.heap.size + 2 ≤ r := fun r e => by have := (hr r e).1; omega
      refine ⟨hF s X Y row hs.1 hgr (fun r e => ⟨by have := hrow r e; omega, (hr r e).2⟩), ?_, ?_⟩
      · exact (hgr.block _ (Array.getElem?_eq_some_iff.1 hs.2.1).1 (fun e => by have := hrow _ e.symm; omega)).trans hs.2.1
      · exact (hgr.block _ (Array.getElem?_eq_some_iff.1 hs.2.2).1 (fun e => by have := hrow _ e.symm; omega)).trans hs.2.2
  have call := hseq (w.heap.size + 1) _ _ W1 (hb0.trans (bel1.mono hb0.size)) (later .ready none hI) (later .done (some .ret) hIx) (fun pre x X hx hs hlen => by
    obtain ⟨hi, hl, hd⟩ := hs
    have hlt := (Array.getElem?_eq_some_iff.1 hl).1
    refine ⟨fn, _, assign, body, yl X x hl, roundIn_of_wpIn trivial (hassign _ x X _ ?_)⟩
    have busy : (X.putObj (w.heap.size + 1) (R .busy none)).heap[w.heap.size + 1]? = some (R .busy none) := World.putObj_heap_same hlt
    have bdef : (X.putObj (w.heap.size + 1) (R .busy none)).heap[w.heap.size]? = some (.deferred (some [])) := (hold X _ hl _ (by omega)).trans hd
    refine ⟨_, bg X hl, wpIn_mono (hbody (w.heap.size + 1) pre x _ hx (turn hI _ _ _ _ _ hi hl) hlen) ?_⟩
    have kp1 : KpC Zs X (X.putObj (w.heap.size + 1) (R .busy none)) := kpC_b X _ _ _ hl (hRc _ _)
    have kf1 : KeepsFrom W1.heap.size X (X.putObj (w.heap.size + 1) (R .busy none)) := ⟨by simp, fun i o hi ho _ => (hold X _ hl i (by omega)).trans ho⟩
    have back : ∀ (Y : World) (st : LoopState) (pe : Option Code), KeepsFrom w.heap.size (X.putObj (w.heap.size + 1) (R .busy none)) Y →
        Y.heap[w.heap.size + 1]? = some (R .busy none) ∧ (Y.putObj (w.heap.size + 1) (R st pe)).heap[w.heap.size + 1]? = some (R st pe) ∧ (Y.putObj (w.heap.size + 1) (R st pe)).heap[w.heap.size]? = some (.deferred (some [])) ∧ KeepsFrom W1.heap.size X (Y.putObj (w.heap.size + 1) (R st pe)) :=
      fun Y st pe k => by
        have y1 := k.same _ _ (by omega) busy (hRc _ _)
        have y2 := k.same _ _ (Nat.le_refl _) bdef rfl
        have oth : ∀ i, i ≠ w.heap.size + 1 → (Y.putObj (w.heap.size + 1) (R st pe)).heap[i]? = Y.heap[i]? := fun i hi => World.putObj_heap_other (fun e => hi e)
        refine ⟨y1, World.putObj_heap_same (Array.getElem?_eq_some_iff.1 y1).1, (oth _ (by omega)).trans y2, Nat.le_trans kf1.size (Nat.le_trans k.size (by simp)), fun i o hi ho hc => ?_⟩
        exact (oth i (by omega)).trans (k.same i o (by omega) (kf1.same i o hi ho hc) hc)
    rintro e a2 Y (⟨rfl, k, kp, hi2⟩ | ⟨rfl, k, hi2⟩)
    · obtain ⟨y1, y2, y3, y4⟩ := back Y .ready none k
      exact ⟨_, _, en Y none y1, .inl ⟨rfl, ⟨turn hI _ _ _ _ _ hi2 y1, y2, y3⟩, (kp1.trans kp).trans (kpC_b Y _ _ _ y1 (hRc _ _)), y4⟩⟩
    · obtain ⟨y1, y2, y3, y4⟩ := back Y .done (some .ret) k
      exact ⟨_, _, en Y (some .ret) y1, .inr ⟨rfl, ⟨turn hIx _ _ _ _ _ hi2 y1, y2, y3⟩, y4⟩⟩) ⟨hI _ _ W1 none h0 ⟨bel1.os, bel1.tape, bel1.output, bel1.size, fun i hi _ => bel1.block i hi⟩ (fun _ e => nomatch e), rec1, def1⟩
  refine ⟨w.heap.size + 1, [{ target := .collected w.heap.size, args := #[] }], W1, { target := .fn (.func gf) lb, args := #[.func (.yield (w.heap.size + 1)) #[] #[]] }, W1, gf, #[.func (.yield (w.heap.size + 1)) #[] #[]] ++ lb, W1, ?_, ?_, ?_, ?_, fun _ => h1, ?_⟩
  · rw [← eW, hR, hP]; exact run_enterLoop_outer _ _ _ _ _
  · simp only [resolve, hg]
    simp [go_sem]
  · intro _ _
    trivial
  · simp [invoke, go_sem, eg]
  · refine CallsIn.mono call ?_
    rintro e W2 ⟨⟨v, rfl⟩, (⟨hi, hl, hd⟩ | ⟨pre, hp, hi, hl, hd⟩)⟩
    · exact ⟨none, _, fin _ _ _ (by simp) hl, hdone _ _ (Nat.le_refl _) (turn hI _ _ _ _ _ hi hl) ((World.putObj_heap_other (by omega)).trans hd)⟩
    · exact ⟨some .ret, _, fin _ _ _ (by simp) hl, hstop _ pre _ (Nat.le_refl _) hp (turn hIx _ _ _ _ _ hi hl) ((World.putObj_heap_other (by omega)).trans hd)⟩

end Go.Proofs.Yticcjelaenhigaa
