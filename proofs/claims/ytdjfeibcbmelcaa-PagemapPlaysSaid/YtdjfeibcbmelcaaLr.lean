/- A drawn region within a round: operations that read, then one more. -/
import Derived.Test.YtdjfeibcbmelcaaLh
import Derived.StillTailTactics
import Derived.TacticsIn
import Derived.OrdersIn
namespace Go.Proofs.Ytdjfeibcbmelcaa
open Go.RowKit Go.Shelf

def noDefer (ops : Array Oper) : Bool := ops.all fun o => match o.op with
  | .defer _ => false
  | _ => true
theorem noDefer_at {ops : Array Oper} (h : noDefer ops = true) {i : Nat} {o : Oper} (hi : ops[i]? = some o) : ∀ c, o.op ≠ .defer c := fun c e => by
  unfold noDefer at h
  rw [Array.all_eq_true] at h
  obtain ⟨hlt, rfl⟩ := Array.getElem?_eq_some_iff.1 hi
  have := h i hlt
  rw [e] at this
  cases this

section
variable {P : Program} {ops : Array Oper} {l0 m : Nat} {Q' : Exit → Act → World → Prop} {w : World}

theorem wpOpIn_of_stOp (hnd : noDefer ops = true) {i : Nat} {a : Act} {K : Act → Prop} {K' : Act → World → Prop} (h : ∀ a, K a → K' a w) (hh : stOp P ops w i K a) : wpOpIn (Fence.wide.inRound l0) m P ops Q' i K' a w := by
  unfold stOp at hh
  unfold wpOpIn
  split
  · rename_i ho; simp only [ho] at hh; exact h _ hh
  · rename_i o ho
    simp only [ho] at hh
    split
    · rename_i hw
      simp only [hw, if_true] at hh
      unfold Oper.wpIn
      refine ⟨fun _ _ => trivial, ?_⟩
      rw [Oper.semAt_eq _ _ _ (noDefer_at hnd ho)]
      unfold Oper.still at hh
      generalize (execOp a.eval o).run P w = r at *
      cases r with
      | ok x w' =>
        cases x <;> simp only [Oper.stillUpon] at hh <;> simp only [Oper.uponIn]
        case value u => obtain ⟨rfl, hk⟩ := hh; exact h _ hk
        case skip => obtain ⟨rfl, hk⟩ := hh; exact h _ hk
        case enter f args =>
          obtain ⟨rfl, v, hc, hk⟩ := hh
          refine ⟨(fun e => nomatch e), CallsIn.inRound l0 ((callsIn_wide.2 hc).mono ?_)⟩
          rintro e w'' ⟨rfl, rfl⟩
          exact h _ hk
      | halt x w' => simp only [Oper.stillUpon] at hh
    · rename_i hw
      simp only [hw] at hh
      exact ⟨fun _ _ => trivial, h _ hh⟩

theorem wpAnyIn_of_head {md : Region.Mode} (hnd : noDefer ops = true) {n g : Nat} {L : Array Bool → Act → Prop} (hL : ∀ listed a, L listed a → wpAnyIn (Fence.wide.inRound l0) m P md ops Q' g listed a w) :
    ∀ (f : Nat) (listed : Array Bool) (a : Act), wpAnyL P md ops w n L f listed a → wpAnyIn (Fence.wide.inRound l0) m P md ops Q' (f + g) listed a w
  | 0, listed, a, h => by rw [Nat.zero_add]; exact hL _ _ h
  | f + 1, listed, a, h => by
    rw [show f + 1 + g = (f + g) + 1 by omega]
    exact ⟨fun h0 => absurd h0 h.1, fun i hi => wpOpIn_of_stOp hnd (fun a' h' => wpAnyIn_of_head hnd hL f _ a' h') (h.2 i hi).2⟩

theorem wpAnyIn_of_one {md : Region.Mode} {k : Nat} {o : Oper} {listed : Array Bool} {a : Act} (h0 : ops[k]? = some o) (hB : Region.seqB md ops 1 k listed = true) (h : wpListIn (Fence.wide.inRound l0) m P ops Q' [o] a w) :
    wpAnyIn (Fence.wide.inRound l0) m P md ops Q' 1 listed a w := by
  simp only [Region.seqB, Bool.and_eq_true, decide_eq_true_eq, List.isEmpty_iff] at hB
  refine ⟨fun h1 => (by rw [hB.1] at h1; cases h1), fun i hi => ?_⟩
  rw [hB.1] at hi
  have hik : i = k := by simpa using hi
  subst hik
  have hw : wpOpIn (Fence.wide.inRound l0) m P ops Q' i (wpListIn (Fence.wide.inRound l0) m P ops Q' []) a w := by
    unfold wpOpIn
    simp only [h0]
    exact h
  exact wpOpIn_mono (fun a' w' h' => ⟨hB.2, h'⟩) hw
end

/-- A drawn region within a round, whose last operation waits for all others, which only read. -/
theorem wpIn_region_tail {l0 m id : Nat} {Q : Exit → Act → World → Prop} {a : Act} {w : World} {l : List Oper} {o : Oper} (n : Nat) (hm : Try.prog.follows .mixedOrders = true) (hB : Region.lexTailB .any l.toArray n = true) (hnd : noDefer l.toArray = true) (hd : l.drop n = [o])
    (h : wpStill Try.prog l.toArray w.drew (fun a' => wpListIn (Fence.wide.inRound l0) m Try.prog l.toArray Q [o] a' w.drew) (l.take n) a) : (Code.region id l.toArray true).wpIn (Fence.wide.inRound l0) m Try.prog Q a w := by
  simp only [Region.lexTailB, Bool.and_eq_true, decide_eq_true_eq] at hB
  obtain ⟨⟨⟨⟨hsel, hn⟩, hs⟩, hc⟩, hlex⟩ := hB
  have hn' : n < l.length := by simpa using hn
  have htl : (l.take n).length = n := by simp; omega
  have h1 : l.toArray.size - n = 1 := by
    have := congrArg List.length hd
    simp at this
    simpa using this
  have h0 : l.toArray[n]? = some o := by
    have : (l.drop n)[0]? = some o := by rw [hd]; rfl
    simpa [List.getElem?_drop] using this
  have inv0 : HeadInv .any l.toArray n (Array.replicate l.toArray.size false) :=
    ⟨by simp, fun j oj _ hl => (by rw [getD_replicate_false] at hl; cases hl), fun t _ ht => getD_in (by simpa using ht) (getD_replicate_false _ _)⟩
  have H := wpAnyL_lex (md := .any) (g := l.toArray.size - n) hsel hs hc hn (l.take n) 0 _ a (fun j hj => by
    have hj' : j < n := by rw [htl] at hj; exact hj
    simp [hj']) (by simpa using htl) inv0 (by rw [htl]; exact hlex) h
  rw [h1] at H
  refine wpIn_region_any hm ?_
  have := wpAnyIn_of_head (Q' := Q) (l0 := l0) (m := m) (g := 1) hnd (fun listed a' hL => wpAnyIn_of_one h0 hL.1 hL.2) _ _ _ H
  rw [htl, show n + 1 = l.toArray.size by simp at h1 ⊢; omega] at this
  exact this

end Go.Proofs.Ytdjfeibcbmelcaa
