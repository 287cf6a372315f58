/- A drawn region within a round may be walked as one outside. -/
import Derived.Test.YtdjfeibcbmelcaaLr
namespace Go.Proofs.Ytdjfeibcbmelcaa
open Go.RowKit Go.Shelf

section
variable {P : Program} {ops : Array Oper} {l0 m : Nat} {Q' : Exit → Act → World → Prop}

theorem opRound {o : Oper} (hnd : ∀ c, o.op ≠ .defer c) {a : Act} {w : World} {K : Act → World → Prop} (h : o.wpIn Fence.wide m P a w K Q') : o.wpIn (Fence.wide.inRound l0) m P a w K Q' := by
  unfold Oper.wpIn at *
  refine ⟨h.1, ?_⟩
  have h2 := h.2
  rw [Oper.semAt_eq _ _ _ hnd] at h2 ⊢
  generalize (execOp a.eval o).run P w = r at h2 ⊢
  cases r with
  | ok x w' => cases x <;> exact h2
  | halt x w' => cases x <;> exact h2

theorem wpOpIn_round (hnd : noDefer ops = true) {i : Nat} {a : Act} {w : World} {K : Act → World → Prop} (h : wpOpIn Fence.wide m P ops Q' i K a w) : wpOpIn (Fence.wide.inRound l0) m P ops Q' i K a w := by
  unfold wpOpIn at *
  split
  · rename_i ho; simpa only [ho] using h
  · rename_i o ho
    simp only [ho] at h
    split
    · rename_i hw
      simp only [hw, if_true] at h
      exact opRound (noDefer_at hnd ho) h
    · rename_i hw
      simp only [hw] at h
      exact h

theorem wpAnyIn_round {md : Region.Mode} (hnd : noDefer ops = true) : ∀ (f : Nat) (listed : Array Bool) (a : Act) (w : World), wpAnyIn Fence.wide m P md ops Q' f listed a w → wpAnyIn (Fence.wide.inRound l0) m P md ops Q' f listed a w
  | 0, _, _, _, h => h
  | f + 1, _, _, _, h => ⟨h.1, fun i hi => wpOpIn_mono (fun a' w' h' => wpAnyIn_round hnd f _ a' w' h') (wpOpIn_round hnd (h.2 i hi))⟩

theorem wpIn_region_round {id : Nat} {a : Act} {w : World} (hm : P.follows .mixedOrders = true) (hnd : noDefer ops = true) (h : wpAnyIn Fence.wide m P .any ops Q' ops.size (Array.replicate ops.size false) a w.drew) : (Code.region id ops true).wpIn (Fence.wide.inRound l0) m P Q' a w :=
  wpIn_region_any hm (wpAnyIn_round hnd _ _ _ _ h)
end

end Go.Proofs.Ytdjfeibcbmelcaa
