/- Plans, page by page: what is told. -/
import Derived.Test.YtecfjibmpbgllaaMh
import Derived.Test.YtecfjibmpbgllaaLm
namespace Go.Proofs.Ytecfjibmpbgllaa
open Go.RowKit

theorem plan_last {m : Mo} {w : Int} {K : Nat} (h : (planM m w).length = K + 1) : (sumR ((planM m w).take K) : Int) < w := by
  have h1 : planM m w = (planM m w).take K ++ (planM m w)[K] :: (planM m w).drop (K + 1) := by
    have := List.take_append_drop K (planM m w)
    rw [List.drop_eq_getElem_cons (by omega)] at this
    exact this.symm
  have h2 : pl w (allR m.S (ordN m.S m.h)) 0 = _ := h1
  have := pl_lt w _ 0 _ _ _ h2
  omega
theorem inRs_take {l : List (Nat × Nat)} {k a b : Nat} (h : l[k]? = some (a, b)) (q : Nat) : inRs (l.take (k + 1)) q = (inRs (l.take k) q || decide (a ≤ q ∧ q < a + b)) := by
  unfold inRs
  rw [List.take_add_one, h, List.any_append]
  simp
/-- Which pages have been told: those of some runs, and some of one more. -/
def told (l : List (Nat × Nat)) (a t q : Nat) : Bool := inRs l q || decide (a ≤ q ∧ q < a + t)
theorem told_zero (l : List (Nat × Nat)) (a q : Nat) : told l a 0 q = inRs l q := by
  unfold told
  rw [decide_eq_false (by omega), Bool.or_false]
theorem told_next (l : List (Nat × Nat)) (a t q : Nat) : told l a (t + 1) q = if q = a + t then true else told l a t q := by
  unfold told
  by_cases e : q = a + t
  · rw [if_pos e, decide_eq_true (by omega), Bool.or_true]
  · rw [if_neg e]
    congr 1
    rw [decide_eq_decide]
    omega
theorem info4 : (Try.prog.info? 4).map (fun i => (i.zero, i.size, i.bytes)) = some (some (.bool false), 1, 1) := by kernel_rfl
def toldW (w : World) : World := w.alloc (.cells (madeCells #[.bool false] 128) 4)
theorem toldW_eq (w : World) : toldW w = w.alloc (.cells (madeCells #[.bool false] 128) 4) := rfl
theorem toldW_below (w : World) : Below w.heap.size w (toldW w) := bnew w _
theorem new_told (w : World) : Cl (toldW w) w.heap.size 128 (fun q => .bool (inRs [] q)) := by
  rw [toldW_eq]
  have hA : (w.alloc (.cells (madeCells #[.bool false] 128) 4)).heap[w.heap.size]? = some (.cells (madeCells #[.bool false] 128) 4) := by
    show (w.heap.push _)[w.heap.size]? = _
    rw [Array.getElem?_push, if_pos rfl]
  generalize w.alloc (.cells (madeCells #[.bool false] 128) 4) = W at hA ⊢
  refine ⟨fun i hi => ?_, fun i _ => by simp [World.frozen?, hA]⟩
  have e : W.cell? ⟨w.heap.size, i, none⟩ = (madeCells #[.bool false] 128)[i]? := by simp [World.cell?, hA]
  rw [e, madeCells_get _ _ _ hi]
  simp [Nat.mod_one, inRs]

theorem State_two {O : Nat → Prop} {B q : Nat} {m : Mo} {w : World} (h : Tk w O B m) (hq : q < 16 * m.h) (hm : m.h ≤ 64) (h2 : m.S q = 2) (n : Nat) :
    Calls Try.prog 20 #[.pointer (some ⟨B, 0, none⟩), .int .i64 (q : Int)] (w.drewN n) fun e w' => e = .returned (.int .i64 2) ∧ w.drewN n = w' := by
  have h1 := State_any (q : Int) (h.below (belowN (Below.refl _ _) n)) ⟨by omega, by omega⟩
  have e : stV m q = 2 := by rw [stV_nat, if_pos hq, h2]; rfl
  rw [e] at h1
  exact h1
theorem told_fresh {l : List (Nat × Nat)} {a q : Nat} (h : inRs l q = false) (ha : a ≤ q) : told l a (q - a) q = false := by
  unfold told
  rw [h, decide_eq_false (by omega)]
  rfl
theorem told_set {w : World} {T a q : Nat} {l : List (Nat × Nat)} (h : Cl w T 128 (fun x => .bool (told l a (q - a) x))) (ha : a ≤ q) (n : Nat) :
    Cl ((w.drewN n).setCell ⟨T, q, none⟩ (.bool true)) T 128 (fun x => .bool (told l a (q + 1 - a) x)) := by
  refine ((h.of_block (w' := w.drewN n) rfl).set q (.bool true)).congr fun x _ => ?_
  rw [show q + 1 - a = (q - a) + 1 from by omega, told_next, show a + (q - a) = q from by omega]
  split <;> rfl
theorem told_done {w : World} {T a b k : Nat} {l : List (Nat × Nat)} (h : Cl w T 128 (fun x => .bool (told (l.take k) a (a + b - a) x))) (hx : l[k]? = some (a, b)) (n : Nat) :
    Cl (w.drewN n) T 128 (fun x => .bool (inRs (l.take (k + 1)) x)) := by
  refine (h.of_block (w' := w.drewN n) rfl).congr fun x _ => ?_
  rw [inRs_take hx, show a + b - a = b from by omega]
  rfl
theorem runs_take {w : World} {N : Nat} {A : Option Addr} {l : List (Nat × Nat)} (h : RunsAt w N A l) (k : Nat) : RunsAt w N A (l.take k) := fun i a b hi => by
  refine h i a b ?_
  rw [List.getElem?_take] at hi
  split at hi
  · exact hi
  · cases hi

end Go.Proofs.Ytecfjibmpbgllaa
