/- Package pagemap: held's function value; what a round keeps. -/
import Derived.Test.YtdjfeibcbmelcaaLe
import Derived.RangeFuncNested
import Derived.RangeFuncBound
import Derived.RangeFuncCalls
import Derived.RangeFuncLeaves
import Derived.Shelf.Abstract
import Derived.Shelf.RegionOpen
import Derived.OwnWalkIn
import Derived.TacticsInMore
import Derived.LoopNIn
import Derived.LoopIn
import Derived.Sort.BigQuietIn
import Derived.WalkSmall
namespace Go.Proofs.Ytdjfeibcbmelcaa
open Go.RowKit Go.Shelf

/-- What a round keeps: all blocks of cells but those of Zs and rows of marks. -/
structure KpC (Zs : Nat → Prop) (X W : World) : Prop where
  size : X.heap.size ≤ W.heap.size
  same : ∀ i, Nr X i → ¬ Zs i → W.heap[i]? = X.heap[i]?
theorem KpC.refl (Zs : Nat → Prop) (W : World) : KpC Zs W W := ⟨Nat.le_refl _, fun _ _ _ => rfl⟩
theorem KpC.trans {Zs : Nat → Prop} {X Y W : World} (h : KpC Zs X Y) (k : KpC Zs Y W) : KpC Zs X W :=
  ⟨Nat.le_trans h.size k.size, fun i hi hz => (k.same i (hi.of_block (h.same i hi hz)) hz).trans (h.same i hi hz)⟩
theorem Nr.lt {w : World} {b : Nat} (h : Nr w b) : b < w.heap.size := by
  obtain ⟨cs, t, d, h, _⟩ := h
  exact (Array.getElem?_eq_some_iff.1 h).1
theorem KpC.grown {Zs : Nat → Prop} {X W W' : World} {row : Option Nat} (h : KpC Zs X W) (hg : W.grownBy W' row) (hr : ∀ r, row = some r → ∃ o : Obj, W.heap[r]? = some o ∧ o.isCells = false) : KpC Zs X W' :=
  h.trans ⟨hg.size, fun i hi _ => hg.block i hi.lt (fun e => by
    obtain ⟨o, ho, hc⟩ := hr i e.symm
    obtain ⟨cs, t, d, hi, _⟩ := hi
    rw [hi] at ho
    cases ho
    cases hc)⟩
theorem KpC.below {Zs : Nat → Prop} {X W W' : World} (h : KpC Zs X W) (hb : Below W.heap.size W W') : KpC Zs X W' := h.trans ⟨hb.size, fun i hi _ => hb.block i hi.lt⟩
theorem kpC_b {Zs : Nat → Prop} (W : World) (l : Nat) (o o' : Obj) (h : W.heap[l]? = some o) (hc : o.isCells = false) : KpC Zs W (W.putObj l o') :=
  (KpC.refl Zs W).grown (grownBy_putObj' W l o') (fun r e => by cases e; exact ⟨o, h, hc⟩)
theorem kpC_own {β : Type} (B : Nat) (Zs : Nat → Prop) (X : World) : OwnFrom B (fun (_ : β) W => KpC Zs X W) := fun _ _ _ _ hs hg hr => hs.grown hg (fun r e => (hr r e).2)
theorem bx_nr {W : World} {b : Nat} {t : TypeId} {v : Value} (h : Boxed W b t v) (ht : t ≠ 50) : Nr W b := ⟨_, _, _, h, ht⟩
theorem bx_kp {Zs : Nat → Prop} {X W : World} {b : Nat} {t : TypeId} {v : Value} (h : Boxed X b t v) (ht : t ≠ 50) (hz : ¬ Zs b) (k : KpC Zs X W) : Boxed W b t v := (k.same b (bx_nr h ht) hz).trans h
theorem Cl.kp {Zs : Nat → Prop} {X W : World} {b n : Nat} {f : Nat → Value} (h : Cl X b n f) (hz : ¬ Zs b) (k : KpC Zs X W) : Cl W b n f := h.of_block (k.same b h.nr hz)
theorem TrA.kp {Zs : Nat → Prop} {X W : World} {O : Nat → Prop} {B R : Nat} {cm cl : Nat → Option Nat} {T : Nat → Nat} {M : Nat → Int} (h : TrA X O B R cm cl T M) (hz : ∀ b, O b → ¬ Zs b) (k : KpC Zs X W) : TrA W O B R cm cl T M :=
  h.blocks (fun b ho hn => k.same b hn (hz b ho)) k.size

set_option maxHeartbeats 400000 in
theorem held34_any (a : Option Addr) (n c : Nat) (f : Int) (w : World) :
    Calls Try.prog 34 #[.slice a n c, .int .i64 f] w fun e w' => e = .returned (.func (.func 46) #[] #[.pointer (some ⟨w.heap.size + 1, 0, none⟩), .pointer (some ⟨w.heap.size, 0, none⟩)]) ∧
      (w.alloc (.cells #[.slice a n c] 67)).alloc (.cells #[.int .i64 f] 3) = w' := by
  go_enter Try.func34, Try.ntmps34
  go_wp2
  go_ret
  exact ⟨rfl, rfl⟩

set_option maxHeartbeats 400000 in
theorem held45_any (a : Option Addr) (n c : Nat) (f : Int) (w : World) :
    Calls Try.prog 45 #[.slice a n c, .int .i64 f] w fun e w' => e = .returned (.func (.func 52) #[] #[.pointer (some ⟨w.heap.size + 1, 0, none⟩), .pointer (some ⟨w.heap.size, 0, none⟩)]) ∧
      (w.alloc (.cells #[.slice a n c] 79)).alloc (.cells #[.int .i64 f] 3) = w' := by
  go_enter Try.func45, Try.ntmps45
  go_wp2
  go_ret
  exact ⟨rfl, rfl⟩

set_option maxHeartbeats 400000 in
theorem held49_any (a : Option Addr) (n c : Nat) (f : Int) (w : World) :
    Calls Try.prog 49 #[.slice a n c, .int .i64 f] w fun e w' => e = .returned (.func (.func 53) #[] #[.pointer (some ⟨w.heap.size + 1, 0, none⟩), .pointer (some ⟨w.heap.size, 0, none⟩)]) ∧
      (w.alloc (.cells #[.slice a n c] 61)).alloc (.cells #[.int .i64 f] 3) = w' := by
  go_enter Try.func49, Try.ntmps49
  go_wp2
  go_ret
  exact ⟨rfl, rfl⟩

end Go.Proofs.Ytdjfeibcbmelcaa
