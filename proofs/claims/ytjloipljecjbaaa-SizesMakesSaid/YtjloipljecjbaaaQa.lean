/- A region that draws its order, that reads old cells and calls what only makes memory: one walk of the text's order. -/
import Derived.Test.YtjloipljecjbaaaLa
namespace Go.Proofs.Ytjloipljecjbaaa
open Go.RowKit

/-- A world that is as W0 was, below N. -/
structure CW (N : Nat) (W0 : World) where
  wd : World
  bel : Below N W0 wd

instance nonemptyCW (N : Nat) (W0 : World) : Nonempty (CW N W0) := ⟨⟨W0, Below.refl _ _⟩⟩

theorem region_below {P : Program} {id : Nat} {Q : Exit → Act → World → Prop} {a : Act} {w : World} {l : List Oper} (N : Nat) (hm : P.follows .mixedOrders = true) (hB : Region.lexB .any l.toArray = true)
    (h : wpQuiet P l.toArray (fun w' => ∃ n : CW N w, w' = n.wd) (fun a' => ∀ w', (∃ n : CW N w, w' = n.wd) → Q .normal a' w') l a) : (Code.region id l.toArray true).wp P Q a w :=
  wp_region_quiet (C := fun w' => ∃ n : CW N w, w' = n.wd) hm hB ⟨⟨_, (Below.refl _ _).drew⟩, rfl⟩ (by simpa using h)

theorem quietB {P : Program} {f : FuncId} {args : Array Value} {N : Nat} {W0 : World} {n : CW N W0} {v : Value} (hN : N ≤ W0.heap.size)
    (h : Calls P f args n.wd fun e w' => e = .returned v ∧ Below n.wd.heap.size n.wd w') : Calls P f args n.wd fun e w'' => e = .returned v ∧ ∃ m : CW N W0, w'' = m.wd :=
  h.mono fun _ w' ⟨he, hb⟩ => ⟨he, ⟨w', btr n.bel hb hN⟩, rfl⟩

theorem CW.cell {N : Nat} {W0 : World} {a : Addr} {v : Value} (hN : a.block < N) (h : W0.cell? a = some v) : ∀ n : CW N W0, n.wd.cell? a = some v := fun n => (n.bel.cell hN).trans h

end Go.Proofs.Ytjloipljecjbaaa
