/- maps.Clone, Clone. -/
import Derived.Test.YtnmejilpifmlnaaDoorLo
import Derived.Shelf.SlMaps.Clone
namespace Go.Proofs.YtnmejilpifmlnaaDoor
open Go.RowKit

set_option maxHeartbeats 2000000 in
theorem mapsClone_any (b : Nat) (es : Array MapEntry) (clock : Nat) (w : World) (hb : w.heap[b]? = some (.map es clock)) :
    Calls Tryd.prog 34 #[.map (some b)] w fun e w' => e = .returned (.map (some w.heap.size)) ∧ w' = w.alloc (.map es clock) := by
  have hq := fun w => run_eql_map_nil_sl (P := Tryd.prog) w 64 _ _ (some b) Tryd.underlying64
  go_enter Tryd.func34, Tryd.ntmps34
  go_wp2
  rw [run_callFunc_extern (f := 56) (fn := Tryd.f56) Tryd.func56 (by kernel_rfl) (by kernel_rfl) (by kernel_rfl) (e := Extern.MapsClone.clone) (by kernel_rfl), run_maps_clone_sl w 64 hb]
  simp only [Result.andThen]
  rw [Oper.upon_value]
  go_wp2
  rw [run_typeAssert_map_sl _ 64 20 _ _ _ Tryd.underlying64]
  simp only [Result.andThen]
  rw [Oper.upon_value]
  go_wp2
  go_ret
  exact ⟨rfl, rfl⟩

theorem mapsClone_set {b : Nat} {S : Nat → Prop} {w : World} (h : SetAt w b S) :
    Calls Tryd.prog 34 #[.map (some b)] w fun e w' => e = .returned (.map (some w.heap.size)) ∧ SetAt w' w.heap.size S ∧ Below w.heap.size w w' ∧ w'.heap.size = w.heap.size + 1 := by
  obtain ⟨L, hL, es, clock, hm, hr⟩ := h
  refine (mapsClone_any b es clock w hm).mono fun e w' ⟨he, hw⟩ => ?_
  subst hw
  exact ⟨he, ⟨L, hL, es, clock, (MapKept.heap_alloc w _).1, hr⟩, bnew _ _, by simp⟩

end Go.Proofs.YtnmejilpifmlnaaDoor
