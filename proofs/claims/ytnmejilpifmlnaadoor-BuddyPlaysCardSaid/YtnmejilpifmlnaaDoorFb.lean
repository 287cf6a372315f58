/- The statements' helpers: Ints, Runs. -/
import Derived.Test.YtnmejilpifmlnaaDoorFa
import Derived.Laws.StructEq
namespace Go.Proofs.YtnmejilpifmlnaaDoor
open Go.RowKit

/-- The slice's cells hold the numbers. -/
def RdN (w : World) (A : Option Addr) (l : List Nat) : Prop := ∀ i x : Nat, l[i]? = some x → ∃ g, A = some ⟨g, 0, none⟩ ∧ w.cell? ⟨g, i, none⟩ = some (.int .i64 x)
theorem NatsAt.rd {w : World} {N : Nat} {A : Option Addr} {l : List Nat} (h : NatsAt w N A l) : RdN w A l := fun i x hi => by
  obtain ⟨g, e, _, _, hc⟩ := h i x hi
  exact ⟨g, e, hc⟩
theorem RdN.below {w w' : World} {A : Option Addr} {l : List Nat} (h : RdN w A l) (hb : Below w.heap.size w w') : RdN w' A l := fun i x hi => by
  obtain ⟨g, e, hc⟩ := h i x hi
  exact ⟨g, e, (hb.cell (p := ⟨g, i, none⟩) (World.block_lt_of_cell? _ _ hc)).trans hc⟩
/-- The slice's cells hold the runs. -/
def RdR (w : World) (A : Option Addr) (l : List (Nat × Nat)) : Prop := ∀ i a b : Nat, l[i]? = some (a, b) → ∃ g, A = some ⟨g, 0, none⟩ ∧ w.cell? ⟨g, i * 2, none⟩ = some (.int .i64 a) ∧ w.cell? ⟨g, i * 2 + 1, none⟩ = some (.int .i64 b)
theorem RunsAt.rd {w : World} {N : Nat} {A : Option Addr} {l : List (Nat × Nat)} (h : RunsAt w N A l) : RdR w A l := fun i a b hi => by
  obtain ⟨g, e, _, _, hc, hd⟩ := h i a b hi
  exact ⟨g, e, hc, hd⟩
theorem RdR.below {w w' : World} {A : Option Addr} {l : List (Nat × Nat)} (h : RdR w A l) (hb : Below w.heap.size w w') : RdR w' A l := fun i a b hi => by
  obtain ⟨g, e, hc, hd⟩ := h i a b hi
  exact ⟨g, e, (hb.cell (p := ⟨g, _, none⟩) (World.block_lt_of_cell? _ _ hc)).trans hc, (hb.cell (p := ⟨g, _, none⟩) (World.block_lt_of_cell? _ _ hd)).trans hd⟩

set_option maxRecDepth 100000 in
set_option maxHeartbeats 1000000 in
theorem Ints_any (A1 A2 : Option Addr) (c1 c2 : Nat) (l : List Nat) (w : World) (hl : l.length ≤ 9223372036854775807) (h1 : RdN w A1 l) (h2 : RdN w A2 l) :
    Calls Tryd.prog 31 #[.slice A1 l.length c1, .slice A2 l.length c2] w fun e w' => e = .returned (.bool true) ∧ Below w.heap.size w w' := by
  obtain ⟨L, hL⟩ : ∃ L, L = l.length := ⟨_, rfl⟩
  have HL := Lib.hid hL
  rw [← hL] at hl ⊢
  have H1 := Lib.hid h1
  have H2 := Lib.hid h2
  clear h1 h2 hL
  go_enter Tryd.func31, Tryd.ntmps31
  go_wp2
  go_loopw [5] (fun i wr => ∃ k : Nat, k ≤ L ∧ i = .int .i64 k ∧ Below w.heap.size w wr) (fun i _ => L - (intOf i).toNat)
  case atStart => exact ⟨0, by omega, rfl, Below.refl _ _⟩
  case round =>
    obtain ⟨k, hk, rfl, hB⟩ := hrel
    by_cases hlt : k < L
    · obtain ⟨x, hx⟩ : ∃ x, l[k]? = some x := ⟨_, List.getElem?_eq_getElem (by have := HL.out; omega)⟩
      obtain ⟨g1, rfl, d1⟩ := H1.out.below hB k x hx
      obtain ⟨g2, rfl, d2⟩ := H2.out.below hB k x hx
      have HB := Lib.hid hB
      clear hB hx
      go_wp2_with fail
      go_quiet (fail)
      go_wp2_with fail
      go_roundw
      case rel => exact ⟨k + 1, by omega, by go_num, belowN HB.out _⟩
      case measure => simp [intOf]; omega
    · go_wp2
      go_ret
      exact ⟨rfl, hB⟩

theorem neq_run (a b : Int) (w : World) : (binOp .neq 92 (.agg #[.int .i64 a, .int .i64 b]) (.agg #[.int .i64 a, .int .i64 b])).run Tryd.prog w = .ok (.bool false) w := by
  have u3 := Tryd.underlying3
  have hS : Tryd.prog.underlying 92 = some (.struct (Tryd.prog.fieldsOf 92)) := by kernel_rfl
  have hp : Tryd.prog.stoodInHeld 92 = false := by kernel_rfl
  rw [run_neq_struct, show (10000 : Nat) = 9999 + 1 from rfl, run_equalIn_agg w 9999 92 _ _ hS hp]
  simp only [Program.fieldsOf, Tryd.underlying92]
  go_simp

set_option maxRecDepth 100000 in
set_option maxHeartbeats 1000000 in
theorem RunsE_any (A1 A2 : Option Addr) (c1 c2 : Nat) (l : List (Nat × Nat)) (w : World) (hl : l.length ≤ 9223372036854775807) (h1 : RdR w A1 l) (h2 : RdR w A2 l) :
    Calls Tryd.prog 42 #[.slice A1 l.length c1, .slice A2 l.length c2] w fun e w' => e = .returned (.bool true) ∧ Below w.heap.size w w' := by
  obtain ⟨L, hL⟩ : ∃ L, L = l.length := ⟨_, rfl⟩
  have HL := Lib.hid hL
  rw [← hL] at hl ⊢
  have H1 := Lib.hid h1
  have H2 := Lib.hid h2
  have hneq := neq_run
  clear h1 h2 hL
  go_enter Tryd.func42, Tryd.ntmps42
  go_wp2
  go_loopw [5] (fun i wr => ∃ k : Nat, k ≤ L ∧ i = .int .i64 k ∧ Below w.heap.size w wr) (fun i _ => L - (intOf i).toNat)
  case atStart => exact ⟨0, by omega, rfl, Below.refl _ _⟩
  case round =>
    obtain ⟨k, hk, rfl, hB⟩ := hrel
    by_cases hlt : k < L
    · obtain ⟨⟨x, y⟩, hx⟩ : ∃ x, l[k]? = some x := ⟨_, List.getElem?_eq_getElem (by have := HL.out; omega)⟩
      obtain ⟨g1, rfl, d1, d1'⟩ := H1.out.below hB k x y hx
      obtain ⟨g2, rfl, d2, d2'⟩ := H2.out.below hB k x y hx
      have HB := Lib.hid hB
      clear hB hx
      go_wp2_with fail
      go_quiet (fail)
      go_wp2_with fail
      go_roundw
      case rel => exact ⟨k + 1, by omega, by go_num, belowN HB.out _⟩
      case measure => simp [intOf]; omega
    · go_wp2
      go_ret
      exact ⟨rfl, hB⟩

end Go.Proofs.YtnmejilpifmlnaaDoor
