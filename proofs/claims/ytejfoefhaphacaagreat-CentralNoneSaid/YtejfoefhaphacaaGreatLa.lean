/- The leaves of package span: made, addr, Objects, Index, objectAt, IsTaken. -/
import Derived.Test.YtejfoefhaphacaaGreatMb
namespace Go.Proofs.YtejfoefhaphacaaGreat
open Go.RowKit

theorem ret_int {k : IntKind} {a b : Int} (h : a = b) : Ending.returned (.int k a) = .returned (.int k b) := by rw [h]
theorem ret_bool {a b : Bool} (h : a = b) : Ending.returned (.bool a) = .returned (.bool b) := by rw [h]
theorem ret_two {k k' : IntKind} {a b a' b' : Int} (h : a = b) (h' : a' = b') : Ending.returned (.tuple #[.int k a, .int k' a']) = .returned (.tuple #[.int k b, .int k' b']) := by rw [h, h']
theorem ret_bt {k : IntKind} {a b : Bool} {a' b' : Int} (h : a = b) (h' : a' = b') : Ending.returned (.tuple #[.bool a, .int k a']) = .returned (.tuple #[.bool b, .int k b']) := by rw [h, h']
theorem btr {B : Nat} {a b c : World} (h : Below B a b) (hb : Below b.heap.size b c) (hB : B ≤ a.heap.size) : Below B a c := h.trans (hb.mono (Nat.le_trans hB h.size))
theorem bnew (w : World) (o : Obj) : Below w.heap.size w (w.alloc o) := (Below.refl _ _).alloc (Nat.le_refl _) _
theorem belowN {N : Nat} {w1 w2 : World} (hb : Below N w1 w2) (k : Nat) : Below N w1 (w2.drewN k) := by
  constructor
  · exact hb.os
  · exact hb.tape
  · exact hb.output
  · exact hb.size
  · exact hb.block
/-- A number of 64 bits, in the walk's two forms. -/
theorem w64 (a : Int) (h : -9223372036854775808 ≤ a ∧ a ≤ 9223372036854775807) : wrap64 a = a ∧ IntKind.i64.wrap a = a := ⟨IntWalk.wrap64_in _ h, IntWalk.i64_in _ h⟩
def InR (x : Int) : Prop := -9223372036854775808 ≤ x ∧ x ≤ 9223372036854775807

theorem SpA.cells {r : Bool} {w : World} {O : Nat → Prop} {B A c : Nat} {m : Mo} (h : SpA r w O B A c m) : w.cell? ⟨B, 0, none⟩ = some (bF r m A c 0) ∧ w.cell? ⟨B, 1, none⟩ = some (bF r m A c 1) ∧ w.cell? ⟨B, 2, none⟩ = some (bF r m A c 2) ∧ w.cell? ⟨B, 3, none⟩ = some (bF r m A c 3) ∧ w.cell? ⟨B, 4, none⟩ = some (bF r m A c 4) :=
  ⟨h.b.cell 0 (by omega), h.b.cell 1 (by omega), h.b.cell 2 (by omega), h.b.cell 3 (by omega), h.b.cell 4 (by omega)⟩

set_option maxHeartbeats 400000 in
theorem made_any {O : Nat → Prop} {B A c : Nat} {m : Mo} {w : World} (h : SpA false w O B A c m) : Calls Tryz.prog 54 #[.pointer (some ⟨B, 0, none⟩)] w fun e w' => e = .returned (.bool true) ∧ w = w' := by
  have c4 : w.cell? ⟨B, 4, none⟩ = some (.slice (some ⟨A, 0, none⟩) m.n c) := h.cells.2.2.2.2
  have hn := h.wf.n1
  have hn2 := h.wf.n2
  clear h
  go_enter Tryz.func54, Tryz.ntmps54
  go_wp2
  go_ret
  exact ⟨ret_bool (by simp; omega), rfl⟩
set_option maxHeartbeats 400000 in
theorem made_no {O : Nat → Prop} {v : Value} {w : World} (h : NoS w O v) : Calls Tryz.prog 54 #[v] w fun e w' => e = .returned (.bool false) ∧ w = w' := by
  rcases h with rfl | ⟨B, rfl, _, hc⟩
  · go_enter Tryz.func54, Tryz.ntmps54
    go_wp2
    go_ret
    exact ⟨rfl, rfl⟩
  · go_enter Tryz.func54, Tryz.ntmps54
    go_wp2
    go_ret
    exact ⟨rfl, rfl⟩
theorem adrI (m : Mo) (i : Nat) : (m.s : Int) * 256 + (i : Int) * m.z = (adr m i : Int) := by unfold adr; rw [Int.natCast_add, Int.natCast_mul, Int.natCast_mul]; rfl

/-- The address of an object: its numbers in the walk's forms. -/
theorem adrW {m : Mo} (h : WF m) {i : Nat} (hi : i ≤ m.n) : IntKind.i64.wrap ((m.s : Int) * 256) = (m.s : Int) * 256 ∧ IntKind.i64.wrap ((i : Int) * m.z) = (i : Int) * m.z ∧ IntKind.i64.wrap ((m.s : Int) * 256 + (i : Int) * m.z) = (m.s : Int) * 256 + (i : Int) * m.z := by
  have h1 := h.s1
  have h2 := (adr_bd h hi).2
  have h3 := h.g2
  have e : (i : Int) * m.z = ((i * m.z : Nat) : Int) := (Int.natCast_mul _ _).symm
  rw [e]
  generalize i * m.z = q at h2
  exact ⟨IntWalk.i64_in _ (by omega), IntWalk.i64_in _ (by omega), IntWalk.i64_in _ (by omega)⟩

set_option maxHeartbeats 400000 in
theorem addr_any {O : Nat → Prop} {B A c : Nat} {m : Mo} {w : World} (h : SpA false w O B A c m) (i : Nat) (hi : i ≤ m.n) :
    Calls Tryz.prog 84 #[.pointer (some ⟨B, 0, none⟩), .int .i64 i] w fun e w' => e = .returned (.int .i64 (adr m i)) ∧ ∃ j, w' = w.drewN j := by
  obtain ⟨q1, q2, q3⟩ := adrW h.wf hi
  have HA := Lib.hid (adrI m i)
  have c0 : w.cell? ⟨B, 0, none⟩ = some (.int .i64 m.s) := h.cells.1
  have c1 : w.cell? ⟨B, 1, none⟩ = some (.int .i64 m.z) := h.cells.2.1
  clear h hi
  go_enter Tryz.func84, Tryz.ntmps84
  go_wp2
  go_quiet (fail)
  go_wp2
  go_ret
  exact ⟨ret_int HA.out, _, rfl⟩
end Go.Proofs.YtejfoefhaphacaaGreat
