/- The leaves of package huge: what each returns, over any world in which a tracker lies. -/
import Derived.Test.YtecfjibmpbgllaaRows
import Derived.WalkKit
import Derived.WalkSpells
import Derived.WalkLawsBesides
import Derived.Deep.QuietTactic
import Derived.BigQuiet
import Derived.Lib.Hide
import Derived.Test.YtecfjibmpbgllaaMb
namespace Go.Proofs.Ytecfjibmpbgllaa
open Go.RowKit

theorem ret_int {k : IntKind} {a b : Int} (h : a = b) : Ending.returned (.int k a) = .returned (.int k b) := by rw [h]
theorem ret_bool {a b : Bool} (h : a = b) : Ending.returned (.bool a) = .returned (.bool b) := by rw [h]
theorem btr {B : Nat} {a b c : World} (h : Below B a b) (hb : Below b.heap.size b c) (hB : B ≤ a.heap.size) : Below B a c := h.trans (hb.mono (Nat.le_trans hB h.size))
theorem bnew (w : World) (o : Obj) : Below w.heap.size w (w.alloc o) := (Below.refl _ _).alloc (Nat.le_refl _) _
theorem belowN {N : Nat} {w1 w2 : World} (hb : Below N w1 w2) (k : Nat) : Below N w1 (w2.drewN k) := by
  constructor
  · exact hb.os
  · exact hb.tape
  · exact hb.output
  · exact hb.size
  · exact hb.block

/-- A tracker that nobody made: nil, or the zero value. -/
def NoT (w : World) (v : Value) : Prop := v = .pointer none ∨ ∃ B cap, v = .pointer (some ⟨B, 0, none⟩) ∧ w.cell? ⟨B, 0, none⟩ = some (.slice none 0 cap)
theorem NoT.below {w w' : World} {v : Value} (h : NoT w v) (hb : Below w.heap.size w w') : NoT w' v := by
  rcases h with h | ⟨B, cap, h, hc⟩
  · exact .inl h
  · exact .inr ⟨B, cap, h, (hb.cell (World.block_lt_of_cell? _ _ hc)).trans hc⟩

set_option maxHeartbeats 400000 in
theorem made_any {O : Nat → Prop} {B : Nat} {m : Mo} {w : World} (h : Tk w O B m) : Calls Try.prog 39 #[.pointer (some ⟨B, 0, none⟩)] w fun e w' => e = .returned (.bool true) ∧ w = w' := by
  obtain ⟨A, cap, h⟩ := h
  have c0 := h.c0
  have hn := h.wf.h1
  have hn2 := h.wf.h2
  clear h
  go_enter Try.func39, Try.ntmps39
  go_wp2
  go_ret
  exact ⟨ret_bool (by simp; omega), rfl⟩

set_option maxHeartbeats 400000 in
theorem made_no {v : Value} {w : World} (h : NoT w v) : Calls Try.prog 39 #[v] w fun e w' => e = .returned (.bool false) ∧ w = w' := by
  rcases h with rfl | ⟨B, cap, rfl, hc⟩
  · go_enter Try.func39, Try.ntmps39
    go_wp2
    go_ret
    exact ⟨rfl, rfl⟩
  · go_enter Try.func39, Try.ntmps39
    go_wp2
    go_ret
    exact ⟨rfl, rfl⟩

set_option maxHeartbeats 400000 in
theorem inside_any {O : Nat → Prop} {B : Nat} {m : Mo} {w : World} (s k : Int) (h : Tk w O B m) (hs : -9223372036854775808 ≤ s ∧ s ≤ 9223372036854775807) :
    Calls Try.prog 54 #[.pointer (some ⟨B, 0, none⟩), .int .i64 s, .int .i64 k] w fun e w' => e = .returned (.bool (inM m s k)) ∧ w = w' := by
  obtain ⟨A, cap, h⟩ := h
  have c0 := h.c0
  have hn := h.wf.h1
  have hn2 := h.wf.h2
  clear h
  unfold inM
  go_enter Try.func54, Try.ntmps54
  go_wp2
  all_goals
    go_ret
    refine ⟨ret_bool ?_, rfl⟩
    rw [Bool.eq_iff_iff]
    simp only [decide_eq_true_eq, Bool.false_eq_true, false_iff, Bool.and_eq_true]
    omega

set_option maxHeartbeats 400000 in
theorem huges_any {O : Nat → Prop} {B : Nat} {m : Mo} {w : World} (h : Tk w O B m) :
    Calls Try.prog 70 #[.pointer (some ⟨B, 0, none⟩)] w fun e w' => e = .returned (.int .i64 m.h) ∧ w = w' := by
  obtain ⟨A, cap, h⟩ := h
  have c0 := h.c0
  have hn := h.wf.h1
  have hn2 := h.wf.h2
  clear h
  go_enter Try.func70, Try.ntmps70
  go_wp2
  go_ret
  exact ⟨ret_int (by omega), rfl⟩

set_option maxHeartbeats 400000 in
theorem has_any {O : Nat → Prop} {B : Nat} {m : Mo} {w : World} (g : Int) (h : Tk w O B m) :
    Calls Try.prog 56 #[.pointer (some ⟨B, 0, none⟩), .int .i64 g] w fun e w' => e = .returned (.bool (hasM m g)) ∧ w = w' := by
  have HC := Lib.hid (huges_any h)
  clear h
  by_cases h0 : 0 ≤ g
  · have HD := Lib.hid (show hasM m g = decide (g < m.h) from by unfold hasM; rw [Bool.eq_iff_iff]; simp only [decide_eq_true_eq]; omega)
    go_enter Try.func56, Try.ntmps56
    go_wp2_with (go_at_call 70; refine HC.out.mono ?_; rintro e w1 ⟨rfl, rfl⟩)
    go_ret
    exact ⟨ret_bool HD.out.symm, rfl⟩
  · have HD := Lib.hid (show hasM m g = false from decide_eq_false (by omega))
    go_enter Try.func56, Try.ntmps56
    go_wp2_with (go_at_call 70; refine HC.out.mono ?_; rintro e w1 ⟨rfl, rfl⟩)
    go_ret
    exact ⟨ret_bool HD.out.symm, rfl⟩

set_option maxHeartbeats 400000 in
theorem of_any {O : Nat → Prop} {B A cap : Nat} {m : Mo} {w : World} (g : Nat) (h : TkA w O B A cap m) (hg : g < m.h) :
    Calls Try.prog 58 #[.pointer (some ⟨B, 0, none⟩), .int .i64 g] w fun e w' => e = .returned (.slice (some ⟨A, 16 * g, none⟩) 16 (cap - 16 * g)) ∧ w = w' := by
  have c0 := h.c0
  have hn2 := h.wf.h2
  have hcp := h.cp
  clear h
  go_enter Try.func58, Try.ntmps58
  go_wp2
  go_ret
  refine ⟨?_, rfl⟩
  show Ending.returned (Value.slice (some ⟨A, g * 16, none⟩) (g * 16 + 16 - g * 16) (cap - g * 16)) = _
  rw [show g * 16 + 16 - g * 16 = 16 from by omega, Nat.mul_comm g 16]

end Go.Proofs.Ytecfjibmpbgllaa
