/- The leaves of package space: what each returns, over any world in which a space lies. -/
import Derived.Test.YtejjendklemebaaRows
import Derived.WalkKit
import Derived.WalkSpells
import Derived.WalkLawsBesides
import Derived.Deep.QuietTactic
import Derived.BigQuiet
import Derived.Lib.Hide
import Derived.Test.YtejjendklemebaaMb
namespace Go.Proofs.Ytejjendklemebaa
open Go.RowKit

theorem ret_int {k : IntKind} {a b : Int} (h : a = b) : Ending.returned (.int k a) = .returned (.int k b) := by rw [h]
theorem ret_bool {a b : Bool} (h : a = b) : Ending.returned (.bool a) = .returned (.bool b) := by rw [h]
theorem ret_two {k k' : IntKind} {a b a' b' : Int} (h : a = b) (h' : a' = b') : Ending.returned (.tuple #[.int k a, .int k' a']) = .returned (.tuple #[.int k b, .int k' b']) := by rw [h, h']
theorem btr {B : Nat} {a b c : World} (h : Below B a b) (hb : Below b.heap.size b c) (hB : B ≤ a.heap.size) : Below B a c := h.trans (hb.mono (Nat.le_trans hB h.size))
theorem bnew (w : World) (o : Obj) : Below w.heap.size w (w.alloc o) := (Below.refl _ _).alloc (Nat.le_refl _) _
theorem belowN {N : Nat} {w1 w2 : World} (hb : Below N w1 w2) (k : Nat) : Below N w1 (w2.drewN k) := by
  constructor
  · exact hb.os
  · exact hb.tape
  · exact hb.output
  · exact hb.size
  · exact hb.block

section
variable {w : World} {O : Nat → Prop} {B A cap : Nat} {pt : Nat → Option Nat} {m : Mo}
theorem SpA.c0 (h : SpA w O B A cap pt m) : w.cell? ⟨B, 0, none⟩ = some (.slice (some ⟨A, 0, none⟩) m.n cap) := h.b.cell 0 (by omega)
theorem SpA.c1 (h : SpA w O B A cap pt m) : w.cell? ⟨B, 1, none⟩ = some (.int .i64 m.dir) := h.b.cell 1 (by omega)
theorem SpA.c2 (h : SpA w O B A cap pt m) : w.cell? ⟨B, 2, none⟩ = some (.int .i64 m.pk) := h.b.cell 2 (by omega)
theorem SpA.a0 (h : SpA w O B A cap pt m) {k : Nat} (hk : k < m.n) : w.cell? ⟨A, k * 2, none⟩ = some (.bool (decide (m.st k ≠ 0))) := by
  have := h.a.cell (k * 2) (by omega)
  unfold pgF at this
  rwa [if_pos (by omega), show k * 2 / 2 = k from by omega] at this
theorem SpA.a1 (h : SpA w O B A cap pt m) {k : Nat} (hk : k < m.n) : w.cell? ⟨A, k * 2 + 1, none⟩ = some (.pointer (ptrA (pt k))) := by
  have := h.a.cell (k * 2 + 1) (by omega)
  unfold pgF at this
  rwa [if_neg (by omega), show (k * 2 + 1) / 2 = k from by omega] at this
theorem SpA.blt (h : SpA w O B A cap pt m) : B < w.heap.size := h.lt _ h.ob
theorem SpA.alt (h : SpA w O B A cap pt m) : A < w.heap.size := h.lt _ h.oa
end

/-- A space that nobody made: nil, or the zero value. -/
def NoS (w : World) (v : Value) : Prop := v = .pointer none ∨ ∃ B cap, v = .pointer (some ⟨B, 0, none⟩) ∧ w.cell? ⟨B, 0, none⟩ = some (.slice none 0 cap)
theorem NoS.below {w w' : World} {v : Value} (h : NoS w v) (hb : Below w.heap.size w w') : NoS w' v := by
  rcases h with h | ⟨B, cap, h, hc⟩
  · exact .inl h
  · exact .inr ⟨B, cap, h, (hb.cell (World.block_lt_of_cell? _ _ hc)).trans hc⟩

set_option maxHeartbeats 400000 in
theorem made_any {O : Nat → Prop} {B : Nat} {m : Mo} {w : World} (h : Sp w O B m) : Calls Try.prog 38 #[.pointer (some ⟨B, 0, none⟩)] w fun e w' => e = .returned (.bool true) ∧ w = w' := by
  obtain ⟨A, cap, pt, h⟩ := h
  have c0 := h.c0
  have hn := h.wf.n1
  have hn2 := h.wf.n2
  clear h
  go_enter Try.func38, Try.ntmps38
  go_wp2
  go_ret
  exact ⟨ret_bool (by simp; omega), rfl⟩

set_option maxHeartbeats 400000 in
theorem made_no {v : Value} {w : World} (h : NoS w v) : Calls Try.prog 38 #[v] w fun e w' => e = .returned (.bool false) ∧ w = w' := by
  rcases h with rfl | ⟨B, cap, rfl, hc⟩
  · go_enter Try.func38, Try.ntmps38
    go_wp2
    go_ret
    exact ⟨rfl, rfl⟩
  · go_enter Try.func38, Try.ntmps38
    go_wp2
    go_ret
    exact ⟨rfl, rfl⟩

set_option maxHeartbeats 400000 in
theorem inside_any {O : Nat → Prop} {B : Nat} {m : Mo} {w : World} (s k : Int) (h : Sp w O B m) (hs : -9223372036854775808 ≤ s ∧ s ≤ 9223372036854775807) :
    Calls Try.prog 57 #[.pointer (some ⟨B, 0, none⟩), .int .i64 s, .int .i64 k] w fun e w' => e = .returned (.bool (inM m s k)) ∧ w = w' := by
  obtain ⟨A, cap, pt, h⟩ := h
  have c0 := h.c0
  have hn := h.wf.n1
  have hn2 := h.wf.n2
  clear h
  unfold inM
  go_enter Try.func57, Try.ntmps57
  go_wp2
  all_goals
    go_ret
    refine ⟨ret_bool ?_, rfl⟩
    rw [Bool.eq_iff_iff]
    simp only [decide_eq_true_eq, Bool.false_eq_true, false_iff, Bool.and_eq_true]
    omega

set_option maxHeartbeats 400000 in
theorem isMapped_any (b : Bool) (p : Value) (w : World) : Calls Try.prog 61 #[.agg #[.bool b, p]] w fun e w' => e = .returned (.bool b) ∧ Below w.heap.size w w' := by
  go_enter Try.func61, Try.ntmps61
  go_wp2
  go_ret
  exact ⟨rfl, bnew _ _⟩

set_option maxHeartbeats 400000 in
theorem wordOf_any (i : Nat) (w : World) (hi : i < 32768) : Calls Try.prog 60 #[.int .i64 (8 * i)] w fun e w' => e = .returned (.int .i64 ((i % 32 : Nat) : Int)) ∧ w = w' := by
  go_enter Try.func60, Try.ntmps60
  go_wp2
  go_ret
  exact ⟨ret_int (by omega), rfl⟩


theorem eqp (W : World) : Sem.run Try.prog (Op.equalIn 9999 70 (.pointer none) (.pointer none)) W = .ok true W := by
  rfl
theorem eqp' (W : World) (b : Nat) : Sem.run Try.prog (Op.equalIn 9999 70 (.pointer (some ⟨b, 0, none⟩)) (.pointer none)) W = .ok false W := by
  rfl
set_option maxHeartbeats 400000 in
theorem state_any (b : Bool) (o : Option Nat) (w : World) : Calls Try.prog 58 #[.agg #[.bool b, .pointer (ptrA o)]] w fun e w' => e = .returned (.int .i64 (if o = none then (if b = true then 1 else 0) else 2)) ∧ Below w.heap.size w w' := by
  have h1 := eqp
  have h2 := eqp'
  cases o with
  | none =>
    cases b <;>
    · unfold ptrA
      go_enter Try.func58, Try.ntmps58
      go_wp2
      go_ret
      exact ⟨rfl, bnew _ _⟩
  | some x =>
    cases b <;>
    · unfold ptrA
      go_enter Try.func58, Try.ntmps58
      go_wp2
      go_ret
      exact ⟨rfl, bnew _ _⟩

end Go.Proofs.Ytejjendklemebaa
