/- The leaves of package sizes: what each returns, over any world. -/
import Derived.Test.YtjloipljecjbaaaRows
import Derived.WalkKit
import Derived.WalkSpells
import Derived.WalkLawsBesides
import Derived.Deep.QuietTactic
import Derived.BigQuiet
import Derived.Lib.Hide
namespace Go.Proofs.Ytjloipljecjbaaa
open Go.RowKit

/-- A call that leaves the world as it was is quiet behind any draws. -/
theorem quietL {P : Program} {f : FuncId} {args : Array Value} {w : World} {k : Nat} {r : Value} (hc : Calls P f args (w.drewN k) fun e w' => e = .returned r ∧ w.drewN k = w') :
    Calls P f args (w.drewN k) fun e w' => e = .returned r ∧ ∃ j, w' = w.drewN j := by
  refine hc.mono ?_
  rintro e w' ⟨he, rfl⟩
  exact ⟨he, k, rfl⟩
/-- Draws change no block. -/
theorem belowN {N : Nat} {w1 w2 : World} (hb : Below N w1 w2) (k : Nat) : Below N w1 (w2.drewN k) := by
  constructor
  · exact hb.os
  · exact hb.tape
  · exact hb.output
  · exact hb.size
  · exact hb.block
theorem ret_int {k : IntKind} {a b : Int} (h : a = b) : Ending.returned (.int k a) = .returned (.int k b) := by rw [h]
theorem ret_bool {a b : Bool} (h : a = b) : Ending.returned (.bool a) = .returned (.bool b) := by rw [h]

theorem btr {B : Nat} {a b c : World} (h : Below B a b) (hb : Below b.heap.size b c) (hB : B ≤ a.heap.size) : Below B a c := h.trans (hb.mono (Nat.le_trans hB h.size))
theorem bnew (w : World) (o : Obj) : Below w.heap.size w (w.alloc o) := (Below.refl _ _).alloc (Nat.le_refl _) _

structure Cl where
  s : Int
  p : Int
  b : Int

def Cl.val (c : Cl) : Value := .agg #[.int .i64 c.s, .int .i64 c.p, .int .i64 c.b]

def okC (c : Cl) : Bool := decide (8 ≤ c.s ∧ c.s ≤ 512 ∧ c.s % 8 = 0 ∧ 1 ≤ c.p ∧ c.p ≤ 4 ∧ c.s ≤ c.p * 256 ∧ 1 ≤ c.b ∧ c.b ≤ 32)

set_option maxHeartbeats 400000 in
theorem spanBytes_any (p : Int) (w : World) (h0 : 0 ≤ p) (h1 : p ≤ 16) :
    Calls Try.prog 33 #[.int .i64 p] w fun e w' => e = .returned (.int .i64 (p * 256)) ∧ w = w' := by
  go_enter Try.func33, Try.ntmps33
  go_wp2
  go_ret
  exact ⟨rfl, rfl⟩

set_option maxHeartbeats 400000 in
theorem objects_any (s p b : Int) (w : World) (h0 : 1 ≤ p) (h1 : p ≤ 4) (h2 : 8 ≤ s) (h3 : s ≤ 512) :
    Calls Try.prog 32 #[.agg #[.int .i64 s, .int .i64 p, .int .i64 b]] w fun e w' => e = .returned (.int .i64 (p * 256 / s)) ∧ Below w.heap.size w w' := by
  go_enter Try.func32, Try.ntmps32
  go_wp2
  have e1 : IntKind.i64.wrap (p * 256) = p * 256 := IntWalk.i64_in _ (by omega)
  go_quiet ((go_at_call 33; exact quietL (spanBytes_any _ _ (by omega) (by omega))))
  go_wp2
  go_ret
  exact ⟨rfl, belowN ((Below.refl _ _).alloc (Nat.le_refl _) _) _⟩

set_option maxHeartbeats 400000 in
theorem validClass_any (s p b : Int) (w : World) :
    Calls Try.prog 31 #[.agg #[.int .i64 s, .int .i64 p, .int .i64 b]] w fun e w' => e = .returned (.bool (okC ⟨s, p, b⟩)) ∧ Below w.heap.size w w' := by
  go_enter Try.func31, Try.ntmps31
  go_wp2
  refine wp_region_quiet_lit (by kernel_rfl) (by kernel_rfl) ?_
  repeat (any_goals (first | go_big_quiet_step ((go_at_call 33; exact quietL (spanBytes_any _ _ (by omega) (by omega)))) | quiet_step ((go_at_call 33; exact quietL (spanBytes_any _ _ (by omega) (by omega)))) | (refine wpQuiet_step (fun K hK => ?_); go_simp; split <;> (refine hK _ ?_; clear hK K))))
  all_goals (refine wpQuiet_nil ?_; intro _ hw'; obtain ⟨nq, hw''⟩ := hw'; subst hw'')
  all_goals
    go_wp2
    go_ret
    refine ⟨ret_bool ?_, belowN ((Below.refl _ _).alloc (Nat.le_refl _) _) _⟩
    unfold okC
    rw [Bool.eq_iff_iff]
    simp only [decide_eq_true_eq, Bool.false_eq_true, false_iff]
    omega

end Go.Proofs.Ytjloipljecjbaaa
