/- Classes and objects: package sizes and the document's; New on both sides. -/
import Derived.Test.YtejfoefhaphacaaGreatLd
import Derived.Maps.AppendAt
import Derived.WalkSmall
namespace Go.Proofs.YtejfoefhaphacaaGreat
open Go.RowKit

theorem quietL {P : Program} {f : FuncId} {args : Array Value} {w : World} {k : Nat} {r : Value} (hc : Calls P f args (w.drewN k) fun e w' => e = .returned r ∧ w.drewN k = w') :
    Calls P f args (w.drewN k) fun e w' => e = .returned r ∧ ∃ j, w' = w.drewN j := by
  refine hc.mono ?_
  rintro e w' ⟨he, rfl⟩
  exact ⟨he, k, rfl⟩

set_option maxHeartbeats 400000 in
theorem spanBytes_any (p : Int) (w : World) (h0 : 0 ≤ p) (h1 : p ≤ 16) :
    Calls Tryz.prog 87 #[.int .i64 p] w fun e w' => e = .returned (.int .i64 (p * 256)) ∧ w = w' := by
  go_enter Tryz.func87, Tryz.ntmps87
  go_wp2
  go_ret
  exact ⟨rfl, rfl⟩

set_option maxHeartbeats 400000 in
theorem objects_any (s p b : Int) (w : World) (h0 : 1 ≤ p) (h1 : p ≤ 4) (h2 : 8 ≤ s) (h3 : s ≤ 512) :
    Calls Tryz.prog 53 #[.agg #[.int .i64 s, .int .i64 p, .int .i64 b]] w fun e w' => e = .returned (.int .i64 (p * 256 / s)) ∧ Below w.heap.size w w' := by
  go_enter Tryz.func53, Tryz.ntmps53
  go_wp2
  have e1 : IntKind.i64.wrap (p * 256) = p * 256 := IntWalk.i64_in _ (by omega)
  go_quiet ((go_at_call 87; exact quietL (spanBytes_any _ _ (by omega) (by omega))))
  go_wp2
  go_ret
  exact ⟨rfl, belowN ((Below.refl _ _).alloc (Nat.le_refl _) _) _⟩

set_option maxHeartbeats 400000 in
theorem validClass_any (s p b : Int) (w : World) :
    Calls Tryz.prog 52 #[.agg #[.int .i64 s, .int .i64 p, .int .i64 b]] w fun e w' => e = .returned (.bool (okC ⟨s, p, b⟩)) ∧ Below w.heap.size w w' := by
  go_enter Tryz.func52, Tryz.ntmps52
  go_wp2
  refine wp_region_quiet_lit (by kernel_rfl) (by kernel_rfl) ?_
  repeat (any_goals (first | go_big_quiet_step ((go_at_call 87; exact quietL (spanBytes_any _ _ (by omega) (by omega)))) | quiet_step ((go_at_call 87; exact quietL (spanBytes_any _ _ (by omega) (by omega)))) | (refine wpQuiet_step (fun K hK => ?_); go_simp; split <;> (refine hK _ ?_; clear hK K))))
  all_goals (refine wpQuiet_nil ?_; intro _ hw'; obtain ⟨nq, hw''⟩ := hw'; subst hw'')
  all_goals
    go_wp2
    go_ret
    refine ⟨ret_bool ?_, belowN ((Below.refl _ _).alloc (Nat.le_refl _) _) _⟩
    unfold okC
    rw [Bool.eq_iff_iff]
    simp only [decide_eq_true_eq, Bool.false_eq_true, false_iff]
    omega

def objsV (c : Cs) : Int := if okC c = true then c.p * 256 / c.s else 0
def errV (c : Cs) : Int := if okC c = true then 0 else 1

set_option maxHeartbeats 400000 in
theorem SObjects_any (s p b : Int) (w : World) :
    Calls Tryz.prog 19 #[.agg #[.int .i64 s, .int .i64 p, .int .i64 b]] w fun e w' => e = .returned (.tuple #[.int .i64 (objsV ⟨s, p, b⟩), .int .i64 (errV ⟨s, p, b⟩)]) ∧ Below w.heap.size w w' := by
  by_cases hok : okC ⟨s, p, b⟩ = true
  · obtain ⟨h2, h3, _, h0, h1, _, _, _⟩ := okC_bd hok
    have e1 : objsV ⟨s, p, b⟩ = p * 256 / s := by unfold objsV; rw [if_pos hok]
    have E1 := Lib.hid e1
    have e2 : errV ⟨s, p, b⟩ = 0 := by unfold errV; rw [if_pos hok]
    have E2 := Lib.hid e2
    clear e1 e2
    dsimp only at h0 h1 h2 h3
    go_enter Tryz.func19, Tryz.ntmps19
    go_wp2_with (first
      | (go_at_call 52; refine (validClass_any _ _ _ _).mono ?_; rintro e w1 ⟨rfl, hb1⟩; have hz1 := hb1.size; have c1 := fun o => hb1.cell (p := ⟨w.heap.size, o, none⟩) (by simp))
      | (go_at_call 53; refine (objects_any _ _ _ _ h0 h1 h2 h3).mono ?_; rintro e w2 ⟨rfl, hb2⟩))
    go_ret2
    exact ⟨ret_two E1.out.symm E2.out.symm, btr (btr (bnew w _) hb1 (Nat.le_refl _)) hb2 (Nat.le_refl _)⟩
  · have hok : okC ⟨s, p, b⟩ = false := by simpa using hok
    have e1 : objsV ⟨s, p, b⟩ = 0 := by unfold objsV; rw [hok]; rfl
    have E1 := Lib.hid e1
    have e2 : errV ⟨s, p, b⟩ = 1 := by unfold errV; rw [hok]; rfl
    have E2 := Lib.hid e2
    clear e1 e2
    go_enter Tryz.func19, Tryz.ntmps19
    go_wp2_with (first
      | (go_at_call 52; refine (validClass_any _ _ _ _).mono ?_; rintro e w1 ⟨rfl, hb1⟩; have hz1 := hb1.size; have c1 := fun o => hb1.cell (p := ⟨w.heap.size, o, none⟩) (by simp)))
    go_ret2
    exact ⟨ret_two E1.out.symm E2.out.symm, btr (bnew w _) hb1 (Nat.le_refl _)⟩

theorem div_end {a s n : Int} (hs : 0 < s) (h0 : n * s ≤ a) (h1 : a < (n + 1) * s) : a / s = n := by
  have h2 : n ≤ a / s := (Int.le_ediv_iff_mul_le hs).2 h0
  have h3 : a / s < n + 1 := Int.ediv_lt_of_lt_mul hs h1
  omega

set_option maxRecDepth 100000 in
set_option maxHeartbeats 1000000 in
theorem RObjects_any (s p b : Int) (w : World) (h0 : 1 ≤ p) (h1 : p ≤ 4) (h2 : 8 ≤ s) (h3 : s ≤ 512) :
    Calls Tryz.prog 41 #[.agg #[.int .i64 s, .int .i64 p, .int .i64 b]] w fun e w' => e = .returned (.int .i64 (p * 256 / s)) ∧ Below w.heap.size w w' := by
  go_enter Tryz.func41, Tryz.ntmps41
  go_wp2
  go_loopw [3] (fun i wr => ∃ k : Nat, k ≤ 128 ∧ i = .int .i64 k ∧ (k : Int) * s ≤ p * 256 ∧ wr = w.alloc (.cells #[.int .i64 s, .int .i64 p, .int .i64 b] 23)) (fun i _ => 200 - (intOf i).toNat)
  case atStart => exact ⟨0, by omega, rfl, by omega, rfl⟩
  case round =>
    obtain ⟨k, hk, rfl, hle, rfl⟩ := hrel
    have g0 : 0 ≤ ((k : Int) + 1) * s := Int.mul_nonneg (by omega) (by omega)
    have g1 : ((k : Int) + 1) * s = (k : Int) * s + s := by rw [Int.add_mul, Int.one_mul]
    have G1 := Lib.hid g1
    have g2 : ((k : Int) + 1) * s ≤ 2048 := by omega
    have g3 : (k : Int) * 8 ≤ (k : Int) * s := Int.mul_le_mul_of_nonneg_left h2 (by omega)
    clear g1
    by_cases hlt : ((k : Int) + 1) * s ≤ p * 256
    · have g4 : ((k : Int) + 1) * 8 ≤ ((k : Int) + 1) * s := Int.mul_le_mul_of_nonneg_left h2 (by omega)
      go_wp2
      go_roundw
      case rel => exact ⟨k + 1, by omega, by go_num, by simpa using hlt, trivial⟩
      case measure => simp [intOf]; omega
    · go_wp2
      go_ret
      exact ⟨ret_int (div_end (by omega) hle (by omega)).symm, bnew _ _⟩

theorem tail_bd {s p : Int} (h0 : 1 ≤ p) (h1 : p ≤ 4) (h2 : 8 ≤ s) (_h3 : s ≤ 512) : 0 ≤ p * 256 / s ∧ p * 256 / s ≤ 128 ∧ 0 ≤ p * 256 / s * s ∧ p * 256 / s * s ≤ p * 256 := by
  have a : 0 ≤ p * 256 / s := Int.ediv_nonneg (by omega) (by omega)
  have b : p * 256 / s * s ≤ p * 256 := Int.ediv_mul_le _ (by omega)
  refine ⟨a, ?_, Int.mul_nonneg a (by omega), b⟩
  have := Int.mul_le_mul_of_nonneg_left h2 a
  omega

/-- A world that is as W0 was, below N. -/
structure CW (N : Nat) (W0 : World) where
  wd : World
  bel : Below N W0 wd
instance nonemptyCW (N : Nat) (W0 : World) : Nonempty (CW N W0) := ⟨⟨W0, Below.refl _ _⟩⟩
theorem region_below {P : Program} {id : Nat} {Q : Exit → Act → World → Prop} {a : Act} {w : World} {l : List Oper} (N : Nat) (hm : P.follows .mixedOrders = true) (hB : Region.lexB .any l.toArray = true)
    (h : wpQuiet P l.toArray (fun w' => ∃ n : CW N w, w' = n.wd) (fun a' => ∀ w', (∃ n : CW N w, w' = n.wd) → Q .normal a' w') l a) : (Code.region id l.toArray true).wp P Q a w :=
  wp_region_quiet (C := fun w' => ∃ n : CW N w, w' = n.wd) hm hB ⟨⟨_, (Below.refl _ _).drew⟩, rfl⟩ (by simpa using h)
theorem quietB {P : Program} {f : FuncId} {args : Array Value} {N : Nat} {W0 : World} {n : CW N W0} {v : Value} (hN : N ≤ W0.heap.size)
    (h : Calls P f args n.wd fun e w' => e = .returned v ∧ Below n.wd.heap.size n.wd w') : Calls P f args n.wd fun e w'' => e = .returned v ∧ ∃ m : CW N W0, w'' = m.wd :=
  h.mono fun _ w' ⟨he, hb⟩ => ⟨he, ⟨w', btr n.bel hb hN⟩, rfl⟩
theorem CW.cell {N : Nat} {W0 : World} {a : Addr} {v : Value} (hN : a.block < N) (h : W0.cell? a = some v) : ∀ n : CW N W0, n.wd.cell? a = some v := fun n => (n.bel.cell hN).trans h
theorem new3 (w : World) (a b c : Value) (t : TypeId) : ∃ W0, w.alloc (.cells #[a, b, c] t) = W0 ∧ Below w.heap.size w W0 ∧ w.heap.size + 1 ≤ W0.heap.size ∧
    W0.cell? ⟨w.heap.size, 0, none⟩ = some a ∧ W0.cell? ⟨w.heap.size, 1, none⟩ = some b ∧ W0.cell? ⟨w.heap.size, 2, none⟩ = some c := by
  refine ⟨_, rfl, (Below.refl _ _).alloc (Nat.le_refl _) _, by simp, ?_, ?_, ?_⟩ <;> go_simp

end Go.Proofs.YtejfoefhaphacaaGreat
