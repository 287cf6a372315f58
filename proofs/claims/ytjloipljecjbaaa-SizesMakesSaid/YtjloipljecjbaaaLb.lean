/- More leaves of package sizes. -/
import Derived.Test.YtjloipljecjbaaaLa
import Derived.Deep.RegionHeld3
namespace Go.Proofs.Ytjloipljecjbaaa
open Go.RowKit

theorem keepL {N : Nat} {W0 W w' : World} (hW : Below N W0 W) (hb : Below W.heap.size W w') (hN : N ≤ W0.heap.size) : Below N W0 w' ∧ ∀ a v, a.block < N → W.cell? a = some v → w'.cell? a = some v :=
  ⟨hW.trans (hb.mono (Nat.le_trans hN hW.size)), fun _ _ ha h => (hb.cell (Nat.lt_of_lt_of_le ha (Nat.le_trans hN hW.size))).trans h⟩

theorem two3 (w : World) (a b c a' b' c' : Value) (t : TypeId) : ∃ W0, (w.alloc (.cells #[a, b, c] t)).alloc (.cells #[a', b', c'] t) = W0 ∧ Below w.heap.size w W0 ∧ w.heap.size + 2 ≤ W0.heap.size ∧
    W0.cell? ⟨w.heap.size, 0, none⟩ = some a ∧ W0.cell? ⟨w.heap.size, 1, none⟩ = some b ∧ W0.cell? ⟨w.heap.size, 2, none⟩ = some c ∧
    W0.cell? ⟨w.heap.size + 1, 0, none⟩ = some a' ∧ W0.cell? ⟨w.heap.size + 1, 1, none⟩ = some b' ∧ W0.cell? ⟨w.heap.size + 1, 2, none⟩ = some c' := by
  refine ⟨_, rfl, ((Below.refl _ _).alloc (Nat.le_refl _) _).alloc (by simp) _, by simp, ?_, ?_, ?_, ?_, ?_, ?_⟩ <;> go_simp

set_option maxHeartbeats 400000 in
theorem sameSpans_any (s p b s' p' b' : Int) (w : World) (h0 : 1 ≤ p) (h1 : p ≤ 4) (h2 : 8 ≤ s) (h3 : s ≤ 512) (h0' : 1 ≤ p') (h1' : p' ≤ 4) (h2' : 8 ≤ s') (h3' : s' ≤ 512) :
    Calls Try.prog 35 #[.agg #[.int .i64 s, .int .i64 p, .int .i64 b], .agg #[.int .i64 s', .int .i64 p', .int .i64 b']] w fun e w' => e = .returned (.bool (decide (p = p' ∧ p * 256 / s = p' * 256 / s'))) ∧ Below w.heap.size w w' := by
  go_enter Try.func35, Try.ntmps35
  go_wp2
  obtain ⟨W0, hW, hB0, hsz, c1, c2, c3, c4, c5, c6⟩ := two3 w (.int .i64 s) (.int .i64 p) (.int .i64 b) (.int .i64 s') (.int .i64 p') (.int .i64 b') 24
  rw [hW]
  clear hW
  have hB1 : Below (w.heap.size + 2) W0 W0.drew := (Below.refl _ _).drew
  by_cases hpp : p = p'
  · have hq : (p == p') = true := by simpa using hpp
    have HP := Lib.hid hpp
    clear hpp
    go_region_held3 (fun w' => w'.cell? ⟨w.heap.size, 0, none⟩ = some (.int .i64 s) ∧ w'.cell? ⟨w.heap.size, 1, none⟩ = some (.int .i64 p) ∧ w'.cell? ⟨w.heap.size, 2, none⟩ = some (.int .i64 b) ∧
     w'.cell? ⟨w.heap.size+1, 0, none⟩ = some (.int .i64 s') ∧ w'.cell? ⟨w.heap.size+1, 1, none⟩ = some (.int .i64 p') ∧ w'.cell? ⟨w.heap.size+1, 2, none⟩ = some (.int .i64 b') ∧ Below (w.heap.size + 2) W0 w')
     ((first | exact ⟨c1, c2, c3, c4, c5, c6, hB1⟩ | (have hh := ‹_ ∧ _ ∧ _ ∧ _ ∧ _ ∧ _ ∧ _›; obtain ⟨hB, hk⟩ := keepL hh.2.2.2.2.2.2 hb hsz; exact ⟨hk _ _ (by simp) hh.1, hk _ _ (by simp) hh.2.1, hk _ _ (by simp) hh.2.2.1, hk _ _ (by simp) hh.2.2.2.1, hk _ _ (by simp) hh.2.2.2.2.1, hk _ _ (by simp) hh.2.2.2.2.2.1, hB⟩) | go_keep | (trace_state; fail)))
     (first | (go_at_call 32; refine (objects_any _ _ _ _ (by omega) (by omega) (by omega) (by omega)).mono ?_; rintro e w' ⟨rfl, hb⟩))
    have hh := ‹_ ∧ _ ∧ _ ∧ _ ∧ _ ∧ _ ∧ _›
    go_wp2
    go_ret
    refine ⟨ret_bool ?_, hB0.trans (hh.2.2.2.2.2.2.mono (by omega))⟩
    rw [Bool.eq_iff_iff]
    simp [HP.out]
  · have hq : (p == p') = false := by simpa using hpp
    have HP := Lib.hid hpp
    clear hpp
    go_quiet (fail)
    go_wp2
    go_ret
    exact ⟨ret_bool (by simp [HP.out]), belowN hB0 _⟩

theorem new3 (w : World) (a b c : Value) (t : TypeId) : ∃ W0, w.alloc (.cells #[a, b, c] t) = W0 ∧ Below w.heap.size w W0 ∧ w.heap.size + 1 ≤ W0.heap.size ∧
    W0.cell? ⟨w.heap.size, 0, none⟩ = some a ∧ W0.cell? ⟨w.heap.size, 1, none⟩ = some b ∧ W0.cell? ⟨w.heap.size, 2, none⟩ = some c := by
  refine ⟨_, rfl, (Below.refl _ _).alloc (Nat.le_refl _) _, by simp, ?_, ?_, ?_⟩ <;> go_simp

theorem ret_two {k k' : IntKind} {a b a' b' : Int} (h : a = b) (h' : a' = b') : Ending.returned (.tuple #[.int k a, .int k' a']) = .returned (.tuple #[.int k b, .int k' b']) := by rw [h, h']

def objsV (c : Cl) : Int := if okC c = true then c.p * 256 / c.s else 0
def tailV (c : Cl) : Int := if okC c = true then c.p * 256 - c.p * 256 / c.s * c.s else 0
def errV (c : Cl) : Int := if okC c = true then 0 else 1

theorem okC_bd {s p b : Int} (h : okC ⟨s, p, b⟩ = true) : 8 ≤ s ∧ s ≤ 512 ∧ s % 8 = 0 ∧ 1 ≤ p ∧ p ≤ 4 ∧ s ≤ p * 256 ∧ 1 ≤ b ∧ b ≤ 32 := by
  unfold okC at h
  simpa using h

set_option maxHeartbeats 400000 in
theorem Objects_any (s p b : Int) (w : World) :
    Calls Try.prog 15 #[.agg #[.int .i64 s, .int .i64 p, .int .i64 b]] w fun e w' => e = .returned (.tuple #[.int .i64 (objsV ⟨s, p, b⟩), .int .i64 (errV ⟨s, p, b⟩)]) ∧ Below w.heap.size w w' := by
  by_cases hok : okC ⟨s, p, b⟩ = true
  · obtain ⟨h2, h3, _, h0, h1, _, _, _⟩ := okC_bd hok
    have e1 : objsV ⟨s, p, b⟩ = p * 256 / s := by unfold objsV; rw [if_pos hok]
    have E1 := Lib.hid e1
    have e2 : errV ⟨s, p, b⟩ = 0 := by unfold errV; rw [if_pos hok]
    have E2 := Lib.hid e2
    clear e1 e2
    go_enter Try.func15, Try.ntmps15
    go_wp2_with (first
      | (go_at_call 31; refine (validClass_any _ _ _ _).mono ?_; rintro e w1 ⟨rfl, hb1⟩; have hz1 := hb1.size; have c1 := fun o => hb1.cell (p := ⟨w.heap.size, o, none⟩) (by simp))
      | (go_at_call 32; refine (objects_any _ _ _ _ h0 h1 h2 h3).mono ?_; rintro e w2 ⟨rfl, hb2⟩))
    go_ret2
    exact ⟨ret_two E1.out.symm E2.out.symm, btr (btr (bnew w _) hb1 (Nat.le_refl _)) hb2 (Nat.le_refl _)⟩
  · have hok : okC ⟨s, p, b⟩ = false := by simpa using hok
    have e1 : objsV ⟨s, p, b⟩ = 0 := by unfold objsV; rw [hok]; rfl
    have E1 := Lib.hid e1
    have e2 : errV ⟨s, p, b⟩ = 1 := by unfold errV; rw [hok]; rfl
    have E2 := Lib.hid e2
    clear e1 e2
    go_enter Try.func15, Try.ntmps15
    go_wp2_with (first
      | (go_at_call 31; refine (validClass_any _ _ _ _).mono ?_; rintro e w1 ⟨rfl, hb1⟩; have hz1 := hb1.size; have c1 := fun o => hb1.cell (p := ⟨w.heap.size, o, none⟩) (by simp)))
    go_ret2
    exact ⟨ret_two E1.out.symm E2.out.symm, btr (bnew w _) hb1 (Nat.le_refl _)⟩

theorem tail_bd {s p : Int} (h0 : 1 ≤ p) (h1 : p ≤ 4) (h2 : 8 ≤ s) (h3 : s ≤ 512) : 0 ≤ p * 256 / s ∧ p * 256 / s ≤ 128 ∧ 0 ≤ p * 256 / s * s ∧ p * 256 / s * s ≤ p * 256 := by
  have a : 0 ≤ p * 256 / s := Int.ediv_nonneg (by omega) (by omega)
  have b : p * 256 / s * s ≤ p * 256 := Int.ediv_mul_le _ (by omega)
  refine ⟨a, ?_, Int.mul_nonneg a (by omega), b⟩
  have := Int.mul_le_mul_of_nonneg_left h2 a
  omega

set_option maxHeartbeats 400000 in
theorem Tail_any (s p b : Int) (w : World) :
    Calls Try.prog 16 #[.agg #[.int .i64 s, .int .i64 p, .int .i64 b]] w fun e w' => e = .returned (.tuple #[.int .i64 (tailV ⟨s, p, b⟩), .int .i64 (errV ⟨s, p, b⟩)]) ∧ Below w.heap.size w w' := by
  by_cases hok : okC ⟨s, p, b⟩ = true
  · obtain ⟨h2, h3, _, h0, h1, _, _, _⟩ := okC_bd hok
    have e1 : tailV ⟨s, p, b⟩ = p * 256 - p * 256 / s * s := by unfold tailV; rw [if_pos hok]
    have E1 := Lib.hid e1
    have e2 : errV ⟨s, p, b⟩ = 0 := by unfold errV; rw [if_pos hok]
    have E2 := Lib.hid e2
    clear e1 e2
    obtain ⟨t1, t2, t3, t4⟩ := tail_bd h0 h1 h2 h3
    have g1 : IntKind.i64.wrap (p * 256 / s * s) = p * 256 / s * s := IntWalk.i64_in _ (by omega)
    have g2 : IntKind.i64.wrap (p * 256 - p * 256 / s * s) = p * 256 - p * 256 / s * s := IntWalk.i64_in _ (by omega)
    go_enter Try.func16, Try.ntmps16
    go_wp2_with (first
      | (go_at_call 31; refine (validClass_any _ _ _ _).mono ?_; rintro e w1 ⟨rfl, hb1⟩; have hz1 := hb1.size; have c1 := fun o => hb1.cell (p := ⟨w.heap.size, o, none⟩) (by simp)))
    have hz2 : w.heap.size + 1 ≤ w1.heap.size := by simpa using hz1
    have d0 : w1.cell? ⟨w.heap.size, 0, none⟩ = some (.int .i64 s) := by rw [c1]; go_simp
    have d1 : w1.cell? ⟨w.heap.size, 1, none⟩ = some (.int .i64 p) := by rw [c1]; go_simp
    have d2 : w1.cell? ⟨w.heap.size, 2, none⟩ = some (.int .i64 b) := by rw [c1]; go_simp
    have hB1 : Below (w.heap.size + 1) w1 w1.drew := (Below.refl _ _).drew
    clear c1
    go_region_held3 (fun w' => w'.cell? ⟨w.heap.size, 0, none⟩ = some (.int .i64 s) ∧ w'.cell? ⟨w.heap.size, 1, none⟩ = some (.int .i64 p) ∧ w'.cell? ⟨w.heap.size, 2, none⟩ = some (.int .i64 b) ∧ Below (w.heap.size + 1) w1 w')
     ((first | exact ⟨d0, d1, d2, hB1⟩ | (have hh := ‹_ ∧ _ ∧ _ ∧ _›; obtain ⟨hB, hk⟩ := keepL hh.2.2.2 hb hz2; exact ⟨hk _ _ (by simp) hh.1, hk _ _ (by simp) hh.2.1, hk _ _ (by simp) hh.2.2.1, hB⟩) | go_keep))
     (first | (go_at_call 32; refine (objects_any _ _ _ _ h0 h1 h2 h3).mono ?_; rintro e w' ⟨rfl, hb⟩) | (go_at_call 33; refine (spanBytes_any _ _ (by omega) (by omega)).mono ?_; rintro e w' ⟨rfl, rfl⟩))
    have hh := ‹_ ∧ _ ∧ _ ∧ _›
    go_wp2
    go_ret2
    exact ⟨ret_two E1.out.symm E2.out.symm, (btr (bnew w _) hb1 (Nat.le_refl _)).trans (hh.2.2.2.mono (by omega))⟩
  · have hok : okC ⟨s, p, b⟩ = false := by simpa using hok
    have e1 : tailV ⟨s, p, b⟩ = 0 := by unfold tailV; rw [hok]; rfl
    have E1 := Lib.hid e1
    have e2 : errV ⟨s, p, b⟩ = 1 := by unfold errV; rw [hok]; rfl
    have E2 := Lib.hid e2
    clear e1 e2
    go_enter Try.func16, Try.ntmps16
    go_wp2_with (first
      | (go_at_call 31; refine (validClass_any _ _ _ _).mono ?_; rintro e w1 ⟨rfl, hb1⟩; have hz1 := hb1.size; have c1 := fun o => hb1.cell (p := ⟨w.heap.size, o, none⟩) (by simp)))
    go_ret2
    exact ⟨ret_two E1.out.symm E2.out.symm, btr (bnew w _) hb1 (Nat.le_refl _)⟩

end Go.Proofs.Ytjloipljecjbaaa
