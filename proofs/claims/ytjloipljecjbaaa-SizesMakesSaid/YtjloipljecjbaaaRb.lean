/- The document's own answers: objects, tails, powers of two. -/
import Derived.Test.YtjloipljecjbaaaRa
namespace Go.Proofs.Ytjloipljecjbaaa
open Go.RowKit

theorem div_end {a s n : Int} (hs : 0 < s) (h0 : n * s ≤ a) (h1 : a < (n + 1) * s) : a / s = n := by
  have h2 : n ≤ a / s := (Int.le_ediv_iff_mul_le hs).2 h0
  have h3 : a / s < n + 1 := Int.ediv_lt_of_lt_mul hs h1
  omega

set_option maxRecDepth 100000 in
set_option maxHeartbeats 1000000 in
theorem RObjects_any (s p b : Int) (w : World) (h0 : 1 ≤ p) (h1 : p ≤ 4) (h2 : 8 ≤ s) (h3 : s ≤ 512) :
    Calls Try.prog 20 #[.agg #[.int .i64 s, .int .i64 p, .int .i64 b]] w fun e w' => e = .returned (.int .i64 (p * 256 / s)) ∧ Below w.heap.size w w' := by
  go_enter Try.func20, Try.ntmps20
  go_wp2
  go_loopw [3] (fun i wr => ∃ k : Nat, k ≤ 128 ∧ i = .int .i64 k ∧ (k : Int) * s ≤ p * 256 ∧ wr = w.alloc (.cells #[.int .i64 s, .int .i64 p, .int .i64 b] 24)) (fun i _ => 200 - (intOf i).toNat)
  case atStart => exact ⟨0, by omega, rfl, by omega, rfl⟩
  case round =>
    obtain ⟨k, hk, rfl, hle, rfl⟩ := hrel
    have g0 : 0 ≤ ((k : Int) + 1) * s := Int.mul_nonneg (by omega) (by omega)
    have g1 : ((k : Int) + 1) * s = (k : Int) * s + s := by rw [Int.add_mul, Int.one_mul]
    have G1 := Lib.hid g1
    have g2 : ((k : Int) + 1) * s ≤ 2048 := by omega
    have g3 : (k : Int) * 8 ≤ (k : Int) * s := Int.mul_le_mul_of_nonneg_left h2 (by omega)
    clear g1
    by_cases hlt : ((k : Int) + 1) * s ≤ p * 256
    · have g4 : ((k : Int) + 1) * 8 ≤ ((k : Int) + 1) * s := Int.mul_le_mul_of_nonneg_left h2 (by omega)
      go_wp2
      go_roundw
      case rel => exact ⟨k + 1, by omega, by go_num, by simpa using hlt, trivial⟩
      case measure => simp [intOf]; omega
    · go_wp2
      go_ret
      exact ⟨ret_int (div_end (by omega) hle (by omega)).symm, bnew _ _⟩

set_option maxRecDepth 100000 in
set_option maxHeartbeats 1000000 in
theorem RTail_any (s p b : Int) (w : World) (h0 : 1 ≤ p) (h1 : p ≤ 4) (h2 : 8 ≤ s) (h3 : s ≤ 512) :
    Calls Try.prog 21 #[.agg #[.int .i64 s, .int .i64 p, .int .i64 b]] w fun e w' => e = .returned (.int .i64 (p * 256 - p * 256 / s * s)) ∧ Below w.heap.size w w' := by
  obtain ⟨t1, t2, t3, t4⟩ := tail_bd h0 h1 h2 h3
  go_enter Try.func21, Try.ntmps21
  go_wp2
  obtain ⟨W0, hW, hB0, hsz, c1, c2, c3⟩ := new3 w (.int .i64 s) (.int .i64 p) (.int .i64 b) 24
  rw [hW]
  clear hW
  have G1 := CW.cell (N := w.heap.size + 1) (a := ⟨w.heap.size, 0, none⟩) (by simp) c1
  have G2 := CW.cell (N := w.heap.size + 1) (a := ⟨w.heap.size, 1, none⟩) (by simp) c2
  have G3 := CW.cell (N := w.heap.size + 1) (a := ⟨w.heap.size, 2, none⟩) (by simp) c3
  refine region_below (w.heap.size + 1) (by kernel_rfl) (by kernel_rfl) ?_
  repeat (first | go_big_quiet_step ((go_at_call 20; exact quietB hsz (RObjects_any _ _ _ _ h0 h1 h2 h3))) | quiet_step ((go_at_call 20; exact quietB hsz (RObjects_any _ _ _ _ h0 h1 h2 h3))))
  refine wpQuiet_nil ?_
  rintro _ ⟨nq, rfl⟩
  go_wp2
  go_ret
  exact ⟨rfl, hB0.trans (nq.bel.mono (by omega))⟩

def PowRel (al p : Int) : Prop := (p = 1 ∨ p = 2 ∨ p = 4 ∨ p = 8 ∨ p = 16 ∨ p = 32 ∨ p = 64 ∨ p = 128 ∨ p = 256 ∨ p = 512) ∧
  (1 < p → al ≠ 1) ∧ (2 < p → al ≠ 2) ∧ (4 < p → al ≠ 4) ∧ (8 < p → al ≠ 8) ∧ (16 < p → al ≠ 16) ∧ (32 < p → al ≠ 32) ∧ (64 < p → al ≠ 64) ∧ (128 < p → al ≠ 128) ∧ (256 < p → al ≠ 256)
theorem PowRel.next {al p : Int} (h : PowRel al p) (hp : p ≤ 256) (hne : al ≠ p) : PowRel al (2 * p) := by
  unfold PowRel at *
  obtain ⟨h1, h2⟩ := h
  rcases h1 with rfl | rfl | rfl | rfl | rfl | rfl | rfl | rfl | rfl | rfl <;> refine ⟨by omega, by omega, by omega, by omega, by omega, by omega, by omega, by omega, by omega, by omega⟩
theorem PowRel.hit {al p : Int} (h : PowRel al p) (hp : p ≤ 256) (he : al = p) : alB al = true := by
  unfold PowRel at h
  obtain ⟨h1, _⟩ := h
  subst he
  rcases h1 with rfl | rfl | rfl | rfl | rfl | rfl | rfl | rfl | rfl | rfl <;> first | rfl | omega
theorem PowRel.over {al p : Int} (h : PowRel al p) (hp : 256 < p) : alB al = false := by
  unfold PowRel at h
  unfold alB
  simp
  omega
theorem PowRel.bd {al p : Int} (h : PowRel al p) : 1 ≤ p ∧ p ≤ 512 := by
  unfold PowRel at h
  omega

set_option maxRecDepth 100000 in
set_option maxHeartbeats 1000000 in
theorem Power_any (al : Int) (w : World) : Calls Try.prog 39 #[.int .i64 al, .int .i64 256] w fun e w' => e = .returned (.bool (alB al)) ∧ w = w' := by
  go_enter Try.func39, Try.ntmps39
  go_wp2
  go_loop [5] (fun i => ∃ p : Int, i = .int .i64 p ∧ PowRel al p) (fun i => (600 - intOf i).toNat)
  case atStart => exact ⟨1, rfl, by unfold PowRel; omega⟩
  case round =>
    obtain ⟨p, rfl, hp⟩ := hrel
    obtain ⟨b1, b2⟩ := hp.bd
    have HP := Lib.hid hp
    clear hp
    by_cases hle : p ≤ 256
    · by_cases he : al = p
      · have hh := HP.out.hit hle he
        have HH := Lib.hid hh
        have hq : (p == al) = true := by simpa using he.symm
        clear he hh
        go_wp2
        go_ret
        exact ⟨ret_bool HH.out.symm, rfl⟩
      · have hh := HP.out.next hle he
        have HH := Lib.hid hh
        have hq : (p == al) = false := by simpa using fun h : p = al => he h.symm
        clear he hh
        go_wp2
        go_round
        case rel => exact ⟨2 * p, rfl, HH.out⟩
        case measure => simp [intOf]; omega
    · have hh := HP.out.over (by omega)
      have HH := Lib.hid hh
      clear hh
      go_wp2
      go_ret
      exact ⟨ret_bool HH.out.symm, rfl⟩

end Go.Proofs.Ytjloipljecjbaaa
