/- Leaves of package sizes: alignments, gaps, pages. -/
import Derived.Test.YtjloipljecjbaaaLa
namespace Go.Proofs.Ytjloipljecjbaaa
open Go.RowKit

def alB (al : Int) : Bool := al == 1 || al == 2 || al == 4 || al == 8 || al == 16 || al == 32 || al == 64 || al == 128 || al == 256

theorem alB_small : ∀ n : Fin 257, 1 ≤ n.val → (bits BinOp.and IntKind.i64 (n.val : Int) ((n.val : Int) - 1) == 0) = alB (n.val : Int) := by decide +kernel

theorem alB_bits (al : Int) (h0 : 1 ≤ al) (h1 : al ≤ 256) : (bits BinOp.and IntKind.i64 al (al - 1) == 0) = alB al := by
  obtain ⟨n, rfl⟩ := Int.eq_ofNat_of_zero_le (a := al) (by omega)
  exact alB_small ⟨n, by omega⟩ (by simp; omega)

theorem alB_out (al : Int) (h : al < 1 ∨ 256 < al) : alB al = false := by
  unfold alB
  simp
  omega

set_option maxHeartbeats 400000 in
theorem validAlign_any (al : Int) (w : World) :
    Calls Try.prog 38 #[.int .i64 al] w fun e w' => e = .returned (.bool (alB al)) ∧ w = w' := by
  go_enter Try.func38, Try.ntmps38
  go_wp2
  · go_ret
    exact ⟨ret_bool (alB_bits al ‹_› ‹_›), rfl⟩
  · go_ret
    exact ⟨ret_bool (alB_out al (.inr ‹_›)).symm, rfl⟩
  · go_ret
    exact ⟨ret_bool (alB_out al (.inl ‹_›)).symm, rfl⟩

/-- The length of a number below 256, in bits. -/
def lenI (n : Int) : Int := if n = 0 then 0 else (Nat.log2 n.toNat : Int) + 1

set_option maxRecDepth 100000 in
set_option maxHeartbeats 400000 in
theorem len64_any (n : Int) (w : World) (h0 : 0 ≤ n) (h1 : n < 256) :
    Calls Try.prog 46 #[.int .u64 n] w fun e w' => e = .returned (.int .i64 (lenI n)) ∧ w = w' := by
  go_enter Try.func46, Try.ntmps46
  go_wp2
  go_ret
  refine ⟨ret_int ?_, rfl⟩
  obtain ⟨m, rfl⟩ : ∃ m : Fin 256, n = (m.val : Int) := ⟨⟨n.toNat, by omega⟩, by simp; omega⟩
  rw [← getElem!_pos]
  clear h0 h1
  rename_i g1 g2 g3
  clear g1 g2 g3
  revert m
  decide +kernel

set_option maxHeartbeats 400000 in
theorem len_any (n : Int) (w : World) (h0 : 0 ≤ n) (h1 : n < 256) :
    Calls Try.prog 44 #[.int .u64 n] w fun e w' => e = .returned (.int .i64 (lenI n)) ∧ w = w' := by
  go_enter Try.func44, Try.ntmps44
  go_wp2_with (go_at_call 46; refine (len64_any _ _ h0 h1).mono ?_; rintro e w' ⟨rfl, rfl⟩)
  go_ret
  exact ⟨rfl, rfl⟩

/-- The distance from a size to the next one. -/
def gapI (s waste : Int) : Int := if s / waste < 8 then 8 else 2 ^ (Nat.log2 (s / waste).toNat)

theorem lenI_pos (n : Int) (h : 8 ≤ n) : lenI n = (Nat.log2 n.toNat : Int) + 1 := by unfold lenI; rw [if_neg (by omega)]

theorem lenI_bd (n : Int) (h : 8 ≤ n) (h1 : n < 256) : 4 ≤ lenI n ∧ lenI n ≤ 8 := by
  obtain ⟨m, rfl⟩ : ∃ m : Fin 256, n = (m.val : Int) := ⟨⟨n.toNat, by omega⟩, by simp; omega⟩
  have : ∀ m : Fin 256, 8 ≤ (m.val : Int) → 4 ≤ lenI (m.val : Int) ∧ lenI (m.val : Int) ≤ 8 := by decide +kernel
  exact this m h

theorem pow_of (L : Int) (g : Nat) (h0 : 4 ≤ L) (h1 : L ≤ 8) (h : L = (g : Int) + 1) : wrap64 (2 ^ (L.toNat - 1)) = 2 ^ g := by
  subst h
  have hg : g = 3 ∨ g = 4 ∨ g = 5 ∨ g = 6 ∨ g = 7 := by omega
  rcases hg with rfl | rfl | rfl | rfl | rfl <;> decide +kernel

set_option maxHeartbeats 400000 in
theorem gap_any (s waste : Int) (w : World) (h0 : 8 ≤ s) (h1 : s < 512) (h2 : 2 ≤ waste) (h3 : waste ≤ 16) :
    Calls Try.prog 42 #[.int .i64 s, .int .i64 waste] w fun e w' => e = .returned (.int .i64 (gapI s waste)) ∧ w = w' := by
  have q0 : 0 ≤ s / waste := Int.ediv_nonneg (by omega) (by omega)
  have q1 : s / waste < 256 := by
    have a := Int.mul_ediv_add_emod s waste
    have b := Int.emod_nonneg s (show waste ≠ 0 by omega)
    have c := Int.mul_le_mul_of_nonneg_right h2 q0
    omega
  have q2 : IntKind.u64.wrap (s / waste) = s / waste := by rw [IntKind.wrap_u64]; omega
  by_cases hlt : s / waste < 8
  · have e1 : gapI s waste = 8 := by unfold gapI; rw [if_pos hlt]
    have E1 := Lib.hid e1
    clear e1
    go_enter Try.func42, Try.ntmps42
    go_wp2
    go_ret
    exact ⟨ret_int E1.out.symm, rfl⟩
  · have e1 : gapI s waste = 2 ^ (Nat.log2 (s / waste).toNat) := by unfold gapI; rw [if_neg hlt]
    have E1 := Lib.hid e1
    clear e1
    obtain ⟨l0, l1⟩ := lenI_bd (s / waste) (by omega) q1
    have e2 := lenI_pos (s / waste) (by omega)
    have E2 := Lib.hid e2
    clear e2
    go_enter Try.func42, Try.ntmps42
    go_wp2_with (go_at_call 44; refine (len_any _ _ q0 q1).mono ?_; rintro e w' ⟨rfl, rfl⟩)
    go_ret
    exact ⟨ret_int (by rw [E1.out]; exact pow_of _ _ l0 l1 E2.out), rfl⟩

end Go.Proofs.Ytjloipljecjbaaa
