/- Leaves of package sizes: the pages and the class of a size. -/
import Derived.Test.YtjloipljecjbaaaLc
namespace Go.Proofs.Ytjloipljecjbaaa
open Go.RowKit

def okP (s w n : Int) : Bool := decide (s ≤ n * 256 ∧ w * (n * 256 % s) ≤ n * 256)
def spI (s w : Int) : Int := if okP s w 1 = true then 1 else if okP s w 2 = true then 2 else if okP s w 3 = true then 3 else 4

theorem spI_at (s w : Int) (k : Nat) (hk : k < 4) (hn : ∀ j : Nat, j < k → okP s w ((j : Int) + 1) = false) (h : okP s w ((k : Int) + 1) = true) : spI s w = (k : Int) + 1 := by
  unfold spI
  have hk' : k = 0 ∨ k = 1 ∨ k = 2 ∨ k = 3 := by omega
  rcases hk' with rfl | rfl | rfl | rfl
  · have h1 : okP s w 1 = true := h
    rw [if_pos h1]; rfl
  · have a1 : okP s w 1 = false := hn 0 (by omega)
    have h1 : okP s w 2 = true := h
    rw [a1, if_neg (by decide), if_pos h1]; rfl
  · have a1 : okP s w 1 = false := hn 0 (by omega)
    have a2 : okP s w 2 = false := hn 1 (by omega)
    have h1 : okP s w 3 = true := h
    rw [a1, a2, if_neg (by decide), if_neg (by decide), if_pos h1]; rfl
  · have a1 : okP s w 1 = false := hn 0 (by omega)
    have a2 : okP s w 2 = false := hn 1 (by omega)
    have a3 : okP s w 3 = false := hn 2 (by omega)
    rw [a1, a2, a3, if_neg (by decide), if_neg (by decide), if_neg (by decide)]; rfl
theorem spI_end (s w : Int) (hn : ∀ j : Nat, j < 4 → okP s w ((j : Int) + 1) = false) : spI s w = 4 := by
  unfold spI
  have a1 : okP s w 1 = false := hn 0 (by omega)
  have a2 : okP s w 2 = false := hn 1 (by omega)
  have a3 : okP s w 3 = false := hn 2 (by omega)
  rw [a1, a2, a3, if_neg (by decide), if_neg (by decide), if_neg (by decide)]

theorem spI_bd (s w : Int) : 1 ≤ spI s w ∧ spI s w ≤ 4 := by
  unfold spI
  by_cases h1 : okP s w 1 = true
  · rw [if_pos h1]; omega
  · rw [if_neg h1]
    by_cases h2 : okP s w 2 = true
    · rw [if_pos h2]; omega
    · rw [if_neg h2]
      by_cases h3 : okP s w 3 = true
      · rw [if_pos h3]; omega
      · rw [if_neg h3]; omega

def NotYet (s w : Int) (k : Nat) : Prop := ∀ j : Nat, j < k → okP s w ((j : Int) + 1) = false
theorem NotYet.snoc {s w : Int} {k : Nat} (h : NotYet s w k) (h1 : okP s w ((k : Int) + 1) = false) : NotYet s w (k + 1) := fun j hj => by
  rcases Nat.lt_or_ge j k with hlt | hge
  · exact h j hlt
  · obtain rfl : j = k := by omega
    exact h1

theorem okP_t {s w n : Int} (h : s ≤ n * 256) (h' : w * (n * 256 % s) ≤ n * 256) : okP s w n = true := decide_eq_true ⟨h, h'⟩
theorem okP_f2 {s w n : Int} (h' : n * 256 < w * (n * 256 % s)) : okP s w n = false := decide_eq_false (fun h => absurd h.2 (by omega))
theorem okP_f1 {s w n : Int} (h' : ¬ s ≤ n * 256) : okP s w n = false := decide_eq_false (fun h => h' h.1)
theorem rem_bd (s n : Int) (h : 1 ≤ s) : 0 ≤ n % s ∧ n % s < s := ⟨Int.emod_nonneg _ (by omega), Int.emod_lt_of_pos _ (by omega)⟩

set_option maxRecDepth 100000 in
set_option maxHeartbeats 400000 in
theorem spanPages_any (s waste : Int) (w : World) (h0 : 8 ≤ s) (h1 : s ≤ 512) (h2 : 2 ≤ waste) (h3 : waste ≤ 16) :
    Calls Try.prog 43 #[.int .i64 s, .int .i64 waste] w fun e w' => e = .returned (.int .i64 (spI s waste)) ∧ w = w' := by
  go_enter Try.func43, Try.ntmps43
  go_wp2
  go_loop [5, 6, 7] (fun _ _ i => ∃ k : Nat, k ≤ 4 ∧ i = .int .i64 k ∧ NotYet s waste k) (fun _ _ i => 4 - (intOf i).toNat)
  case atStart => exact ⟨0, by omega, rfl, fun _ h => absurd h (by omega)⟩
  case round =>
    obtain ⟨k, hk, rfl, hn⟩ := hrel
    have HN := Lib.hid hn
    clear hn
    by_cases hlt : k < 4
    · have r := rem_bd s (((k : Int) + 1) * 256) (by omega)
      have m0 : 0 ≤ waste * (((k : Int) + 1) * 256 % s) := Int.mul_nonneg (by omega) r.1
      have m1 : waste * (((k : Int) + 1) * 256 % s) ≤ 8192 := Int.le_trans (Int.mul_le_mul h3 (show _ ≤ (512 : Int) by omega) r.1 (by omega)) (by omega)
      go_wp2_with (go_at_call 33; refine (spanBytes_any _ _ (by omega) (by omega)).mono ?_; rintro e w' ⟨rfl, rfl⟩)
      · go_ret
        exact ⟨ret_int (spI_at s waste k hlt HN.out (okP_t ‹_› ‹_›)).symm, rfl⟩
      · go_round
        case rel => exact ⟨k + 1, by omega, by go_num, HN.out.snoc (okP_f2 ‹_›)⟩
        case measure => simp [intOf]; omega
      · go_round
        case rel => exact ⟨k + 1, by omega, by go_num, HN.out.snoc (okP_f1 ‹_›)⟩
        case measure => simp [intOf]; omega
    · go_wp2
      go_ret
      obtain rfl : k = 4 := by omega
      exact ⟨ret_int (spI_end s waste HN.out).symm, rfl⟩


def batI (s : Int) : Int := if 512 / s < 2 then 2 else if 32 < 512 / s then 32 else 512 / s
def candI (s waste : Int) : Cl := ⟨s, spI s waste, batI s⟩

set_option maxHeartbeats 400000 in
theorem candidate_any (s waste : Int) (w : World) (h0 : 8 ≤ s) (h1 : s ≤ 512) (h2 : 2 ≤ waste) (h3 : waste ≤ 16) :
    Calls Try.prog 41 #[.int .i64 s, .int .i64 waste] w fun e w' => e = .returned (.agg #[.int .i64 s, .int .i64 (spI s waste), .int .i64 (batI s)]) ∧ Below w.heap.size w w' := by
  have q0 : 0 ≤ 512 / s := Int.ediv_nonneg (by omega) (by omega)
  have q1 : 512 / s ≤ 512 := Int.ediv_le_self _ (by omega)
  have e1 : 512 / s < 2 → batI s = 2 := fun h => by unfold batI; rw [if_pos h]
  have e2 : ¬ 512 / s < 2 → ¬ 32 < 512 / s → batI s = 512 / s := fun h h' => by unfold batI; rw [if_neg h, if_neg h']
  have e3 : ¬ 512 / s < 2 → 32 < 512 / s → batI s = 32 := fun h h' => by unfold batI; rw [if_neg h, if_pos h']
  by_cases c1 : 512 / s < 2
  · have E := Lib.hid (e1 c1)
    clear e1 e2 e3
    go_enter Try.func41, Try.ntmps41
    go_wp2_with (go_at_call 43; refine (spanPages_any _ _ _ h0 h1 h2 h3).mono ?_; rintro e w' ⟨rfl, rfl⟩)
    rw [E.out]
    exact bodyPost_ret (v := .agg #[.int .i64 s, .int .i64 (spI s waste), .int .i64 2]) (by simp [results, Try.results41, go_sem]) rfl ⟨rfl, bnew _ _⟩
  · by_cases c2 : 32 < 512 / s
    · have E := Lib.hid (e3 c1 c2)
      clear e1 e2 e3
      go_enter Try.func41, Try.ntmps41
      go_wp2_with (go_at_call 43; refine (spanPages_any _ _ _ h0 h1 h2 h3).mono ?_; rintro e w' ⟨rfl, rfl⟩)
      rw [E.out]
      exact bodyPost_ret (v := .agg #[.int .i64 s, .int .i64 (spI s waste), .int .i64 32]) (by simp [results, Try.results41, go_sem]) rfl ⟨rfl, bnew _ _⟩
    · have E := Lib.hid (e2 c1 c2)
      clear e1 e2 e3
      go_enter Try.func41, Try.ntmps41
      go_wp2_with (go_at_call 43; refine (spanPages_any _ _ _ h0 h1 h2 h3).mono ?_; rintro e w' ⟨rfl, rfl⟩)
      rw [E.out]
      exact bodyPost_ret (v := .agg #[.int .i64 s, .int .i64 (spI s waste), .int .i64 (512 / s)]) (by simp [results, Try.results41, go_sem]) rfl ⟨rfl, bnew _ _⟩

end Go.Proofs.Ytjloipljecjbaaa
