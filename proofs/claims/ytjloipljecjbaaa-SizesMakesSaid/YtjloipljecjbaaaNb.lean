/- The document's own table: the step and the class of a size. -/
import Derived.Test.YtjloipljecjbaaaNa
import Derived.Test.YtjloipljecjbaaaRc
namespace Go.Proofs.Ytjloipljecjbaaa
open Go.RowKit

def StepRel (q d : Int) : Prop := (d = 8 ∨ d = 16 ∨ d = 32 ∨ d = 64 ∨ d = 128) ∧ (d = 8 ∨ d ≤ q)
theorem StepRel.next {q d : Int} (h : StepRel q d) (h1 : q < 256) (h2 : 2 * d ≤ q) : StepRel q (2 * d) := by
  unfold StepRel at *
  omega
theorem StepRel.bd {q d : Int} (h : StepRel q d) : 8 ≤ d ∧ d ≤ 128 := by
  unfold StepRel at h
  omega

set_option maxRecDepth 100000 in
set_option maxHeartbeats 1000000 in
theorem step_any (s waste : Int) (w : World) (h0 : 8 ≤ s) (h1 : s < 512) (h2 : 2 ≤ waste) (h3 : waste ≤ 16) :
    Calls Try.prog 37 #[.int .i64 s, .int .i64 waste] w fun e w' => e = .returned (.int .i64 (gapI s waste)) ∧ w = w' := by
  have q0 : 0 ≤ s / waste := Int.ediv_nonneg (by omega) (by omega)
  have q1 : s / waste < 256 := by
    have a := Int.mul_ediv_add_emod s waste
    have b := Int.emod_nonneg s (show waste ≠ 0 by omega)
    have c := Int.mul_le_mul_of_nonneg_right h2 q0
    omega
  rw [gapI_q]
  go_enter Try.func37, Try.ntmps37
  go_wp2
  go_loop [5] (fun i => ∃ d : Int, i = .int .i64 d ∧ StepRel (s / waste) d) (fun i => (600 - intOf i).toNat)
  case atStart => exact ⟨8, rfl, by unfold StepRel; omega⟩
  case round =>
    obtain ⟨d, rfl, hd⟩ := hrel
    obtain ⟨b1, b2⟩ := hd.bd
    have HD := Lib.hid hd
    clear hd
    by_cases hle : 2 * d ≤ s / waste
    · have hn := HD.out.next q1 hle
      have HN := Lib.hid hn
      clear hn
      go_wp2
      go_round
      case rel => exact ⟨2 * d, rfl, HN.out⟩
      case measure => simp [intOf]; omega
    · have hf := gapQ_of q0 q1 HD.out.1 HD.out.2 (by omega)
      have HF := Lib.hid hf
      clear hf
      go_wp2
      go_ret
      exact ⟨ret_int HF.out.symm, rfl⟩

/-- The pages that the document's own loop has found when it stands at k. -/
def spD (s w : Int) : Nat → Int
  | 0 => if okP s w 1 = true then 1 else if okP s w 2 = true then 2 else if okP s w 3 = true then 3 else if okP s w 4 = true then 4 else 4
  | 1 => if okP s w 2 = true then 2 else if okP s w 3 = true then 3 else if okP s w 4 = true then 4 else 4
  | 2 => if okP s w 3 = true then 3 else if okP s w 4 = true then 4 else 4
  | 3 => if okP s w 4 = true then 4 else 4
  | _ => 4
theorem spD_end (s w : Int) : spD s w 0 = spI s w := by
  unfold spD spI
  simp only [ite_self]
theorem spD_yes (s w : Int) (k : Nat) (hk : k < 4) (h : okP s w ((k : Int) + 1) = true) : spD s w k = (k : Int) + 1 := by
  have hk' : k = 0 ∨ k = 1 ∨ k = 2 ∨ k = 3 := by omega
  rcases hk' with rfl | rfl | rfl | rfl
  · have h1 : okP s w 1 = true := h
    unfold spD; rw [if_pos h1]; rfl
  · have h1 : okP s w 2 = true := h
    unfold spD; rw [if_pos h1]; rfl
  · have h1 : okP s w 3 = true := h
    unfold spD; rw [if_pos h1]; rfl
  · have h1 : okP s w 4 = true := h
    unfold spD; rw [if_pos h1]; rfl
theorem spD_no (s w : Int) (k : Nat) (hk : k < 4) (h : okP s w ((k : Int) + 1) = false) : spD s w k = spD s w (k + 1) := by
  have hk' : k = 0 ∨ k = 1 ∨ k = 2 ∨ k = 3 := by omega
  rcases hk' with rfl | rfl | rfl | rfl
  · have h1 : okP s w 1 = false := h
    show (if okP s w 1 = true then _ else _) = _
    rw [h1, if_neg (by decide)]; rfl
  · have h1 : okP s w 2 = false := h
    show (if okP s w 2 = true then _ else _) = _
    rw [h1, if_neg (by decide)]; rfl
  · have h1 : okP s w 3 = false := h
    show (if okP s w 3 = true then _ else _) = _
    rw [h1, if_neg (by decide)]; rfl
  · show (if okP s w 4 = true then _ else _) = _
    rw [ite_self]; rfl

set_option maxRecDepth 100000 in
set_option maxHeartbeats 1000000 in
theorem class_any (s waste : Int) (w : World) (h0 : 8 ≤ s) (h1 : s ≤ 512) (h2 : 2 ≤ waste) (h3 : waste ≤ 16) :
    Calls Try.prog 36 #[.int .i64 s, .int .i64 waste] w fun e w' => e = .returned (.agg #[.int .i64 s, .int .i64 (spI s waste), .int .i64 (batI s)]) ∧ Below w.heap.size w w' := by
  have q0 : 0 ≤ 512 / s := Int.ediv_nonneg (by omega) (by omega)
  have q1 : 512 / s ≤ 512 := Int.ediv_le_self _ (by omega)
  have e1 : 512 / s < 2 → batI s = 2 := fun h => by unfold batI; rw [if_pos h]
  have e2 : ¬ 512 / s < 2 → ¬ 32 < 512 / s → batI s = 512 / s := fun h h' => by unfold batI; rw [if_neg h, if_neg h']
  have e3 : ¬ 512 / s < 2 → 32 < 512 / s → batI s = 32 := fun h h' => by unfold batI; rw [if_neg h, if_pos h']
  by_cases c1 : 512 / s < 2
  · have E := Lib.hid (e1 c1)
    clear e1 e2 e3
    go_enter Try.func36, Try.ntmps36
    go_wp2
    go_loopw [6] (fun i wr => ∃ k : Nat, k ≤ 4 ∧ i = .int .i64 k ∧ wr = (w.alloc (.cells #[.int .i64 0, .int .i64 0, .int .i64 0] 24)).alloc (.cells #[.int .i64 s, .int .i64 (spD s waste k), .int .i64 (2)] 24)) (fun i _ => (intOf i).toNat)
    case atStart => exact ⟨4, by omega, rfl, rfl⟩
    case round =>
      obtain ⟨k, hk, rfl, rfl⟩ := hrel
      by_cases hlt : 1 ≤ k
      · obtain ⟨j, rfl⟩ : ∃ j, k = j + 1 := ⟨k - 1, by omega⟩
        have r := rem_bd s (((j : Int) + 1) * 256) (by omega)
        have m0 : 0 ≤ waste * (((j : Int) + 1) * 256 % s) := Int.mul_nonneg (by omega) r.1
        have m1 : waste * (((j : Int) + 1) * 256 % s) ≤ 8192 := Int.le_trans (Int.mul_le_mul h3 (show _ ≤ (512 : Int) by omega) r.1 (by omega)) (by omega)
        by_cases c1 : s ≤ ((j : Int) + 1) * 256
        · by_cases c2 : waste * (((j : Int) + 1) * 256 % s) ≤ ((j : Int) + 1) * 256
          · have hp := spD_yes s waste j (by omega) (okP_t c1 c2)
            have HP := Lib.hid hp
            clear hp
            go_wp2
            go_roundw
            case rel => exact ⟨j, by omega, by go_num, by rw [HP.out]⟩
            case measure => simp [intOf]
          · have hp := spD_no s waste j (by omega) (okP_f2 (by omega))
            have HP := Lib.hid hp
            clear hp
            go_wp2
            go_roundw
            case rel => exact ⟨j, by omega, by go_num, by rw [HP.out]⟩
            case measure => simp [intOf]
        · have hp := spD_no s waste j (by omega) (okP_f1 c1)
          have HP := Lib.hid hp
          clear hp
          go_wp2
          go_roundw
          case rel => exact ⟨j, by omega, by go_num, by rw [HP.out]⟩
          case measure => simp [intOf]
      · obtain rfl : k = 0 := by omega
        have hp := spD_end s waste
        have HP := Lib.hid hp
        clear hp
        go_wp2
        rw [E.out, ← HP.out]
        exact bodyPost_ret (v := .agg #[.int .i64 s, .int .i64 (spD s waste 0), .int .i64 (2)]) (by simp [results, Try.results36, go_sem]) rfl ⟨rfl, ((Below.refl _ _).alloc (Nat.le_refl _) _).alloc (by simp) _⟩
  · by_cases c2 : 32 < 512 / s
    · have E := Lib.hid (e3 c1 c2)
      clear e1 e2 e3
      go_enter Try.func36, Try.ntmps36
      go_wp2
      go_loopw [6] (fun i wr => ∃ k : Nat, k ≤ 4 ∧ i = .int .i64 k ∧ wr = (w.alloc (.cells #[.int .i64 0, .int .i64 0, .int .i64 0] 24)).alloc (.cells #[.int .i64 s, .int .i64 (spD s waste k), .int .i64 (32)] 24)) (fun i _ => (intOf i).toNat)
      case atStart => exact ⟨4, by omega, rfl, rfl⟩
      case round =>
        obtain ⟨k, hk, rfl, rfl⟩ := hrel
        by_cases hlt : 1 ≤ k
        · obtain ⟨j, rfl⟩ : ∃ j, k = j + 1 := ⟨k - 1, by omega⟩
          have r := rem_bd s (((j : Int) + 1) * 256) (by omega)
          have m0 : 0 ≤ waste * (((j : Int) + 1) * 256 % s) := Int.mul_nonneg (by omega) r.1
          have m1 : waste * (((j : Int) + 1) * 256 % s) ≤ 8192 := Int.le_trans (Int.mul_le_mul h3 (show _ ≤ (512 : Int) by omega) r.1 (by omega)) (by omega)
          by_cases c1 : s ≤ ((j : Int) + 1) * 256
          · by_cases c2 : waste * (((j : Int) + 1) * 256 % s) ≤ ((j : Int) + 1) * 256
            · have hp := spD_yes s waste j (by omega) (okP_t c1 c2)
              have HP := Lib.hid hp
              clear hp
              go_wp2
              go_roundw
              case rel => exact ⟨j, by omega, by go_num, by rw [HP.out]⟩
              case measure => simp [intOf]
            · have hp := spD_no s waste j (by omega) (okP_f2 (by omega))
              have HP := Lib.hid hp
              clear hp
              go_wp2
              go_roundw
              case rel => exact ⟨j, by omega, by go_num, by rw [HP.out]⟩
              case measure => simp [intOf]
          · have hp := spD_no s waste j (by omega) (okP_f1 c1)
            have HP := Lib.hid hp
            clear hp
            go_wp2
            go_roundw
            case rel => exact ⟨j, by omega, by go_num, by rw [HP.out]⟩
            case measure => simp [intOf]
        · obtain rfl : k = 0 := by omega
          have hp := spD_end s waste
          have HP := Lib.hid hp
          clear hp
          go_wp2
          rw [E.out, ← HP.out]
          exact bodyPost_ret (v := .agg #[.int .i64 s, .int .i64 (spD s waste 0), .int .i64 (32)]) (by simp [results, Try.results36, go_sem]) rfl ⟨rfl, ((Below.refl _ _).alloc (Nat.le_refl _) _).alloc (by simp) _⟩
    · have E := Lib.hid (e2 c1 c2)
      clear e1 e2 e3
      go_enter Try.func36, Try.ntmps36
      go_wp2
      go_loopw [6] (fun i wr => ∃ k : Nat, k ≤ 4 ∧ i = .int .i64 k ∧ wr = (w.alloc (.cells #[.int .i64 0, .int .i64 0, .int .i64 0] 24)).alloc (.cells #[.int .i64 s, .int .i64 (spD s waste k), .int .i64 (512 / s)] 24)) (fun i _ => (intOf i).toNat)
      case atStart => exact ⟨4, by omega, rfl, rfl⟩
      case round =>
        obtain ⟨k, hk, rfl, rfl⟩ := hrel
        by_cases hlt : 1 ≤ k
        · obtain ⟨j, rfl⟩ : ∃ j, k = j + 1 := ⟨k - 1, by omega⟩
          have r := rem_bd s (((j : Int) + 1) * 256) (by omega)
          have m0 : 0 ≤ waste * (((j : Int) + 1) * 256 % s) := Int.mul_nonneg (by omega) r.1
          have m1 : waste * (((j : Int) + 1) * 256 % s) ≤ 8192 := Int.le_trans (Int.mul_le_mul h3 (show _ ≤ (512 : Int) by omega) r.1 (by omega)) (by omega)
          by_cases c1 : s ≤ ((j : Int) + 1) * 256
          · by_cases c2 : waste * (((j : Int) + 1) * 256 % s) ≤ ((j : Int) + 1) * 256
            · have hp := spD_yes s waste j (by omega) (okP_t c1 c2)
              have HP := Lib.hid hp
              clear hp
              go_wp2
              go_roundw
              case rel => exact ⟨j, by omega, by go_num, by rw [HP.out]⟩
              case measure => simp [intOf]
            · have hp := spD_no s waste j (by omega) (okP_f2 (by omega))
              have HP := Lib.hid hp
              clear hp
              go_wp2
              go_roundw
              case rel => exact ⟨j, by omega, by go_num, by rw [HP.out]⟩
              case measure => simp [intOf]
          · have hp := spD_no s waste j (by omega) (okP_f1 c1)
            have HP := Lib.hid hp
            clear hp
            go_wp2
            go_roundw
            case rel => exact ⟨j, by omega, by go_num, by rw [HP.out]⟩
            case measure => simp [intOf]
        · obtain rfl : k = 0 := by omega
          have hp := spD_end s waste
          have HP := Lib.hid hp
          clear hp
          go_wp2
          rw [E.out, ← HP.out]
          exact bodyPost_ret (v := .agg #[.int .i64 s, .int .i64 (spD s waste 0), .int .i64 (512 / s)]) (by simp [results, Try.results36, go_sem]) rfl ⟨rfl, ((Below.refl _ _).alloc (Nat.le_refl _) _).alloc (by simp) _⟩

end Go.Proofs.Ytjloipljecjbaaa
