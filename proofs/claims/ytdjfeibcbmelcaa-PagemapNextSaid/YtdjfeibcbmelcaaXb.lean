/- The statement about Next: what its call returns. -/
import Derived.Test.YtdjfeibcbmelcaaXa
namespace Go.Proofs.Ytdjfeibcbmelcaa
open Go.RowKit

theorem nextV_hit {M : Nat → Int} {f k : Nat} (h : pgs M f = pgs M k) (hk : k < 1024) (hm : M k ≠ 0) : nextV M f = ((k : Int), M k, 0) := by
  unfold nextV
  rw [h]
  unfold pgs
  rw [hl_hit hk (nz_true hm)]
theorem nextV_end {M : Nat → Int} {f : Nat} (h : pgs M f = []) : nextV M f = (0, 0, 4) := by
  unfold nextV
  rw [h]
theorem pgs_miss {M : Nat → Int} {k : Nat} (hk : k < 1024) (hm : M k = 0) : pgs M k = pgs M (k + 1) := hl_miss hk (nz_false hm)

set_option maxRecDepth 100000 in
set_option maxHeartbeats 2000000 in
theorem next_walk (A : Option Addr) (c : Nat) (l : List Ac) (w : World) (hl : l.length ≤ 9223372036854775807) (hA : ActsAt w w.heap.size A l) :
    Calls Try.prog 8 #[.slice A l.length c] w (Yes w) := by
  have HAL := Lib.hid alive_any
  have HMD := Lib.hid (fun w hA => made'_any A c l w hl hA)
  obtain ⟨L, hL⟩ : ∃ L, L = l.length := ⟨_, rfl⟩
  rw [← hL] at hl HMD ⊢
  have HG := Lib.hid (fun w => great_any A L c w hl)
  have HA := Lib.hid hA
  clear hA hL
  by_cases h60 : 60 < L
  · rw [decide_eq_true h60] at HG
    go_enter Try.func8, Try.ntmps8
    go_wp2_with fail
    refine (HG.out _).mono ?_
    rintro e _ ⟨rfl, rfl⟩
    go_wp2_with fail
    refine (HAL.out _).mono ?_
    rintro e w1 ⟨rfl, hb1⟩
    go_wp2_with fail
    go_ret
    exact ⟨rfl, hb1⟩
  · rw [decide_eq_false h60] at HG
    clear h60
    go_enter Try.func8, Try.ntmps8
    go_wp2_with fail
    refine (HG.out _).mono ?_
    rintro e _ ⟨rfl, rfl⟩
    go_wp2_with fail
    refine (HMD.out _ HA.out).mono ?_
    rintro e w1 ⟨B, rfl, hb1, ht1⟩
    have HB1 := Lib.hid hb1
    generalize runM noM l = M at ht1
    have HT1 := Lib.hid ht1
    clear hb1 ht1
    go_wp2_with fail
    go_loopw [4, 5] (fun at_ p wr => ∃ (k : Nat) (a : Int), k ≤ 1024 ∧ p = .int .i64 k ∧ at_ = .int .i64 a ∧ -5 ≤ a ∧ a ≤ 1024 ∧ pgs M a.toNat = pgs M k ∧ Below w1.heap.size w1 wr) (fun _ p _ => 1024 - (intOf p).toNat)
    case atStart => exact ⟨0, -5, by omega, rfl, rfl, by omega, by omega, rfl, Below.refl _ _⟩
    case round =>
      obtain ⟨k, a, hk, rfl, rfl, ha1, ha2, hpg, hB⟩ := hrel
      have HTR := Lib.hid (HT1.out.below hB)
      have HB := Lib.hid hB
      have HPG := Lib.hid hpg
      clear hB hpg
      by_cases hlt : k < 1024
      · have HGET := Lib.hid (fun W (hb : Below wr.heap.size wr W) => Get_any (k : Int) (HTR.out.below hb) ⟨by omega, by omega⟩)
        rw [getV_in rfl hlt] at HGET
        by_cases hm : M k = 0
        · rw [hm] at HGET
          have HM := Lib.hid (pgs_miss hlt hm)
          clear hm
          go_wp2_with fail
          refine (HGET.out _ (Below.refl _ _)).mono ?_
          rintro e _ ⟨rfl, rfl⟩
          go_wp2_with fail
          go_roundw
          case rel => exact ⟨k + 1, a, by omega, by go_num, rfl, by omega, by omega, by rw [HPG.out]; exact HM.out, HB.out⟩
          case measure => simp [intOf]; omega
        · have HN := Lib.hid (Next_any a HTR.out ⟨by omega, by omega⟩)
          rw [nextV_hit HPG.out hlt hm] at HN
          unfold three at HN
          generalize M k = x at HGET HN hm
          have q : (x == 0) = false := by simpa using hm
          clear hm
          go_wp2_with fail
          refine (HGET.out _ (Below.refl _ _)).mono ?_
          rintro e _ ⟨rfl, rfl⟩
          go_wp2_with fail
          refine HN.out.mono ?_
          rintro e w2 ⟨rfl, hb2⟩
          have HB2 := Lib.hid (HB.out.trans (hb2.mono HB.out.size))
          have HG2 := Lib.hid (HGET.out _ hb2)
          clear hb2
          go_wp2_with fail
          refine HG2.out.mono ?_
          rintro e _ ⟨rfl, rfl⟩
          go_wp2_with fail
          go_roundw
          case rel => exact ⟨k + 1, (k : Int) + 1, by omega, by go_num, by go_num, by omega, by omega, by rw [show ((k : Int) + 1).toNat = k + 1 from by omega], HB2.out⟩
          case measure => simp [intOf]; omega
      · have hk2 : k = 1024 := by omega
        have HN := Lib.hid (Next_any a HTR.out ⟨by omega, by omega⟩)
        rw [nextV_end (by rw [HPG.out, hk2]; exact hl_end (by omega))] at HN
        unfold three at HN
        clear hk2
        go_wp2_with fail
        refine HN.out.mono ?_
        rintro e w2 ⟨rfl, hb2⟩
        have HB2 := Lib.hid (HB.out.trans (hb2.mono HB.out.size))
        clear hb2
        go_wp2_with fail
        refine (HAL.out _).mono ?_
        rintro e w3 ⟨rfl, hb3⟩
        go_wp2_with fail
        go_ret
        exact ⟨rfl, btr (HB1.out.trans (HB2.out.mono HB1.out.size)) hb3 (Nat.le_refl _)⟩

end Go.Proofs.Ytdjfeibcbmelcaa
