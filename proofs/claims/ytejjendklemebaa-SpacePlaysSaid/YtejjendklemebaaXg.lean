/- The statement about all calls: what its call returns. -/
import Derived.Test.YtejjendklemebaaHb
namespace Go.Proofs.Ytejjendklemebaa
open Go.RowKit

def BothPost (w : World) (n : Nat) (e : Ending) (w' : World) : Prop := ∃ B R, e = .returned (.tuple #[.pointer (some ⟨B, 0, none⟩), .pointer (some ⟨R, 0, none⟩), .bool true]) ∧ Pr w w' B R (newM n)

set_option maxHeartbeats 1000000 in
theorem both_any (n : Nat) (w : World) (h1 : 1 ≤ n) (h2 : n ≤ 1024) : Calls Try.prog 14 #[.int .i64 n] w (BothPost w n) := by
  have HA := Lib.hid (New_any n w h1 h2)
  have HB := Lib.hid (fun w => rNew_any n w h1 h2)
  go_enter Try.func14, Try.ntmps14
  go_wp2_with fail
  refine HA.out.mono ?_
  rintro e w1 ⟨B, rfl, hb1, hs1⟩
  have HB1 := Lib.hid hb1
  have HS1 := Lib.hid hs1
  clear hb1 hs1
  go_wp2_with fail
  refine (HB.out _).mono ?_
  rintro e w2 ⟨R, rfl, hb2, hr2⟩
  have HP := Lib.hid (show Pr w w2 B R (newM n) from ⟨_, _, HS1.out.below hb2, hr2, fun k h1 h2 => by have := h1.2; have := h2.1; omega, fun k h => h.1, fun k h => Nat.le_trans HB1.out.size h.1, btr HB1.out hb2 (Nat.le_refl _)⟩)
  clear hb2 hr2
  go_wp2_with fail
  go_ret3
  exact ⟨B, R, rfl, HP.out⟩
set_option maxHeartbeats 1000000 in
theorem both_bad (p : Int) (w : World) (h : ¬ (1 ≤ p ∧ p ≤ 1024)) : Calls Try.prog 14 #[.int .i64 p] w fun e w' => e = .returned (.tuple #[.pointer none, .pointer none, .bool true]) ∧ w = w' := by
  have HA := Lib.hid (New_bad p w h)
  have HB := Lib.hid (rNew_bad p w h)
  clear h
  go_enter Try.func14, Try.ntmps14
  go_wp2_with fail
  refine HA.out.mono ?_
  rintro e _ ⟨rfl, rfl⟩
  go_wp2_with fail
  refine HB.out.mono ?_
  rintro e _ ⟨rfl, rfl⟩
  go_wp2_with fail
  go_ret3
  exact ⟨rfl, rfl⟩

theorem nil_below {w w' : World} (_ : Below w.heap.size w w') : NoS w' (.pointer none) := .inl rfl

set_option maxRecDepth 100000 in
set_option maxHeartbeats 4000000 in
theorem plays_walk (p : Int) (A : Option Addr) (c : Nat) (l : List Ac) (w : World) (hl : l.length ≤ 9223372036854775807) (hA : ActsAt w w.heap.size A l) : Calls Try.prog 3 #[.int .i64 p, .slice A l.length c] w (Yes w) := by
  have HAL := Lib.hid alive_any
  obtain ⟨L, hL⟩ : ∃ L, L = l.length := ⟨_, rfl⟩
  have HL := Lib.hid hL
  rw [← hL] at hl ⊢
  have HG := Lib.hid (fun w => great_any A L c w hl)
  have HA := Lib.hid hA
  clear hA hL
  by_cases h40 : 40 < L
  · rw [decide_eq_true h40] at HG
    go_enter Try.func3, Try.ntmps3
    go_wp2_with (first
      | (go_at_call 12; refine (HG.out _).mono ?_; rintro e _ ⟨rfl, rfl⟩)
      | (go_at_call 13; refine (HAL.out _).mono ?_; rintro e w1 ⟨rfl, hb1⟩))
    go_ret
    exact ⟨rfl, hb1⟩
  · rw [decide_eq_false h40] at HG
    have hl2 : L ≤ 40 := by omega
    clear h40
    by_cases hp : 1 ≤ p ∧ p ≤ 1024
    · obtain ⟨n, rfl⟩ : ∃ n : Nat, p = n := ⟨p.toNat, by omega⟩
      have HBO := Lib.hid (both_any n w (by omega) (by omega))
      clear hp
      go_enter Try.func3, Try.ntmps3
      go_wp2_with fail
      refine (HG.out _).mono ?_; rintro e _ ⟨rfl, rfl⟩
      go_wp2_with fail
      refine HBO.out.mono ?_
      rintro e w1 ⟨B0, R0, rfl, hP⟩
      have HP0 := Lib.hid hP
      clear hP
      go_wp2_with fail
      go_loopw [5, 6, 8] (fun s t i wr => ∃ (k B R : Nat) (m : Mo), k ≤ L ∧ i = .int .i64 k ∧ s = .pointer (some ⟨B, 0, none⟩) ∧ t = .pointer (some ⟨R, 0, none⟩) ∧ Pr w wr B R m) (fun _ _ i _ => L - (intOf i).toNat)
      case atStart => exact ⟨0, B0, R0, _, by omega, rfl, rfl, rfl, HP0.out⟩
      case round =>
        obtain ⟨k, B, R, m, hk, rfl, rfl, rfl, hP⟩ := hrel
        have HP := Lib.hid hP
        have hbl := hP.bel
        clear hP
        by_cases hlt : k < L
        · obtain ⟨x, hx⟩ : ∃ x, l[k]? = some x := ⟨_, List.getElem?_eq_getElem (by have := HL.out; omega)⟩
          obtain ⟨hr, b, o, rfl, hB, g1, g2, g3, g4⟩ := (HA.out.below hbl) k x hx
          have HR := Lib.hid hr
          have HBL := Lib.hid hbl
          have HXX := Lib.hid hx
          clear hr hbl hx
          obtain ⟨kk, xa, xb, xc⟩ := x
          dsimp only at g1 g2 g3 g4
          by_cases h8 : kk = 8
          · subst h8
            obtain ⟨O1, O2, h1, h2, _⟩ := HP.out
            have HCA := Lib.hid (Clone_any h1)
            have HCB := Lib.hid (fun w' (hb : Below wr.heap.size wr w') => rClone_any (h2.below hb))
            clear h1 h2
            go_wp2_with fail
            refine HCA.out.mono ?_
            rintro e w2 ⟨C, rfl, hb2, hs2⟩
            have HB2 := Lib.hid hb2
            have HS2 := Lib.hid hs2
            clear hb2 hs2
            go_wp2_with fail
            refine (HCB.out _ HB2.out).mono ?_
            rintro e w3 ⟨R', rfl, hb3, hr3⟩
            have HP3 := Lib.hid (show Pr w w3 C R' m from ⟨_, _, HS2.out.below hb3, hr3, fun k h1 h2 => by have := h1.2; have := h2.1; omega, fun k h => Nat.le_trans HBL.out.size h.1, fun k h => Nat.le_trans (Nat.le_trans HBL.out.size HB2.out.size) h.1, btr (btr HBL.out HB2.out (Nat.le_refl _)) hb3 (Nat.le_refl _)⟩)
            clear hb3 hr3
            obtain ⟨_, b', o', hbo, hB', g1', g2', g3', g4'⟩ := (HA.out.below HP3.out.bel) k _ HXX.out
            cases hbo
            dsimp only at g1' g2' g3' g4'
            clear g1 g2 g3 g4
            go_wp2_with fail
            refine (play_any 8 xa xb xc HP3.out HR.out.a HR.out.b).mono ?_
            rintro e w4 ⟨rfl, hP4⟩
            have HP4 := Lib.hid hP4
            clear hP4
            go_wp2_with fail
            go_roundw
            case rel => exact ⟨k + 1, C, R', _, by omega, by go_num, rfl, rfl, HP4.out⟩
            case measure => simp [intOf]; omega
          · have z8 : (kk == 8) = false := by simpa using h8
            clear h8
            go_wp2_with fail
            refine (play_any kk xa xb xc HP.out HR.out.a HR.out.b).mono ?_
            rintro e w4 ⟨rfl, hP4⟩
            have HP4 := Lib.hid hP4
            clear hP4
            go_wp2_with fail
            go_roundw
            case rel => exact ⟨k + 1, B, R, _, by omega, by go_num, rfl, rfl, HP4.out⟩
            case measure => simp [intOf]; omega
        · clear hbl
          go_wp2_with fail
          refine (Same_any HP.out).mono ?_
          rintro e w2 ⟨rfl, hP2⟩
          have HP2 := Lib.hid hP2
          clear hP2
          go_wp2_with fail
          refine (HAL.out _).mono ?_
          rintro e w3 ⟨rfl, hb3⟩
          have HB3 := Lib.hid hb3
          clear hb3
          go_wp2_with fail
          go_ret
          exact ⟨rfl, btr HP2.out.bel HB3.out (Nat.le_refl _)⟩
    · have HBO := Lib.hid (both_bad p w hp)
      clear hp
      go_enter Try.func3, Try.ntmps3
      go_wp2_with fail
      refine (HG.out _).mono ?_; rintro e _ ⟨rfl, rfl⟩
      go_wp2_with fail
      refine HBO.out.mono ?_
      rintro e _ ⟨rfl, rfl⟩
      have HB0 := Lib.hid (Below.refl w.heap.size w)
      go_wp2_with fail
      go_loopw [5, 6, 8] (fun s t i wr => ∃ k : Nat, k ≤ L ∧ i = .int .i64 k ∧ s = .pointer none ∧ t = .pointer none ∧ Below w.heap.size w wr) (fun _ _ i _ => L - (intOf i).toNat)
      case atStart => exact ⟨0, by omega, rfl, rfl, rfl, HB0.out⟩
      case round =>
        obtain ⟨k, hk, rfl, rfl, rfl, hbl⟩ := hrel
        by_cases hlt : k < L
        · obtain ⟨x, hx⟩ : ∃ x, l[k]? = some x := ⟨_, List.getElem?_eq_getElem (by have := HL.out; omega)⟩
          obtain ⟨hr, b, o, rfl, hB, g1, g2, g3, g4⟩ := (HA.out.below hbl) k x hx
          have HBL := Lib.hid hbl
          clear hr hbl hx
          obtain ⟨kk, xa, xb, xc⟩ := x
          dsimp only at g1 g2 g3 g4
          by_cases h8 : kk = 8
          · subst h8
            go_wp2_with fail
            refine (Clone_no (nil_below HBL.out)).mono ?_
            rintro e _ ⟨rfl, rfl⟩
            go_wp2_with fail
            refine (rClone_nil _).mono ?_
            rintro e _ ⟨rfl, rfl⟩
            go_wp2_with fail
            refine (play_no 8 xa xb xc (nil_below HBL.out)).mono ?_
            rintro e w4 ⟨rfl, hb4⟩
            have HB4 := Lib.hid hb4
            clear hb4
            go_wp2_with fail
            go_roundw
            case rel => exact ⟨k + 1, by omega, by go_num, rfl, rfl, btr HBL.out HB4.out (Nat.le_refl _)⟩
            case measure => simp [intOf]; omega
          · have z8 : (kk == 8) = false := by simpa using h8
            clear h8
            go_wp2_with fail
            refine (play_no kk xa xb xc (nil_below HBL.out)).mono ?_
            rintro e w4 ⟨rfl, hb4⟩
            have HB4 := Lib.hid hb4
            clear hb4
            go_wp2_with fail
            go_roundw
            case rel => exact ⟨k + 1, by omega, by go_num, rfl, rfl, btr HBL.out HB4.out (Nat.le_refl _)⟩
            case measure => simp [intOf]; omega
        · have HBL := Lib.hid hbl
          clear hbl
          go_wp2_with fail
          refine (Same_no (nil_below HBL.out)).mono ?_
          rintro e w2 ⟨rfl, hb2⟩
          have HB2 := Lib.hid hb2
          clear hb2
          go_wp2_with fail
          refine (HAL.out _).mono ?_
          rintro e w3 ⟨rfl, hb3⟩
          have HB3 := Lib.hid hb3
          clear hb3
          go_wp2_with fail
          go_ret
          exact ⟨rfl, btr HBL.out (btr HB2.out HB3.out (Nat.le_refl _)) (Nat.le_refl _)⟩

end Go.Proofs.Ytejjendklemebaa
