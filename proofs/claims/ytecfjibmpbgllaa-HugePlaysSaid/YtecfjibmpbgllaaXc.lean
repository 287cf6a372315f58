/- The statement about few being broken: what its call returns. -/
import Derived.Test.YtecfjibmpbgllaaMg
import Derived.Deep.RegionHeld3
namespace Go.Proofs.Ytecfjibmpbgllaa
open Go.RowKit

theorem kinds_mem (S : Nat → Nat) (f : Nat) : ∀ n k, k ∈ kinds S f n ↔ k < n ∧ kdS S k = f
  | 0, k => by simp [kinds]
  | n + 1, k => by
    unfold kinds
    rw [List.mem_append, kinds_mem S f n k]
    constructor
    · rintro (⟨h1, h2⟩ | h)
      · exact ⟨by omega, h2⟩
      · split at h
        · rename_i ha
          obtain rfl : k = n := by simpa using h
          exact ⟨by omega, ha⟩
        · cases h
    · rintro ⟨h1, h2⟩
      by_cases e : k = n
      · subst e; rw [if_pos h2]; exact .inr (List.mem_cons_self ..)
      · exact .inl ⟨by omega, h2⟩
theorem has_kind (S : Nat → Nat) (f n k : Nat) : hasL (kinds S f n) k = decide (k < n ∧ kdS S k = f) := by
  unfold hasL
  rw [decide_eq_decide, Int.toNat_natCast, kinds_mem]
  constructor
  · rintro ⟨_, h⟩; exact h
  · intro h; exact ⟨by omega, h⟩

set_option maxRecDepth 100000 in
set_option maxHeartbeats 4000000 in
theorem few_walk (p : Int) (A : Option Addr) (c : Nat) (l : List Ac) (want : Int) (w : World) (hp0 : 0 ≤ p) (hp1 : p ≤ 255) (hl : l.length ≤ 9223372036854775807) (hA : ActsAt w w.heap.size A l) :
    Calls Try.prog 7 #[.int .u8 p, .slice A l.length c, .int .i64 want] w (Yes w) := by
  have HAL := Lib.hid alive_any
  obtain ⟨n, hn⟩ : ∃ n : Nat, p % 8 + 1 = n := ⟨(p % 8 + 1).toNat, by omega⟩
  have HMD := Lib.hid (fun w hA => made'_any p A c n l w hn hp0 hp1 hl hA)
  have hn8 : n ≤ 8 := by omega
  have hn1 : 1 ≤ n := by omega
  have hnh : (runM (newM n) l).h = n := runM_h _ _
  have hwf := runM_wf (newM_wf hn1 (by omega)) l
  obtain ⟨L, hL⟩ : ∃ L, L = l.length := ⟨_, rfl⟩
  rw [← hL] at hl HMD ⊢
  have HG := Lib.hid (fun w => great_any A L c w hl)
  have HA := Lib.hid hA
  clear hA hL hn
  by_cases h40 : 40 < L
  · rw [decide_eq_true h40] at HG
    go_enter Try.func7, Try.ntmps7
    go_wp2_with fail
    refine (HG.out _).mono ?_
    rintro e _ ⟨rfl, rfl⟩
    go_wp2_with fail
    refine (HAL.out _).mono ?_
    rintro e w1 ⟨rfl, hb1⟩
    go_wp2_with fail
    go_ret
    exact ⟨rfl, hb1⟩
  · rw [decide_eq_false h40] at HG
    clear h40
    go_enter Try.func7, Try.ntmps7
    go_wp2_with fail
    refine (HG.out _).mono ?_
    rintro e _ ⟨rfl, rfl⟩
    go_wp2_with fail
    refine (HMD.out _ HA.out).mono ?_
    rintro e w1 ⟨B, rfl, hb1, ht1⟩
    have HB1 := Lib.hid hb1
    have HT1 := Lib.hid ht1
    clear hb1 ht1
    generalize hm : runM (newM n) l = m at *
    clear hm
    have hm8 : m.h ≤ 8 := by omega
    clear hnh
    go_wp2_with fail
    by_cases hw : want < 0
    · refine (Plan_bad want HT1.out hw).mono ?_
      rintro e w3 ⟨rfl, hb3⟩
      have HB3 := Lib.hid (btr HB1.out hb3 (Nat.le_refl _))
      clear hb3
      go_wp2_with fail
      refine (HAL.out _).mono ?_
      rintro e w9 ⟨rfl, hb9⟩
      go_wp2_with fail
      go_ret
      exact ⟨rfl, btr HB3.out hb9 (Nat.le_refl _)⟩
    · refine (Plan_go want HT1.out (by omega)).mono ?_
      rintro e w3 ⟨Ap, cp, rfl, hr3, hb3⟩
      have HR3 := Lib.hid hr3
      have HB3 := Lib.hid (btr HB1.out hb3 (Nat.le_refl _))
      have HT3 := Lib.hid (HT1.out.below hb3)
      have HWF := Lib.hid hwf
      have hlen := plan_len (w := want) hwf
      have HFW := Lib.hid (fun r h hk => few (w := want) (r := r) hwf h hk)
      have HPB := Lib.hid (fun i a b (h : (planM m want)[i]? = some (a, b)) => by obtain ⟨k, hk, hh⟩ := plan_mem hwf (List.mem_of_getElem? h); exact (show a < 2048 ∧ a / 16 < m.h from by have := hh.hi; have := hh.one; simp only at *; omega))
      have hl128 : (planM m want).length ≤ 128 := by omega
      have HKL := Lib.hid (kinds_len m.S 3 m.h)
      clear hr3 hb3 hlen hwf
      generalize hP : planM m want = P at *
      clear hP
      obtain ⟨K, hK⟩ : ∃ K, K = P.length := ⟨_, rfl⟩
      have HK := Lib.hid hK
      rw [← hK] at hl128 ⊢
      clear hK
      go_wp2_with fail
      go_loopw [10, 11] (fun v i wr => ∃ q : Nat, q ≤ 128 ∧ i = .int .i64 q ∧ v = .int .i64 (restN m.S (min q (16 * m.h))) ∧ Below w3.heap.size w3 wr) (fun _ i _ => 128 - (intOf i).toNat)
      case atStart => exact ⟨0, by omega, rfl, by rw [Nat.zero_min]; rfl, Below.refl _ _⟩
      case round =>
        obtain ⟨q, hq, rfl, rfl, hB⟩ := hrel
        have HB := Lib.hid hB
        have hT := HT3.out.below hB
        have HT := Lib.hid hT
        by_cases hlt : q < 128
        · have h1 := State_any (q : Int) hT ⟨by omega, by omega⟩
          have hcle := restN_le m.S (min q (16 * m.h))
          have hcl2 : restN m.S (min q (16 * m.h)) ≤ 128 := by omega
          by_cases h2 : q < 16 * m.h ∧ m.S q = 2
          · have e1 : stV m q = 2 := by rw [stV_nat, if_pos h2.1, h2.2]; rfl
            rw [e1] at h1
            have H1 := Lib.hid h1
            have hmin : min q (16 * m.h) = q := by omega
            have hmin2 : min (q + 1) (16 * m.h) = q + 1 := by omega
            have HMI2 := Lib.hid hmin2
            rw [hmin] at hcl2 ⊢
            have HQ16 := Lib.hid (show (q : Int) / 16 = ((q / 16 : Nat) : Int) by omega)
            by_cases h3 : kdS m.S (q / 16) = 3
            · have hst : restN m.S (q + 1) = restN m.S q := by
                show restN m.S q + (if m.S q = 2 ∧ kdS m.S (q / 16) ≠ 3 then 1 else 0) = _
                rw [if_neg (fun h => h.2 h3)]; rfl
              have HST := Lib.hid hst
              have hhas : hasL (kinds m.S 3 m.h) ((q / 16 : Nat) : Int) = true := by rw [has_kind]; exact decide_eq_true ⟨by omega, h3⟩
              have HHS := Lib.hid hhas
              clear h1 e1 h2 h3 hst hhas hmin hmin2 hB hT hcle
              generalize restN m.S q = cc at *
              go_wp2_with fail
              refine H1.out.mono ?_
              rintro e _ ⟨rfl, rfl⟩
              go_wp2_with fail
              refine (Whole_any HT.out).mono ?_
              rintro e w4 ⟨A4, c4, rfl, hn4, hb4⟩
              have hha := hasL_any c4 ((q / 16 : Nat) : Int) (by have := HKL.out; omega) hn4
              rw [HHS.out] at hha
              have HHA := Lib.hid hha
              clear hha hn4
              go_wp2_with fail
              rw [HQ16.out]
              refine HHA.out.mono ?_
              rintro e _ ⟨rfl, rfl⟩
              go_wp2_with fail
              go_roundw
              case rel => exact ⟨q + 1, by omega, by go_num, by rw [HMI2.out, HST.out], btr HB.out hb4 (Nat.le_refl _)⟩
              case measure => simp [intOf]; omega
            · have hst : restN m.S (q + 1) = restN m.S q + 1 := by
                show restN m.S q + (if m.S q = 2 ∧ kdS m.S (q / 16) ≠ 3 then 1 else 0) = _
                rw [if_pos ⟨h2.2, h3⟩]
              have HST := Lib.hid hst
              have hhas : hasL (kinds m.S 3 m.h) ((q / 16 : Nat) : Int) = false := by rw [has_kind]; exact decide_eq_false (fun h => h3 h.2)
              have HHS := Lib.hid hhas
              clear h1 e1 h2 h3 hst hhas hmin hmin2 hB hT hcle
              generalize restN m.S q = cc at *
              go_wp2_with fail
              refine H1.out.mono ?_
              rintro e _ ⟨rfl, rfl⟩
              go_wp2_with fail
              refine (Whole_any HT.out).mono ?_
              rintro e w4 ⟨A4, c4, rfl, hn4, hb4⟩
              have hha := hasL_any c4 ((q / 16 : Nat) : Int) (by have := HKL.out; omega) hn4
              rw [HHS.out] at hha
              have HHA := Lib.hid hha
              clear hha hn4
              go_wp2_with fail
              rw [HQ16.out]
              refine HHA.out.mono ?_
              rintro e _ ⟨rfl, rfl⟩
              go_wp2_with fail
              go_roundw
              case rel => exact ⟨q + 1, by omega, by go_num, by rw [HMI2.out, HST.out]; go_num, btr HB.out hb4 (Nat.le_refl _)⟩
              case measure => simp [intOf]; omega
          · have e1 : stV m q ≠ 2 := fun e => h2 (by
              rw [stV_nat] at e
              by_cases hh : q < 16 * m.h
              · rw [if_pos hh] at e; exact ⟨hh, by omega⟩
              · rw [if_neg hh] at e; omega)
            have hst : restN m.S (min (q + 1) (16 * m.h)) = restN m.S (min q (16 * m.h)) := by
              by_cases hh : q < 16 * m.h
              · rw [show min (q + 1) (16 * m.h) = q + 1 from by omega, show min q (16 * m.h) = q from by omega]
                show restN m.S q + (if m.S q = 2 ∧ kdS m.S (q / 16) ≠ 3 then 1 else 0) = _
                rw [if_neg (fun h => h2 ⟨hh, h.1⟩)]; rfl
              · rw [show min (q + 1) (16 * m.h) = 16 * m.h from by omega, show min q (16 * m.h) = 16 * m.h from by omega]
            have HST := Lib.hid hst
            generalize stV m q = v at h1 e1
            have H1 := Lib.hid h1
            have qq : (v == 2) = false := by simpa using e1
            clear h1 e1 h2 hst hB hT
            generalize restN m.S (min q (16 * m.h)) = cc at *
            go_wp2_with fail
            refine H1.out.mono ?_
            rintro e _ ⟨rfl, rfl⟩
            go_wp2_with fail
            go_roundw
            case rel => exact ⟨q + 1, by omega, by go_num, by rw [HST.out], HB.out⟩
            case measure => simp [intOf]; omega
        · have hmin : min q (16 * m.h) = 16 * m.h := by omega
          rw [hmin]
          clear hmin hB hT
          generalize hrest : restN m.S (16 * m.h) = rest at *
          have HREST := Lib.hid hrest
          clear hrest
          go_wp2_with fail
          go_loopw [12] (fun i w5 => ∃ k : Nat, k ≤ K ∧ i = .int .i64 k ∧ Below wr.heap.size wr w5) (fun i _ => K - (intOf i).toNat)
          case atStart => exact ⟨0, by omega, rfl, Below.refl _ _⟩
          case round =>
            obtain ⟨k, hk, rfl, hB5⟩ := hrel
            have HB5 := Lib.hid hB5
            have hT5 := HT.out.below hB5
            have HT5 := Lib.hid hT5
            by_cases hlt2 : k < K
            · obtain ⟨⟨a, b⟩, hx⟩ : ∃ x, P[k]? = some x := ⟨_, List.getElem?_eq_getElem (by have := HK.out; omega)⟩
              obtain ⟨g, rfl, _, g0, g1, g2⟩ := ((HR3.out.below HB.out).below hB5) k a b hx
              obtain ⟨ha, ha2⟩ := HPB.out k a b hx
              have hfw := HFW.out (a, b) (List.mem_of_getElem? hx)
              have HQA := Lib.hid (show IntKind.i64.wrap ((a : Int) / 16) = ((a / 16 : Nat) : Int) by rw [IntWalk.i64_in _ (by omega)]; omega)
              have hmx : Try.prog.follows .mixedOrders = true := by kernel_rfl
              by_cases h3 : kdS m.S (a / 16) = 3
              · have hhas : hasL (kinds m.S 3 m.h) ((a / 16 : Nat) : Int) = true := by rw [has_kind]; exact decide_eq_true ⟨ha2, h3⟩
                have HHS := Lib.hid hhas
                have hlt3 : (rest : Int) < want := hfw h3
                clear hx hB5 hT5 hfw h3 hhas
                have hha : ∀ (N4 : Nat) (c4 : Nat) (A4 : Option Addr) (w6 : World), NatsAt w6 N4 A4 (kinds m.S 3 m.h) → Calls Try.prog 22 #[.slice A4 (kinds m.S 3 m.h).length c4, .int .i64 ((a / 16 : Nat) : Int)] w6 (fun e w' => e = .returned (.bool true) ∧ w6 = w') := fun N4 c4 A4 w6 hn => by
                  have := hasL_any c4 ((a / 16 : Nat) : Int) (by have := HKL.out; omega) hn
                  rw [HHS.out] at this
                  exact this
                have HHA := Lib.hid hha
                clear hha
                go_wp2_with fail
                go_region_with (first | (go_at_call 25; refine (Whole_any (HT5.out.below (belowN (Below.refl _ _) _))).mono ?_; rintro e w6 ⟨A6, c6, rfl, hn6, hb4⟩; have g3 := (hb4.cell (p := ⟨g, k * 2, none⟩) g0).trans g1) | (go_at_call 22; rw [HQA.out]; refine (HHA.out _ _ _ _ hn6).mono ?_; rintro e w7 ⟨rfl, rfl⟩))
                all_goals (
                  go_wp2_with fail
                  go_roundw
                  case rel => exact ⟨k + 1, by omega, by go_num, btr (btr HB5.out (belowN (Below.refl _ _) _) (Nat.le_refl _)) hb4 (Nat.le_refl _)⟩
                  case measure => simp [intOf]; omega)
              · have hhas : hasL (kinds m.S 3 m.h) ((a / 16 : Nat) : Int) = false := by rw [has_kind]; exact decide_eq_false (fun h => h3 h.2)
                have HHS := Lib.hid hhas
                clear hx hB5 hT5 hfw h3 hhas
                have hha : ∀ (N4 : Nat) (c4 : Nat) (A4 : Option Addr) (w6 : World), NatsAt w6 N4 A4 (kinds m.S 3 m.h) → Calls Try.prog 22 #[.slice A4 (kinds m.S 3 m.h).length c4, .int .i64 ((a / 16 : Nat) : Int)] w6 (fun e w' => e = .returned (.bool false) ∧ w6 = w') := fun N4 c4 A4 w6 hn => by
                  have := hasL_any c4 ((a / 16 : Nat) : Int) (by have := HKL.out; omega) hn
                  rw [HHS.out] at this
                  exact this
                have HHA := Lib.hid hha
                clear hha
                go_wp2_with fail
                first | (go_region_with (first | (go_at_call 25; refine (Whole_any (HT5.out.below (belowN (Below.refl _ _) _))).mono ?_; rintro e w6 ⟨A6, c6, rfl, hn6, hb4⟩; have g3 := (hb4.cell (p := ⟨g, k * 2, none⟩) g0).trans g1) | (go_at_call 22; rw [HQA.out]; refine (HHA.out _ _ _ _ hn6).mono ?_; rintro e w7 ⟨rfl, rfl⟩))) | fail
                all_goals (
                  go_wp2_with fail
                  go_roundw
                  case rel => exact ⟨k + 1, by omega, by go_num, btr (btr HB5.out (belowN (Below.refl _ _) _) (Nat.le_refl _)) hb4 (Nat.le_refl _)⟩
                  case measure => simp [intOf]; omega)
            · go_wp2_with fail
              refine (HAL.out _).mono ?_
              rintro e w9 ⟨rfl, hb9⟩
              go_wp2_with fail
              go_ret
              exact ⟨rfl, btr (btr (btr HB3.out HB.out (Nat.le_refl _)) HB5.out (Nat.le_refl _)) hb9 (Nat.le_refl _)⟩

end Go.Proofs.Ytecfjibmpbgllaa
