/- The statement about carrying out a plan: what its call returns. -/
import Derived.Test.YtecfjibmpbgllaaMg
namespace Go.Proofs.Ytecfjibmpbgllaa
open Go.RowKit

set_option maxRecDepth 100000 in
set_option maxHeartbeats 1000000 in
theorem kept_walk (p : Int) (A : Option Addr) (c : Nat) (l : List Ac) (want : Int) (w : World) (hp0 : 0 ≤ p) (hp1 : p ≤ 255) (hl : l.length ≤ 9223372036854775807) (hA : ActsAt w w.heap.size A l) :
    Calls Try.prog 8 #[.int .u8 p, .slice A l.length c, .int .i64 want] w (Yes w) := by
  have HAL := Lib.hid alive_any
  obtain ⟨n, hn⟩ : ∃ n : Nat, p % 8 + 1 = n := ⟨(p % 8 + 1).toNat, by omega⟩
  have HMD := Lib.hid (fun w hA => made'_any p A c n l w hn hp0 hp1 hl hA)
  have hn8 : n ≤ 8 := by omega
  have hn1 : 1 ≤ n := by omega
  have hnh : (runM (newM n) l).h = n := runM_h _ _
  have hwf := runM_wf (newM_wf hn1 (by omega)) l
  obtain ⟨L, hL⟩ : ∃ L, L = l.length := ⟨_, rfl⟩
  rw [← hL] at hl HMD ⊢
  have HG := Lib.hid (fun w => great_any A L c w hl)
  have HA := Lib.hid hA
  clear hA hL hn
  by_cases h40 : 40 < L
  · rw [decide_eq_true h40] at HG
    go_enter Try.func8, Try.ntmps8
    go_wp2_with fail
    refine (HG.out _).mono ?_
    rintro e _ ⟨rfl, rfl⟩
    go_wp2_with fail
    refine (HAL.out _).mono ?_
    rintro e w1 ⟨rfl, hb1⟩
    go_wp2_with fail
    go_ret
    exact ⟨rfl, hb1⟩
  · rw [decide_eq_false h40] at HG
    clear h40
    go_enter Try.func8, Try.ntmps8
    go_wp2_with fail
    refine (HG.out _).mono ?_
    rintro e _ ⟨rfl, rfl⟩
    go_wp2_with fail
    refine (HMD.out _ HA.out).mono ?_
    rintro e w1 ⟨B, rfl, hb1, ht1⟩
    have HB1 := Lib.hid hb1
    have HT1 := Lib.hid ht1
    clear hb1 ht1
    generalize hm : runM (newM n) l = m at *
    clear hm
    go_wp2_with fail
    refine (Clone_any HT1.out).mono ?_
    rintro e w2 ⟨C, rfl, hb2, ht2⟩
    have HT2 := Lib.hid ht2
    have HTB := Lib.hid (HT1.out.below hb2)
    have HB2 := Lib.hid (btr HB1.out hb2 (Nat.le_refl _))
    have hZ12 := hb2.size
    have HZ12 := Lib.hid hZ12
    clear hb2 ht2 HT1 HB1 hZ12
    go_wp2_with fail
    by_cases hw : want < 0
    · refine (Plan_bad want HTB.out hw).mono ?_
      rintro e w3 ⟨rfl, hb3⟩
      have HB3 := Lib.hid (btr HB2.out hb3 (Nat.le_refl _))
      clear hb3
      go_wp2_with fail
      refine (HAL.out _).mono ?_
      rintro e w9 ⟨rfl, hb9⟩
      go_wp2_with fail
      go_ret
      exact ⟨rfl, btr HB3.out hb9 (Nat.le_refl _)⟩
    · refine (Plan_go want HTB.out (by omega)).mono ?_
      rintro e w3 ⟨Ap, cp, rfl, hr3, hb3⟩
      have HR3 := Lib.hid hr3
      have HB3 := Lib.hid (btr HB2.out hb3 (Nat.le_refl _))
      have HT3 := Lib.hid (HTB.out.below hb3)
      have HC3 := Lib.hid (HT2.out.below hb3)
      have HWF := Lib.hid hwf
      have hlen := plan_len (w := want) hwf
      have hsum := plan_le m want
      have hcl := cnt_le m.S 2 0 (16 * m.h)
      have HCS := Lib.hid (cI_sum (n := 128) (plan_dj (w := want) hwf) (fun r hr => by obtain ⟨k, hk, h⟩ := plan_mem hwf hr; have := h.hi; omega))
      have HRL := Lib.hid (fun i a b h => release_ok (w := want) (i := i) (a := a) (b := b) hwf h)
      have HPG := Lib.hid (fun q h => plan_page (w := want) (q := q) hwf h)
      have HPB := Lib.hid (fun i a b (h : (planM m want)[i]? = some (a, b)) => by obtain ⟨k, hk, hh⟩ := plan_mem hwf (List.mem_of_getElem? h); exact (show a < 2048 ∧ b < 2048 from by have := hh.hi; simp only at this; omega))
      have hl128 : (planM m want).length ≤ 128 := by omega
      have hs128 : sumR (planM m want) ≤ 128 := by omega
      clear hr3 hb3 hlen hsum hcl hwf
      generalize hP : planM m want = P at *
      have HP := Lib.hid hP
      clear hP
      obtain ⟨K, hK⟩ : ∃ K, K = P.length := ⟨_, rfl⟩
      have HK := Lib.hid hK
      rw [← hK] at hl128 ⊢
      clear hK
      have hmx : Try.prog.follows .mixedOrders = true := by kernel_rfl
      go_wp2_with fail
      go_loopw [11] (fun i wr => ∃ k : Nat, k ≤ K ∧ i = .int .i64 k ∧ Mut w3 (Nw w w1) B ⟨m.h, relS m.S (P.take k)⟩ wr) (fun i _ => K - (intOf i).toNat)
      case atStart => exact ⟨0, by omega, rfl, Mut.same HT3.out (Below.refl _ _)⟩
      case round =>
        obtain ⟨k, hk, rfl, hM⟩ := hrel
        have HM := Lib.hid hM
        by_cases hlt : k < K
        · obtain ⟨⟨a, b⟩, hx⟩ : ∃ x, P[k]? = some x := ⟨_, List.getElem?_eq_getElem (by have := HK.out; omega)⟩
          obtain ⟨g, rfl, _, _, g1, g2⟩ := (HR3.out.keep hM.2 (fun y hy ho => by have := ho.2; have := HZ12.out; omega)) k a b hx
          have hab := HPB.out k a b hx
          have hrl := HRL.out k a b hx
          have hre := Release_any (a : Int) (b : Int) (hM.1.below (belowN (Below.refl _ _) 1)) ⟨by omega, by omega⟩
          rw [hrl, chD_ok hrl] at hre
          have HRE := Lib.hid hre
          have HTK := Lib.hid (relS_take (S := m.S) hx)
          clear hM hx hrl hre hab
          go_wp2_with fail
          refine wp_region_still_tail 11 hmx (by kernel_rfl) ?_
          simp only [List.take_succ_cons, List.take_zero, List.drop_succ_cons, List.drop_zero]
          change wpStill _ _ wr.drew _ _ _
          repeat still_step
          refine wpStill_nil ?_
          change wpList _ _ _ _ _ wr.drew
          go_wp2_with (go_at_call 31; refine HRE.out.mono ?_; rintro e w4 ⟨rfl, hM4⟩; have HM4 := Lib.hid hM4; clear hM4)
          go_roundw
          case rel => exact ⟨k + 1, by omega, by go_num, by rw [HTK.out]; exact HM.out.trans (Mut.after (belowN (Below.refl _ _) 1) HM4.out)⟩
          case measure => simp [intOf]; omega
        · have hkK : P.take k = P := by rw [show k = P.length from by have := HK.out; omega, List.take_length]
          rw [hkK] at HM
          have hbl := hM.bel HB3.out nwlo
          have HBL := Lib.hid hbl
          have HC4 := Lib.hid (HC3.out.keep HM.out.2 (fun y hy hy2 => by have := hy.1; have := hy2.2; omega))
          have HS1 := Lib.hid (fun q hq => State_any (q : Int) HM.out.1 hq)
          have HS2 := Lib.hid (fun q hq => State_any (q : Int) HC4.out hq)
          have HRT := Lib.hid (HR3.out.keep HM.out.2 (fun y hy ho => by have := ho.2; have := HZ12.out; omega))
          clear hM hbl hkK
          go_wp2_with fail
          go_loopw [12, 13] (fun v i w4 => ∃ q : Nat, q ≤ 128 ∧ i = .int .i64 q ∧ v = .int .i64 (cI P q) ∧ wr = w4) (fun _ i _ => 128 - (intOf i).toNat)
          case atStart => exact ⟨0, by omega, rfl, rfl, rfl⟩
          case round =>
            obtain ⟨q, hq, rfl, rfl, rfl⟩ := hrel
            by_cases hlt2 : q < 128
            · have h1 := HS1.out q ⟨by omega, by omega⟩
              have h2 := HS2.out q ⟨by omega, by omega⟩
              have hcle := cI_le P q
              cases hin : inRs P q with
              | true =>
                obtain ⟨q1, q2⟩ := HPG.out q hin
                have e1 : stV ⟨m.h, relS m.S P⟩ q = 3 := by rw [stV_nat, if_pos q1]; show ((relS m.S P q : Nat) : Int) = 3; rw [relS_at, if_pos hin]; rfl
                have e2 : stV m q = 2 := by rw [stV_nat, if_pos q1, q2]; rfl
                rw [e1] at h1
                rw [e2] at h2
                have H1 := Lib.hid h1
                have H2 := Lib.hid h2
                have HCI := Lib.hid (cI_hit hin)
                clear h1 h2 hin e1 e2
                generalize cI P q = cc at *
                go_wp2_with fail
                refine H1.out.mono ?_
                rintro e _ ⟨rfl, rfl⟩
                go_wp2_with fail
                refine H2.out.mono ?_
                rintro e _ ⟨rfl, rfl⟩
                go_wp2_with fail
                refine H2.out.mono ?_
                rintro e _ ⟨rfl, rfl⟩
                go_wp2_with fail
                refine H1.out.mono ?_
                rintro e _ ⟨rfl, rfl⟩
                go_wp2_with fail
                go_roundw
                case rel => exact ⟨q + 1, by omega, by go_num, by rw [HCI.out]; go_num, trivial⟩
                case measure => simp [intOf]; omega
              | false =>
                have e1 : stV ⟨m.h, relS m.S P⟩ q = stV m q := by
                  rw [stV_nat, stV_nat]
                  show (if q < 16 * m.h then ((relS m.S P q : Nat) : Int) else -1) = _
                  rw [relS_at, hin, if_neg (show ¬ (false = true) by decide)]
                rw [e1] at h1
                generalize stV m q = v at h1 h2
                have H1 := Lib.hid h1
                have H2 := Lib.hid h2
                have HCI := Lib.hid (cI_miss hin)
                clear h1 h2 hin e1
                generalize cI P q = cc at *
                go_wp2_with fail
                refine H1.out.mono ?_
                rintro e _ ⟨rfl, rfl⟩
                go_wp2_with fail
                refine H2.out.mono ?_
                rintro e _ ⟨rfl, rfl⟩
                go_wp2_with fail
                go_roundw
                case rel => exact ⟨q + 1, by omega, by go_num, by rw [HCI.out], trivial⟩
                case measure => simp [intOf]; omega
            · obtain rfl : q = 128 := by omega
              rw [HCS.out]
              have ht := total_any cp (by have := HK.out; omega) (by omega) HRT.out
              rw [← HK.out] at ht
              have HTT := Lib.hid ht
              clear ht
              generalize sumR P = s at *
              go_wp2_with fail
              refine HTT.out.mono ?_
              rintro e _ ⟨rfl, rfl⟩
              go_wp2_with fail
              refine (HAL.out _).mono ?_
              rintro e w9 ⟨rfl, hb9⟩
              go_wp2_with fail
              go_ret
              exact ⟨rfl, btr HBL.out hb9 (Nat.le_refl _)⟩

end Go.Proofs.Ytecfjibmpbgllaa
