/- The statement about plans: what its call returns. -/
import Derived.Test.YtecfjibmpbgllaaMi
namespace Go.Proofs.Ytecfjibmpbgllaa
open Go.RowKit

set_option maxRecDepth 100000 in
set_option maxHeartbeats 4000000 in
theorem plans_walk (p : Int) (A : Option Addr) (c : Nat) (l : List Ac) (want : Int) (w : World) (hp0 : 0 ≤ p) (hp1 : p ≤ 255) (hl : l.length ≤ 9223372036854775807) (hA : ActsAt w w.heap.size A l) :
    Calls Try.prog 6 #[.int .u8 p, .slice A l.length c, .int .i64 want] w (Yes w) := by
  have HAL := Lib.hid alive_any
  obtain ⟨n, hn⟩ : ∃ n : Nat, p % 8 + 1 = n := ⟨(p % 8 + 1).toNat, by omega⟩
  have HMD := Lib.hid (fun w hA => made'_any p A c n l w hn hp0 hp1 hl hA)
  have hn8 : n ≤ 8 := by omega
  have hn1 : 1 ≤ n := by omega
  have hnh : (runM (newM n) l).h = n := runM_h _ _
  have hwf := runM_wf (newM_wf hn1 (by omega)) l
  obtain ⟨L, hL⟩ : ∃ L, L = l.length := ⟨_, rfl⟩
  rw [← hL] at hl HMD ⊢
  have HG := Lib.hid (fun w => great_any A L c w hl)
  have HA := Lib.hid hA
  clear hA hL hn
  by_cases h40 : 40 < L
  · rw [decide_eq_true h40] at HG
    go_enter Try.func6, Try.ntmps6
    go_wp2_with fail
    refine (HG.out _).mono ?_
    rintro e _ ⟨rfl, rfl⟩
    go_wp2_with fail
    refine (HAL.out _).mono ?_
    rintro e w1 ⟨rfl, hb1⟩
    go_wp2_with fail
    go_ret
    exact ⟨rfl, hb1⟩
  · rw [decide_eq_false h40] at HG
    clear h40
    go_enter Try.func6, Try.ntmps6
    go_wp2_with fail
    refine (HG.out _).mono ?_
    rintro e _ ⟨rfl, rfl⟩
    go_wp2_with fail
    refine (HMD.out _ HA.out).mono ?_
    rintro e w1 ⟨B, rfl, hb1, ht1⟩
    have HB1 := Lib.hid hb1
    have HT1 := Lib.hid ht1
    clear hb1 ht1
    generalize hm : runM (newM n) l = m at *
    clear hm
    go_wp2_with fail
    refine (Clone_any HT1.out).mono ?_
    rintro e w2 ⟨C, rfl, hb2, ht2⟩
    have HT2 := Lib.hid ht2
    have HTB := Lib.hid (HT1.out.below hb2)
    have HB2 := Lib.hid (btr HB1.out hb2 (Nat.le_refl _))
    have hZ12 := hb2.size
    have HZ12 := Lib.hid hZ12
    clear hb2 ht2 HT1 HB1 hZ12
    go_wp2_with fail
    by_cases hw : want < 0
    · refine (Plan_bad want HTB.out hw).mono ?_
      rintro e w3 ⟨rfl, hb3⟩
      have HB3 := Lib.hid (btr HB2.out hb3 (Nat.le_refl _))
      clear hb3
      go_wp2_with fail
      refine (HAL.out _).mono ?_
      rintro e w9 ⟨rfl, hb9⟩
      go_wp2_with fail
      go_ret
      exact ⟨rfl, btr HB3.out hb9 (Nat.le_refl _)⟩
    · refine (Plan_goC want HTB.out (by omega)).mono ?_
      rintro e w3 ⟨Ap, cp, rfl, hr3, hb3, hcap⟩
      have HR3 := Lib.hid hr3
      have HB3 := Lib.hid (btr HB2.out hb3 (Nat.le_refl _))
      have HT3 := Lib.hid (HTB.out.below hb3)
      have HC3 := Lib.hid (HT2.out.below hb3)
      have hlen := plan_len (w := want) hwf
      have hsum := plan_le m want
      have hcl := cnt_le m.S 2 0 (16 * m.h)
      have HPS := Lib.hid (plan_sum m want)
      have HPL := Lib.hid (fun K h => plan_last (m := m) (w := want) (K := K) h)
      have HDJ := Lib.hid (fun i a b q h h1 h2 => dj_take (plan_dj (m := m) (w := want) hwf) (i := i) (a := a) (b := b) (q := q) h h1 h2)
      have HPB := Lib.hid (fun i a b (h : (planM m want)[i]? = some (a, b)) => by obtain ⟨k, hk, hh⟩ := plan_mem hwf (List.mem_of_getElem? h); have h1 := hh.lo; have h2 := hh.hi; have h3 := hh.one; have h4 := hh.on; simp only at h1 h2 h3 h4; exact (show 1 ≤ b ∧ b ≤ 16 ∧ a + b ≤ 16 * m.h ∧ ∀ q, a ≤ q → q < a + b → m.S q = 2 from ⟨h3, by omega, by omega, h4⟩))
      have hmh : m.h ≤ 8 := by omega
      have hl128 : (planM m want).length ≤ 128 := by omega
      have hs128 : sumR (planM m want) ≤ 128 := by omega
      have HS128 := Lib.hid hs128
      have hcap' : (planM m want).length ≤ cp := hcap
      clear hr3 hb3 hlen hsum hwf hnh hcap
      generalize hP : planM m want = P at *
      clear hP
      obtain ⟨K, hK⟩ : ∃ K, K = P.length := ⟨_, rfl⟩
      have HK := Lib.hid hK
      rw [← hK] at hl128 hcap' ⊢
      clear hK
      obtain ⟨i4, hi4, hz0, hz1, hz2⟩ := info_parts info4
      have hmk := fun w => run_make (P := Try.prog) w 53 4 i4 (.bool false) Try.underlying53 hi4 hz0 .i64 .i64 128 128 (by omega) (Int.le_refl _) (by rw [hz2]; omega) (by omega)
      rw [hz1] at hmk
      simp only [Value.cells, Nat.mul_one] at hmk
      have e128 : (128 : Int).toNat = 128 := rfl
      rw [e128] at hmk
      clear e128 hi4 hz0 hz1 hz2
      simp only [← toldW_eq] at hmk
      have hmx : Try.prog.follows .mixedOrders = true := by kernel_rfl
      go_wp2_with fail
      clear hmk
      have HTN := Lib.hid (new_told w3)
      have HTB0 := Lib.hid (toldW_below w3)
      obtain ⟨T, hT⟩ : ∃ T, T = w3.heap.size := ⟨_, rfl⟩
      have HTL := Lib.hid (Nat.le_of_eq hT.symm)
      rw [← hT] at HTN ⊢
      clear hT
      generalize toldW w3 = W4 at *
      go_loopw [12] (fun i wr => ∃ k : Nat, k ≤ K ∧ i = .int .i64 k ∧ Cl wr T 128 (fun q => .bool (inRs (P.take k) q)) ∧ Below w3.heap.size w3 wr) (fun i _ => K - (intOf i).toNat)
      case atStart => exact ⟨0, by omega, rfl, HTN.out, HTB0.out⟩
      case round =>
        obtain ⟨k, hk, rfl, hC, hB⟩ := hrel
        have HC := Lib.hid hC
        have HB := Lib.hid hB
        have HT := Lib.hid (HT3.out.below hB)
        have HCT := Lib.hid (HC3.out.below hB)
        by_cases hlt : k < K
        · obtain ⟨⟨a, b⟩, hx⟩ : ∃ x, P[k]? = some x := ⟨_, List.getElem?_eq_getElem (by have := HK.out; omega)⟩
          have HX := Lib.hid hx
          obtain ⟨g, rfl, _, g0, g1, g2⟩ := HR3.out k a b hx
          have HG1 := Lib.hid (And.intro g0 (And.intro g1 g2))
          obtain ⟨b1, b2, b3, b4⟩ := HPB.out k a b hx
          have hb1 : (1 : Int) ≤ b := by omega
          have hb2 : (b : Int) ≤ 16 := by omega
          have HB4 := Lib.hid b4
          have hB3 := b3
          have hdj := fun q => HDJ.out k a b q hx
          have HDQ := Lib.hid hdj
          have z1 := (hB.cell (p := ⟨g, k * 2, none⟩) g0).trans g1
          have z2 := (hB.cell (p := ⟨g, k * 2 + 1, none⟩) g0).trans g2
          have hsw : IntKind.i64.wrap ((a : Int) + (b : Int)) = ((a + b : Nat) : Int) := by rw [IntWalk.i64_in _ (by omega)]; omega
          have HSW := Lib.hid hsw
          clear hC hB hx g0 g1 g2 b1 b2 b3 b4 hdj hsw
          go_wp2_with fail
          clear z1 z2
          go_loopw [13] (fun i w5 => ∃ q : Nat, a ≤ q ∧ q ≤ a + b ∧ i = .int .i64 q ∧ Cl w5 T 128 (fun x => .bool (told (P.take k) a (q - a) x)) ∧ Below w3.heap.size w3 w5) (fun i _ => a + b - (intOf i).toNat)
          case atStart => exact ⟨a, Nat.le_refl _, by omega, rfl, HC.out.congr (fun q _ => by rw [Nat.sub_self, told_zero]), HB.out⟩
          case round =>
            obtain ⟨q, hq1, hq2, rfl, hC5, hB5⟩ := hrel
            have HC5 := Lib.hid hC5
            have HB5 := Lib.hid hB5
            have HT5 := Lib.hid (HT3.out.below hB5)
            have hsw := HSW.out
            have z1 := (hB5.cell (p := ⟨g, k * 2, none⟩) HG1.out.1).trans HG1.out.2.1
            have z2 := (hB5.cell (p := ⟨g, k * 2 + 1, none⟩) HG1.out.1).trans HG1.out.2.2
            by_cases hlt2 : q < a + b
            · have e0 := hC5.cell q (by omega)
              have f0 := hC5.free q (by omega)
              simp only [told_fresh (HDQ.out q hq1 hlt2) hq1] at e0
              have HS2 := Lib.hid (fun n => State_two HT5.out (q := q) (by omega) (by omega) (HB4.out q hq1 hlt2) n)
              have hq128 : q < 128 := by omega
              clear hC5 hB5
              go_wp2_with fail
              go_quiet (fail)
              go_wp2_with fail
              refine (HS2.out _).mono ?_
              rintro e _ ⟨rfl, rfl⟩
              go_wp2_with fail
              go_roundw
              case rel => exact ⟨q + 1, by omega, by omega, by go_num, told_set HC5.out hq1 _, (belowN HB5.out _).setCell (p := ⟨T, q, none⟩) HTL.out _⟩
              case measure => simp [intOf]; omega
            · obtain rfl : q = a + b := by omega
              clear hC5 hB5
              go_wp2_with fail
              go_quiet (fail)
              go_wp2_with fail
              go_roundw
              case rel => exact ⟨k + 1, by omega, by go_num, told_done HC5.out HX.out _, belowN HB5.out _⟩
              case measure => simp [intOf]; omega
        · have hrt := HR3.out.below hB
          have HRT := Lib.hid hrt
          have ht := total_any cp (by have := HK.out; omega) (by omega) hrt
          rw [← HK.out] at ht
          have HTT := Lib.hid ht
          have HBW := Lib.hid (HB3.out.trans (hB.mono HB3.out.size))
          have hal := alike_any HT.out HCT.out
          rw [alB_self] at hal
          have HAK := Lib.hid hal
          clear hC hB hrt ht hal hs128
          obtain rfl : k = K := by omega
          have hco := Count_any 2 HT.out
          have hps := HPS.out
          obtain ⟨s, hs⟩ : ∃ s, sumR P = s := ⟨_, rfl⟩
          rw [hs] at HTT hps
          have hcv : ¬ want ≤ (s : Int) → coV m 2 = (s : Int) := fun h => by
            have := hps.resolve_left h
            unfold coV
            rw [if_pos (by decide), this]
            rfl
          rcases Nat.eq_zero_or_pos k with rfl | hk0
          · clear hps hs
            by_cases hsw : (s : Int) < want
            · rw [hcv (by omega)] at hco
              have HCO := Lib.hid hco
              clear hco hcv
              go_wp2_with fail
              refine HTT.out.mono ?_
              rintro e _ ⟨rfl, rfl⟩
              go_wp2_with fail
              refine HTT.out.mono ?_
              rintro e _ ⟨rfl, rfl⟩
              go_wp2_with fail
              refine HCO.out.mono ?_
              rintro e _ ⟨rfl, rfl⟩
              go_wp2_with fail
              refine HAK.out.mono ?_
              rintro e _ ⟨rfl, rfl⟩
              go_wp2_with fail
              refine (HAL.out _).mono ?_
              rintro e w9 ⟨rfl, hb9⟩
              go_wp2_with fail
              go_ret
              exact ⟨rfl, HBW.out.trans (hb9.mono HBW.out.size)⟩
            · clear hco hcv
              go_wp2_with fail
              refine HTT.out.mono ?_
              rintro e _ ⟨rfl, rfl⟩
              go_wp2_with fail
              refine HAK.out.mono ?_
              rintro e _ ⟨rfl, rfl⟩
              go_wp2_with fail
              refine (HAL.out _).mono ?_
              rintro e w9 ⟨rfl, hb9⟩
              go_wp2_with fail
              go_ret
              exact ⟨rfl, HBW.out.trans (hb9.mono HBW.out.size)⟩
          · obtain ⟨J, rfl⟩ : ∃ J, k = J + 1 := ⟨k - 1, by omega⟩
            obtain ⟨⟨a, b⟩, hx⟩ : ∃ x, P[J]? = some x := ⟨_, List.getElem?_eq_getElem (by have := HK.out; omega)⟩
            obtain ⟨g, rfl, _, g0, g1, g2⟩ := HR3.out J a b hx
            have ht2 := total_any cp (l := P.take J) (by rw [List.length_take]; omega) (by have := sumR_take_le P J; have := HS128.out; omega) (runs_take HRT.out J)
            rw [show (P.take J).length = J from by rw [List.length_take]; have := HK.out; omega] at ht2
            have hs2 := HPL.out J HK.out.symm
            obtain ⟨s2, hs2e⟩ : ∃ s2, sumR (P.take J) = s2 := ⟨_, rfl⟩
            rw [hs2e] at ht2 hs2
            have HT2 := Lib.hid ht2
            have hJ1 : J ≤ cp := by omega
            clear hps hs hs2e ht2 hx g1 g2 hk0
            by_cases hsw : (s : Int) < want
            · rw [hcv (by omega)] at hco
              have HCO := Lib.hid hco
              clear hco hcv
              go_wp2_with fail
              refine HTT.out.mono ?_
              rintro e _ ⟨rfl, rfl⟩
              go_wp2_with fail
              refine HTT.out.mono ?_
              rintro e _ ⟨rfl, rfl⟩
              go_wp2_with fail
              refine HCO.out.mono ?_
              rintro e _ ⟨rfl, rfl⟩
              go_wp2_with fail
              refine HT2.out.mono ?_
              rintro e _ ⟨rfl, rfl⟩
              go_wp2_with fail
              refine HAK.out.mono ?_
              rintro e _ ⟨rfl, rfl⟩
              go_wp2_with fail
              refine (HAL.out _).mono ?_
              rintro e w9 ⟨rfl, hb9⟩
              go_wp2_with fail
              go_ret
              exact ⟨rfl, HBW.out.trans (hb9.mono HBW.out.size)⟩
            · clear hco hcv
              go_wp2_with fail
              refine HTT.out.mono ?_
              rintro e _ ⟨rfl, rfl⟩
              go_wp2_with fail
              refine HT2.out.mono ?_
              rintro e _ ⟨rfl, rfl⟩
              go_wp2_with fail
              refine HAK.out.mono ?_
              rintro e _ ⟨rfl, rfl⟩
              go_wp2_with fail
              refine (HAL.out _).mono ?_
              rintro e w9 ⟨rfl, hb9⟩
              go_wp2_with fail
              go_ret
              exact ⟨rfl, HBW.out.trans (hb9.mono HBW.out.size)⟩

end Go.Proofs.Ytecfjibmpbgllaa
