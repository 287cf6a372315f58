/- The statement about the states of pages: what its call returns. -/
import Derived.Test.YtecfjibmpbgllaaMh
namespace Go.Proofs.Ytecfjibmpbgllaa
open Go.RowKit

set_option maxRecDepth 100000 in
set_option maxHeartbeats 4000000 in
theorem states_walk (p : Int) (A : Option Addr) (c : Nat) (l : List Ac) (w : World) (hp0 : 0 ≤ p) (hp1 : p ≤ 255) (hl : l.length ≤ 9223372036854775807) (hA : ActsAt w w.heap.size A l) :
    Calls Try.prog 5 #[.int .u8 p, .slice A l.length c] w (Yes w) := by
  have HAL := Lib.hid alive_any
  obtain ⟨n, hn⟩ : ∃ n : Nat, p % 8 + 1 = n := ⟨(p % 8 + 1).toNat, by omega⟩
  have HMD := Lib.hid (fun w hA => made'_any p A c n l w hn hp0 hp1 hl hA)
  have hn8 : n ≤ 8 := by omega
  have hn1 : 1 ≤ n := by omega
  have hnh : (runM (newM n) l).h = n := runM_h _ _
  have hwf := runM_wf (newM_wf hn1 (by omega)) l
  obtain ⟨L, hL⟩ : ∃ L, L = l.length := ⟨_, rfl⟩
  rw [← hL] at hl HMD ⊢
  have HG := Lib.hid (fun w => great_any A L c w hl)
  have HA := Lib.hid hA
  clear hA hL
  by_cases h40 : 40 < L
  · rw [decide_eq_true h40] at HG
    clear hn
    go_enter Try.func5, Try.ntmps5
    go_wp2_with fail
    refine (HG.out _).mono ?_
    rintro e _ ⟨rfl, rfl⟩
    go_wp2_with fail
    refine (HAL.out _).mono ?_
    rintro e w1 ⟨rfl, hb1⟩
    go_wp2_with fail
    go_ret
    exact ⟨rfl, hb1⟩
  · rw [decide_eq_false h40] at HG
    clear h40
    have hN := hn
    have HNN := Lib.hid hN
    clear hn hN
    go_enter Try.func5, Try.ntmps5
    go_wp2_with fail
    refine (HG.out _).mono ?_
    rintro e _ ⟨rfl, rfl⟩
    go_wp2_with fail
    refine (HMD.out _ HA.out).mono ?_
    rintro e w1 ⟨B, rfl, hb1, ht1⟩
    have HB1 := Lib.hid hb1
    have HT1 := Lib.hid ht1
    clear hb1 ht1
    generalize hm : runM (newM n) l = m at *
    clear hm
    have HH := Lib.hid hnh
    have hm8 : m.h ≤ 8 := by omega
    have HKL := Lib.hid (fun i => kinds_len m.S i m.h)
    have HWF := Lib.hid hwf
    clear hnh hwf
    go_wp2_with fail
    go_loopw [6] (fun i wr => ∃ k : Nat, k ≤ n ∧ i = .int .i64 k ∧ Below w1.heap.size w1 wr) (fun i _ => n - (intOf i).toNat)
    case atStart => exact ⟨0, by omega, rfl, Below.refl _ _⟩
    case round =>
      obtain ⟨k, hk, rfl, hB⟩ := hrel
      have HB := Lib.hid hB
      have HT := Lib.hid (HT1.out.below hB)
      clear hB
      have hpk : (p % 8 : Int) + 1 = n := HNN.out
      by_cases hlt : k < n
      · have hle : (k : Int) ≤ p % 8 := by omega
        have hkh : k < m.h := by have := HH.out; omega
        have HKC := Lib.hid (kd_cases HWF.out hkh)
        have HS3 := Lib.hid HWF.out.s3
        have HSU := Lib.hid (show usV m k = ((cnt m.S 1 (16 * k) 16 : Nat) : Int) by unfold usV; rw [if_pos (by omega)]; rw [Int.toNat_natCast])
        have HHK := Lib.hid (fun f => show hasL (kinds m.S f m.h) (k : Int) = decide (kdS m.S k = f) by rw [has_kind, decide_eq_decide]; exact ⟨fun h => h.2, fun h => ⟨hkh, h⟩⟩)
        have HKH := Lib.hid hkh
        clear hpk hkh
        have HC0 := Lib.hid (new4 wr)
        have HBG := Lib.hid (HB.out.alloc HB.out.size (.cells #[.int .i64 0, .int .i64 0, .int .i64 0, .int .i64 0] 45))
        have HGE := Lib.hid HB.out.size
        obtain ⟨g, hg⟩ : ∃ g, g = wr.heap.size := ⟨_, rfl⟩
        rw [← hg] at HC0 HGE
        have HGG := Lib.hid hg
        clear hg
        go_wp2_with fail
        rw [← HGG.out]
        clear HGG
        go_loopw [8] (fun i w5 => ∃ t : Nat, t ≤ 16 ∧ i = .int .i64 ((16 * k + t : Nat) : Int) ∧ Cl w5 g 4 (fun j => .int .i64 ((cnt m.S j (16 * k) t : Nat) : Int)) ∧ Below w1.heap.size w1 w5) (fun i _ => 16 * k + 16 - (intOf i).toNat)
        case atStart => exact ⟨0, by omega, by congr 1; omega, HC0.out, HBG.out⟩
        case round =>
          obtain ⟨t, ht, rfl, hC, hB5⟩ := hrel
          have HC := Lib.hid hC
          have HB5 := Lib.hid hB5
          have HT5 := Lib.hid (HT1.out.below hB5)
          clear hB5
          by_cases hlt2 : t < 16
          · have h1 := State_any ((16 * k + t : Nat) : Int) HT5.out ⟨by omega, by omega⟩
            have hq : stV m ((16 * k + t : Nat) : Int) = ((m.S (16 * k + t) : Nat) : Int) := by rw [stV_nat, if_pos (by have := HKH.out; omega)]
            rw [hq] at h1
            have H1 := Lib.hid h1
            have h4 := HS3.out (16 * k + t)
            clear hq h1
            obtain ⟨s, hs⟩ : ∃ s, m.S (16 * k + t) = s := ⟨_, rfl⟩
            have HSS := Lib.hid hs
            rw [hs] at H1 h4
            have e0 := hC.cell s (by omega)
            have f0 := hC.free s (by omega)
            have hcl := cnt_le m.S s (16 * k) t
            obtain ⟨cc, hcc⟩ : ∃ cc, cnt m.S s (16 * k) t = cc := ⟨_, rfl⟩
            have HCC := Lib.hid hcc
            rw [hcc] at e0 hcl
            clear hs hcc hC
            have hs4 : s = 0 ∨ s = 1 ∨ s = 2 ∨ s = 3 := by omega
            rcases hs4 with rfl | rfl | rfl | rfl
            · go_wp2_with fail
              refine H1.out.mono ?_
              rintro e _ ⟨rfl, rfl⟩
              go_wp2_with fail
              go_roundw
              case rel => exact ⟨t + 1, by omega, by congr 1, cl_next HC.out HSS.out (by rw [HCC.out]), HB5.out.setCell HGE.out _⟩
              case measure => simp [intOf]; omega
            · go_wp2_with fail
              refine H1.out.mono ?_
              rintro e _ ⟨rfl, rfl⟩
              go_wp2_with fail
              go_roundw
              case rel => exact ⟨t + 1, by omega, by congr 1, cl_next HC.out HSS.out (by rw [HCC.out]), HB5.out.setCell HGE.out _⟩
              case measure => simp [intOf]; omega
            · go_wp2_with fail
              refine H1.out.mono ?_
              rintro e _ ⟨rfl, rfl⟩
              go_wp2_with fail
              go_roundw
              case rel => exact ⟨t + 1, by omega, by congr 1, cl_next HC.out HSS.out (by rw [HCC.out]), HB5.out.setCell HGE.out _⟩
              case measure => simp [intOf]; omega
            · go_wp2_with fail
              refine H1.out.mono ?_
              rintro e _ ⟨rfl, rfl⟩
              go_wp2_with fail
              go_roundw
              case rel => exact ⟨t + 1, by omega, by congr 1, cl_next HC.out HSS.out (by rw [HCC.out]), HB5.out.setCell HGE.out _⟩
              case measure => simp [intOf]; omega
          · obtain rfl : t = 16 := by omega
            have HLT := Lib.hid (hC.lt (by omega))
            clear hC
            have HLE0 := Lib.hid (fun i => cnt_le m.S i (16 * k) 16)
            rcases HKC.out with hkd | hkd | hkd | hkd
            · obtain ⟨hkd, h0, h1⟩ := hkd
              have k1 : hasL (kinds m.S 1 m.h) (k : Int) = false := by rw [HHK.out, hkd]; rfl
              have HK1 := Lib.hid k1
              have k2 : hasL (kinds m.S 2 m.h) (k : Int) = false := by rw [HHK.out, hkd]; rfl
              have HK2 := Lib.hid k2
              have k3 : hasL (kinds m.S 3 m.h) (k : Int) = false := by rw [HHK.out, hkd]; rfl
              have HK3 := Lib.hid k3
              clear k1 k2 k3 hkd
              obtain ⟨v3, hv3⟩ : ∃ v3 : Int, ((cnt m.S 3 (16 * k) 16 : Nat) : Int) = v3 := ⟨_, rfl⟩
              have HV := Lib.hid (show ((cnt m.S 0 (16 * k) 16 : Nat) : Int) = 16 ∧ ((cnt m.S 1 (16 * k) 16 : Nat) : Int) = 0 ∧ ((cnt m.S 3 (16 * k) 16 : Nat) : Int) = v3 from ⟨by rw [h0]; rfl, by rw [h1]; rfl, hv3⟩)
              have hus : usV m k = 0 := HSU.out.trans HV.out.2.1
              have HU := Lib.hid hus
              clear hus h0 h1 hv3
              go_wp2_with fail
              refine (Idle_any HT5.out).mono ?_
              rintro e w1x ⟨A1, c1, rfl, hn1, hb1⟩
              have hh1 := hasL_any c1 (k : Int) (by have := HKL.out 1; omega) hn1
              rw [HK1.out] at hh1
              have HH1 := Lib.hid hh1
              have HC1x := Lib.hid (HC.out.of_block (hb1.block _ HLT.out))
              have HL1x := Lib.hid (Nat.lt_of_lt_of_le HLT.out hb1.size)
              have HB1x := Lib.hid (HB5.out.trans (hb1.mono HB5.out.size))
              have HT1x := Lib.hid (HT5.out.below hb1)
              obtain ⟨x0, x1, x3⟩ := cl_vals HC1x.out HV.out
              clear hh1 hn1 hb1
              go_wp2_with fail
              refine HH1.out.mono ?_
              rintro e _ ⟨rfl, rfl⟩
              go_wp2_with fail
              refine (Broken_any HT1x.out).mono ?_
              rintro e w2x ⟨A2, c2, rfl, hn2, hb2⟩
              have hh2 := hasL_any c2 (k : Int) (by have := HKL.out 2; omega) hn2
              rw [HK2.out] at hh2
              have HH2 := Lib.hid hh2
              have HC2x := Lib.hid (HC1x.out.of_block (hb2.block _ HL1x.out))
              have HL2x := Lib.hid (Nat.lt_of_lt_of_le HL1x.out hb2.size)
              have HB2x := Lib.hid (HB1x.out.trans (hb2.mono HB1x.out.size))
              have HT2x := Lib.hid (HT1x.out.below hb2)
              clear x0 x1 x3
              obtain ⟨x0, x1, x3⟩ := cl_vals HC2x.out HV.out
              clear hh2 hn2 hb2
              go_wp2_with fail
              refine HH2.out.mono ?_
              rintro e _ ⟨rfl, rfl⟩
              go_wp2_with fail
              refine (Whole_any HT2x.out).mono ?_
              rintro e w3x ⟨A3, c3, rfl, hn3, hb3⟩
              have hh3 := hasL_any c3 (k : Int) (by have := HKL.out 3; omega) hn3
              rw [HK3.out] at hh3
              have HH3 := Lib.hid hh3
              have HC3x := Lib.hid (HC2x.out.of_block (hb3.block _ HL2x.out))
              have HL3x := Lib.hid (Nat.lt_of_lt_of_le HL2x.out hb3.size)
              have HB3x := Lib.hid (HB2x.out.trans (hb3.mono HB2x.out.size))
              have HT3x := Lib.hid (HT2x.out.below hb3)
              clear x0 x1 x3
              obtain ⟨x0, x1, x3⟩ := cl_vals HC3x.out HV.out
              clear hh3 hn3 hb3
              go_wp2_with fail
              refine HH3.out.mono ?_
              rintro e _ ⟨rfl, rfl⟩
              go_wp2_with fail
              go_quiet ((go_at_call 26; exact Used_quiet HT3x.out HU.out _))
              go_wp2_with fail
              go_roundw
              case rel => exact ⟨k + 1, by omega, by go_num, belowN HB3x.out _⟩
              case measure => simp [intOf]; omega
            · obtain ⟨hkd, h0, h1⟩ := hkd
              have k1 : hasL (kinds m.S 1 m.h) (k : Int) = true := by rw [HHK.out, hkd]; rfl
              have HK1 := Lib.hid k1
              have k2 : hasL (kinds m.S 2 m.h) (k : Int) = false := by rw [HHK.out, hkd]; rfl
              have HK2 := Lib.hid k2
              have k3 : hasL (kinds m.S 3 m.h) (k : Int) = false := by rw [HHK.out, hkd]; rfl
              have HK3 := Lib.hid k3
              clear k1 k2 k3 hkd
              obtain ⟨v3, hv3⟩ : ∃ v3 : Int, ((cnt m.S 3 (16 * k) 16 : Nat) : Int) = v3 := ⟨_, rfl⟩
              have HV := Lib.hid (show ((cnt m.S 0 (16 * k) 16 : Nat) : Int) = 0 ∧ ((cnt m.S 1 (16 * k) 16 : Nat) : Int) = 0 ∧ ((cnt m.S 3 (16 * k) 16 : Nat) : Int) = v3 from ⟨by rw [h0]; rfl, by rw [h1]; rfl, hv3⟩)
              have hus : usV m k = 0 := HSU.out.trans HV.out.2.1
              have HU := Lib.hid hus
              clear hus h0 h1 hv3
              go_wp2_with fail
              refine (Idle_any HT5.out).mono ?_
              rintro e w1x ⟨A1, c1, rfl, hn1, hb1⟩
              have hh1 := hasL_any c1 (k : Int) (by have := HKL.out 1; omega) hn1
              rw [HK1.out] at hh1
              have HH1 := Lib.hid hh1
              have HC1x := Lib.hid (HC.out.of_block (hb1.block _ HLT.out))
              have HL1x := Lib.hid (Nat.lt_of_lt_of_le HLT.out hb1.size)
              have HB1x := Lib.hid (HB5.out.trans (hb1.mono HB5.out.size))
              have HT1x := Lib.hid (HT5.out.below hb1)
              obtain ⟨x0, x1, x3⟩ := cl_vals HC1x.out HV.out
              clear hh1 hn1 hb1
              go_wp2_with fail
              refine HH1.out.mono ?_
              rintro e _ ⟨rfl, rfl⟩
              go_wp2_with fail
              refine (Broken_any HT1x.out).mono ?_
              rintro e w2x ⟨A2, c2, rfl, hn2, hb2⟩
              have hh2 := hasL_any c2 (k : Int) (by have := HKL.out 2; omega) hn2
              rw [HK2.out] at hh2
              have HH2 := Lib.hid hh2
              have HC2x := Lib.hid (HC1x.out.of_block (hb2.block _ HL1x.out))
              have HL2x := Lib.hid (Nat.lt_of_lt_of_le HL1x.out hb2.size)
              have HB2x := Lib.hid (HB1x.out.trans (hb2.mono HB1x.out.size))
              have HT2x := Lib.hid (HT1x.out.below hb2)
              clear x0 x1 x3
              obtain ⟨x0, x1, x3⟩ := cl_vals HC2x.out HV.out
              clear hh2 hn2 hb2
              go_wp2_with fail
              refine HH2.out.mono ?_
              rintro e _ ⟨rfl, rfl⟩
              go_wp2_with fail
              refine (Whole_any HT2x.out).mono ?_
              rintro e w3x ⟨A3, c3, rfl, hn3, hb3⟩
              have hh3 := hasL_any c3 (k : Int) (by have := HKL.out 3; omega) hn3
              rw [HK3.out] at hh3
              have HH3 := Lib.hid hh3
              have HC3x := Lib.hid (HC2x.out.of_block (hb3.block _ HL2x.out))
              have HL3x := Lib.hid (Nat.lt_of_lt_of_le HL2x.out hb3.size)
              have HB3x := Lib.hid (HB2x.out.trans (hb3.mono HB2x.out.size))
              have HT3x := Lib.hid (HT2x.out.below hb3)
              clear x0 x1 x3
              obtain ⟨x0, x1, x3⟩ := cl_vals HC3x.out HV.out
              clear hh3 hn3 hb3
              go_wp2_with fail
              refine HH3.out.mono ?_
              rintro e _ ⟨rfl, rfl⟩
              go_wp2_with fail
              go_quiet ((go_at_call 26; exact Used_quiet HT3x.out HU.out _))
              go_wp2_with fail
              go_roundw
              case rel => exact ⟨k + 1, by omega, by go_num, belowN HB3x.out _⟩
              case measure => simp [intOf]; omega
            · obtain ⟨hkd, h0, h1, h3⟩ := hkd
              have k1 : hasL (kinds m.S 1 m.h) (k : Int) = false := by rw [HHK.out, hkd]; rfl
              have HK1 := Lib.hid k1
              have k2 : hasL (kinds m.S 2 m.h) (k : Int) = true := by rw [HHK.out, hkd]; rfl
              have HK2 := Lib.hid k2
              have k3 : hasL (kinds m.S 3 m.h) (k : Int) = false := by rw [HHK.out, hkd]; rfl
              have HK3 := Lib.hid k3
              clear k1 k2 k3 hkd
              obtain ⟨v1, hv1⟩ : ∃ v1 : Int, ((cnt m.S 1 (16 * k) 16 : Nat) : Int) = v1 := ⟨_, rfl⟩
              obtain ⟨v3, hv3⟩ : ∃ v3 : Int, ((cnt m.S 3 (16 * k) 16 : Nat) : Int) = v3 := ⟨_, rfl⟩
              have HV := Lib.hid (show ((cnt m.S 0 (16 * k) 16 : Nat) : Int) = 0 ∧ ((cnt m.S 1 (16 * k) 16 : Nat) : Int) = v1 ∧ ((cnt m.S 3 (16 * k) 16 : Nat) : Int) = v3 from ⟨by rw [h0]; rfl, hv1, hv3⟩)
              have hus : usV m k = v1 := HSU.out.trans HV.out.2.1
              have HU := Lib.hid hus
              have q1 : (v1 == 0) = false := by have : v1 ≠ 0 := by omega
                                                simpa using this
              have q3 : (v3 == 0) = false := by have : v3 ≠ 0 := by omega
                                                simpa using this
              clear hus h0 h1 hv1 hv3 h3
              go_wp2_with fail
              refine (Idle_any HT5.out).mono ?_
              rintro e w1x ⟨A1, c1, rfl, hn1, hb1⟩
              have hh1 := hasL_any c1 (k : Int) (by have := HKL.out 1; omega) hn1
              rw [HK1.out] at hh1
              have HH1 := Lib.hid hh1
              have HC1x := Lib.hid (HC.out.of_block (hb1.block _ HLT.out))
              have HL1x := Lib.hid (Nat.lt_of_lt_of_le HLT.out hb1.size)
              have HB1x := Lib.hid (HB5.out.trans (hb1.mono HB5.out.size))
              have HT1x := Lib.hid (HT5.out.below hb1)
              obtain ⟨x0, x1, x3⟩ := cl_vals HC1x.out HV.out
              clear hh1 hn1 hb1
              go_wp2_with fail
              refine HH1.out.mono ?_
              rintro e _ ⟨rfl, rfl⟩
              go_wp2_with fail
              refine (Broken_any HT1x.out).mono ?_
              rintro e w2x ⟨A2, c2, rfl, hn2, hb2⟩
              have hh2 := hasL_any c2 (k : Int) (by have := HKL.out 2; omega) hn2
              rw [HK2.out] at hh2
              have HH2 := Lib.hid hh2
              have HC2x := Lib.hid (HC1x.out.of_block (hb2.block _ HL1x.out))
              have HL2x := Lib.hid (Nat.lt_of_lt_of_le HL1x.out hb2.size)
              have HB2x := Lib.hid (HB1x.out.trans (hb2.mono HB1x.out.size))
              have HT2x := Lib.hid (HT1x.out.below hb2)
              clear x0 x1 x3
              obtain ⟨x0, x1, x3⟩ := cl_vals HC2x.out HV.out
              clear hh2 hn2 hb2
              go_wp2_with fail
              refine HH2.out.mono ?_
              rintro e _ ⟨rfl, rfl⟩
              go_wp2_with fail
              refine (Whole_any HT2x.out).mono ?_
              rintro e w3x ⟨A3, c3, rfl, hn3, hb3⟩
              have hh3 := hasL_any c3 (k : Int) (by have := HKL.out 3; omega) hn3
              rw [HK3.out] at hh3
              have HH3 := Lib.hid hh3
              have HC3x := Lib.hid (HC2x.out.of_block (hb3.block _ HL2x.out))
              have HL3x := Lib.hid (Nat.lt_of_lt_of_le HL2x.out hb3.size)
              have HB3x := Lib.hid (HB2x.out.trans (hb3.mono HB2x.out.size))
              have HT3x := Lib.hid (HT2x.out.below hb3)
              clear x0 x1 x3
              obtain ⟨x0, x1, x3⟩ := cl_vals HC3x.out HV.out
              clear hh3 hn3 hb3
              go_wp2_with fail
              refine HH3.out.mono ?_
              rintro e _ ⟨rfl, rfl⟩
              go_wp2_with fail
              go_quiet ((go_at_call 26; exact Used_quiet HT3x.out HU.out _))
              go_wp2_with fail
              go_roundw
              case rel => exact ⟨k + 1, by omega, by go_num, belowN HB3x.out _⟩
              case measure => simp [intOf]; omega
            · obtain ⟨hkd, h0, h1, h3⟩ := hkd
              have k1 : hasL (kinds m.S 1 m.h) (k : Int) = false := by rw [HHK.out, hkd]; rfl
              have HK1 := Lib.hid k1
              have k2 : hasL (kinds m.S 2 m.h) (k : Int) = false := by rw [HHK.out, hkd]; rfl
              have HK2 := Lib.hid k2
              have k3 : hasL (kinds m.S 3 m.h) (k : Int) = true := by rw [HHK.out, hkd]; rfl
              have HK3 := Lib.hid k3
              clear k1 k2 k3 hkd
              obtain ⟨v1, hv1⟩ : ∃ v1 : Int, ((cnt m.S 1 (16 * k) 16 : Nat) : Int) = v1 := ⟨_, rfl⟩
              have HV := Lib.hid (show ((cnt m.S 0 (16 * k) 16 : Nat) : Int) = 0 ∧ ((cnt m.S 1 (16 * k) 16 : Nat) : Int) = v1 ∧ ((cnt m.S 3 (16 * k) 16 : Nat) : Int) = 0 from ⟨by rw [h0]; rfl, hv1, by rw [h3]; rfl⟩)
              have hus : usV m k = v1 := HSU.out.trans HV.out.2.1
              have HU := Lib.hid hus
              have q1 : (v1 == 0) = false := by have : v1 ≠ 0 := by omega
                                                simpa using this
              clear hus h0 h1 hv1 h3
              go_wp2_with fail
              refine (Idle_any HT5.out).mono ?_
              rintro e w1x ⟨A1, c1, rfl, hn1, hb1⟩
              have hh1 := hasL_any c1 (k : Int) (by have := HKL.out 1; omega) hn1
              rw [HK1.out] at hh1
              have HH1 := Lib.hid hh1
              have HC1x := Lib.hid (HC.out.of_block (hb1.block _ HLT.out))
              have HL1x := Lib.hid (Nat.lt_of_lt_of_le HLT.out hb1.size)
              have HB1x := Lib.hid (HB5.out.trans (hb1.mono HB5.out.size))
              have HT1x := Lib.hid (HT5.out.below hb1)
              obtain ⟨x0, x1, x3⟩ := cl_vals HC1x.out HV.out
              clear hh1 hn1 hb1
              go_wp2_with fail
              refine HH1.out.mono ?_
              rintro e _ ⟨rfl, rfl⟩
              go_wp2_with fail
              refine (Broken_any HT1x.out).mono ?_
              rintro e w2x ⟨A2, c2, rfl, hn2, hb2⟩
              have hh2 := hasL_any c2 (k : Int) (by have := HKL.out 2; omega) hn2
              rw [HK2.out] at hh2
              have HH2 := Lib.hid hh2
              have HC2x := Lib.hid (HC1x.out.of_block (hb2.block _ HL1x.out))
              have HL2x := Lib.hid (Nat.lt_of_lt_of_le HL1x.out hb2.size)
              have HB2x := Lib.hid (HB1x.out.trans (hb2.mono HB1x.out.size))
              have HT2x := Lib.hid (HT1x.out.below hb2)
              clear x0 x1 x3
              obtain ⟨x0, x1, x3⟩ := cl_vals HC2x.out HV.out
              clear hh2 hn2 hb2
              go_wp2_with fail
              refine HH2.out.mono ?_
              rintro e _ ⟨rfl, rfl⟩
              go_wp2_with fail
              refine (Whole_any HT2x.out).mono ?_
              rintro e w3x ⟨A3, c3, rfl, hn3, hb3⟩
              have hh3 := hasL_any c3 (k : Int) (by have := HKL.out 3; omega) hn3
              rw [HK3.out] at hh3
              have HH3 := Lib.hid hh3
              have HC3x := Lib.hid (HC2x.out.of_block (hb3.block _ HL2x.out))
              have HL3x := Lib.hid (Nat.lt_of_lt_of_le HL2x.out hb3.size)
              have HB3x := Lib.hid (HB2x.out.trans (hb3.mono HB2x.out.size))
              have HT3x := Lib.hid (HT2x.out.below hb3)
              clear x0 x1 x3
              obtain ⟨x0, x1, x3⟩ := cl_vals HC3x.out HV.out
              clear hh3 hn3 hb3
              go_wp2_with fail
              refine HH3.out.mono ?_
              rintro e _ ⟨rfl, rfl⟩
              go_wp2_with fail
              go_quiet ((go_at_call 26; exact Used_quiet HT3x.out HU.out _))
              go_wp2_with fail
              go_roundw
              case rel => exact ⟨k + 1, by omega, by go_num, belowN HB3x.out _⟩
              case measure => simp [intOf]; omega
      · have hkn : k = n := by omega
        clear hpk
        have hs := cnt_four HWF.out.s3 0 (16 * m.h)
        have hl0 := cnt_le m.S 0 0 (16 * m.h)
        have hl1 := cnt_le m.S 1 0 (16 * m.h)
        have hl2 := cnt_le m.S 2 0 (16 * m.h)
        have hl3 := cnt_le m.S 3 0 (16 * m.h)
        have hc0 : Calls Try.prog 27 #[.pointer (some ⟨B, 0, none⟩), .int .i64 0] wr fun e w' => e = .returned (.int .i64 ((cnt m.S 0 0 (16 * m.h) : Nat) : Int)) ∧ wr = w' := Count_any 0 HT.out
        have HQ0 := Lib.hid hc0
        have hc1 : Calls Try.prog 27 #[.pointer (some ⟨B, 0, none⟩), .int .i64 1] wr fun e w' => e = .returned (.int .i64 ((cnt m.S 1 0 (16 * m.h) : Nat) : Int)) ∧ wr = w' := Count_any 1 HT.out
        have HQ1 := Lib.hid hc1
        have hc2 : Calls Try.prog 27 #[.pointer (some ⟨B, 0, none⟩), .int .i64 2] wr fun e w' => e = .returned (.int .i64 ((cnt m.S 2 0 (16 * m.h) : Nat) : Int)) ∧ wr = w' := Count_any 2 HT.out
        have HQ2 := Lib.hid hc2
        have hc3 : Calls Try.prog 27 #[.pointer (some ⟨B, 0, none⟩), .int .i64 3] wr fun e w' => e = .returned (.int .i64 ((cnt m.S 3 0 (16 * m.h) : Nat) : Int)) ∧ wr = w' := Count_any 3 HT.out
        have HQ3 := Lib.hid hc3
        clear hc0 hc1 hc2 hc3
        generalize cnt m.S 0 0 (16 * m.h) = e0 at *
        generalize cnt m.S 1 0 (16 * m.h) = e1 at *
        generalize cnt m.S 2 0 (16 * m.h) = e2 at *
        generalize cnt m.S 3 0 (16 * m.h) = e3 at *
        have hsum : (e0 : Int) + e1 + e2 + e3 = (p % 8 + 1) * 16 := by have := HH.out; have := HNN.out; omega
        clear hs
        have hle : ¬ (k : Int) ≤ p % 8 := by have := HNN.out; omega
        go_wp2_with fail
        refine HQ0.out.mono ?_
        rintro e _ ⟨rfl, rfl⟩
        go_wp2_with fail
        refine HQ1.out.mono ?_
        rintro e _ ⟨rfl, rfl⟩
        go_wp2_with fail
        refine HQ2.out.mono ?_
        rintro e _ ⟨rfl, rfl⟩
        go_wp2_with fail
        refine HQ3.out.mono ?_
        rintro e _ ⟨rfl, rfl⟩
        go_wp2_with fail
        refine (HAL.out _).mono ?_
        rintro e w9 ⟨rfl, hb9⟩
        go_wp2_with fail
        go_ret
        exact ⟨rfl, (HB1.out.trans (HB.out.mono HB1.out.size)).trans (hb9.mono (Nat.le_trans HB1.out.size HB.out.size))⟩

end Go.Proofs.Ytecfjibmpbgllaa
