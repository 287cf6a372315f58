/- The statement about going back: what its call returns. -/
import Derived.Test.YtecfjibmpbgllaaXa
namespace Go.Proofs.Ytecfjibmpbgllaa
open Go.RowKit

theorem chE_zero {m : Mo} {s k : Int} {P : Nat → Bool} (h : chE m s k P = 0) : ∃ a b : Nat, s = a ∧ k = b ∧ 1 ≤ b ∧ a + b ≤ 16 * m.h ∧ ∀ j : Nat, j < b → P (m.S (a + j)) = true := by
  unfold chE at h
  by_cases h1 : inM m s k = true
  · rw [if_pos h1] at h
    by_cases h2 : allP m.S s.toNat k.toNat P = true
    · have h3 := of_decide_eq_true h1
      refine ⟨s.toNat, k.toNat, by omega, by omega, by omega, by omega, of_decide_eq_true h2⟩
    · rw [if_neg h2] at h; cases h
  · rw [if_neg h1] at h; cases h
theorem chE_ok {m : Mo} {a b : Nat} {P : Nat → Bool} (hb : 1 ≤ b) (h : a + b ≤ 16 * m.h) (hP : ∀ j : Nat, j < b → P (m.S (a + j)) = true) : chE m a b P = 0 := by
  unfold chE
  rw [if_pos (show inM m a b = true from decide_eq_true (by omega)), if_pos (show allP m.S (a : Int).toNat (b : Int).toNat P = true from decide_eq_true (by simpa using hP))]
theorem chD_ok {m : Mo} {a b v : Nat} {P : Nat → Bool} (h : chE m a b P = 0) : chD m a b P v = ⟨m.h, setR m.S a b v⟩ := by
  unfold chD
  rw [if_pos h]; simp
theorem stV_nat (m : Mo) (p : Nat) : stV m p = if p < 16 * m.h then (m.S p : Int) else -1 := by
  unfold stV
  by_cases h : p < 16 * m.h
  · rw [if_pos ⟨by omega, by omega⟩, if_pos h]; simp
  · rw [if_neg (by omega), if_neg h]

/-- Use, then Unuse. -/
theorem back_one {m : Mo} {a b : Nat} (hb : 1 ≤ b) (hab : a + b ≤ 16 * m.h) (h : chE m a b pU = 0) :
    chE (chD m a b pU 1) a b pN = 0 ∧ chD (chD m a b pU 1) a b pN 2 = ⟨m.h, setR m.S a b 2⟩ := by
  rw [chD_ok h]
  have h2 : chE ⟨m.h, setR m.S a b 1⟩ a b pN = 0 := chE_ok hb hab (fun j hj => by
    show pN (setR m.S a b 1 (a + j)) = true
    unfold setR
    rw [if_pos ⟨by omega, by omega⟩]; rfl)
  refine ⟨h2, ?_⟩
  rw [chD_ok h2]
  congr 1
  funext i
  unfold setR
  dsimp only
  split <;> rfl
/-- Unuse, then Use. -/
theorem back_two {m : Mo} {a b : Nat} (hb : 1 ≤ b) (hab : a + b ≤ 16 * m.h) (h : chE m a b pN = 0) (hP : ∀ j : Nat, j < b → pN (m.S (a + j)) = true) :
    chE (chD m a b pN 2) a b pU = 0 ∧ chD (chD m a b pN 2) a b pU 1 = m ∧ (a < 129 → alB (chD m a b pN 2) m = false) := by
  rw [chD_ok h]
  have h2 : chE ⟨m.h, setR m.S a b 2⟩ a b pU = 0 := chE_ok hb hab (fun j hj => by
    show pU (setR m.S a b 2 (a + j)) = true
    unfold setR
    rw [if_pos ⟨by omega, by omega⟩]; rfl)
  refine ⟨h2, ?_, fun ha => decide_eq_false fun hh => ?_⟩
  · rw [chD_ok h2]
    show (⟨m.h, setR (setR m.S a b 2) a b 1⟩ : Mo) = ⟨m.h, m.S⟩
    congr 1
    funext i
    unfold setR
    by_cases e : a ≤ i ∧ i < a + b
    · rw [if_pos e]
      have := hP (i - a) (by omega)
      rw [show a + (i - a) = i from by omega] at this
      exact (of_decide_eq_true this).symm
    · rw [if_neg e, if_neg e]
  · have h3 := hh a ha
    rw [stV_nat, stV_nat] at h3
    have h4 := of_decide_eq_true (hP 0 (by omega))
    rw [if_pos (show a < 16 * m.h by omega), if_pos (show a < 16 * m.h by omega)] at h3
    have h5 : setR m.S a b 2 a = 2 := by unfold setR; rw [if_pos ⟨Nat.le_refl _, by omega⟩]
    rw [Nat.add_zero] at h4
    have h6 : ((setR m.S a b 2 a : Nat) : Int) = (m.S a : Int) := h3
    omega

set_option maxRecDepth 100000 in
set_option maxHeartbeats 1000000 in
theorem back_walk (p : Int) (A : Option Addr) (c : Nat) (l : List Ac) (s k : Int) (first : Bool) (w : World) (hp0 : 0 ≤ p) (hp1 : p ≤ 255) (hl : l.length ≤ 9223372036854775807) (hA : ActsAt w w.heap.size A l) (hs : InR s) (hk : InR k) :
    Calls Try.prog 9 #[.int .u8 p, .slice A l.length c, .int .i64 s, .int .i64 k, .bool first] w (Yes w) := by
  have HAL := Lib.hid alive_any
  obtain ⟨n, hn⟩ : ∃ n : Nat, p % 8 + 1 = n := ⟨(p % 8 + 1).toNat, by omega⟩
  have HMD := Lib.hid (fun w hA => made'_any p A c n l w hn hp0 hp1 hl hA)
  have hn8 : n ≤ 8 := by omega
  have hn1 : 1 ≤ n := by omega
  have hnh : (runM (newM n) l).h = n := runM_h _ _
  have hwf := runM_wf (newM_wf hn1 (by omega)) l
  obtain ⟨L, hL⟩ : ∃ L, L = l.length := ⟨_, rfl⟩
  rw [← hL] at hl HMD ⊢
  have HG := Lib.hid (fun w => great_any A L c w hl)
  have HA := Lib.hid hA
  clear hA hL hn
  by_cases h40 : 40 < L
  · rw [decide_eq_true h40] at HG
    go_enter Try.func9, Try.ntmps9
    go_wp2_with fail
    refine (HG.out _).mono ?_
    rintro e _ ⟨rfl, rfl⟩
    go_wp2_with fail
    refine (HAL.out _).mono ?_
    rintro e w1 ⟨rfl, hb1⟩
    go_wp2_with fail
    go_ret
    exact ⟨rfl, hb1⟩
  · rw [decide_eq_false h40] at HG
    clear h40
    go_enter Try.func9, Try.ntmps9
    go_wp2_with fail
    refine (HG.out _).mono ?_
    rintro e _ ⟨rfl, rfl⟩
    go_wp2_with fail
    refine (HMD.out _ HA.out).mono ?_
    rintro e w1 ⟨B, rfl, hb1, ht1⟩
    have HB1 := Lib.hid hb1
    have HT1 := Lib.hid ht1
    clear hb1 ht1
    generalize hm : runM (newM n) l = m at *
    clear hm
    go_wp2_with fail
    refine (Clone_any HT1.out).mono ?_
    rintro e w2 ⟨C, rfl, hb2, ht2⟩
    have HT2 := Lib.hid ht2
    have HTB := Lib.hid (HT1.out.below hb2)
    have HB2 := Lib.hid (btr HB1.out hb2 (Nat.le_refl _))
    clear hb2 ht2 HT1 HB1
    cases first
    · go_wp2_with fail
      have hU := Unuse_any s k HTB.out hs
      by_cases hE : chE m s k pN = 0
      · obtain ⟨a, b, rfl, rfl, hb, hab, hP⟩ := chE_zero hE
        obtain ⟨q1, q2, q3⟩ := back_two hb hab hE hP
        have q3 := q3 (by omega)
        rw [hE] at hU
        refine hU.mono ?_
        rintro e w3 ⟨rfl, hM3⟩
        have HM3 := Lib.hid hM3
        have HC3 := Lib.hid (HT2.out.keep hM3.2 (fun y hy hy2 => by have := hy.1; have := hy2.2; omega))
        have hal := alike_any hM3.1 HC3.out
        rw [q3] at hal
        have HAL1 := Lib.hid hal
        have HQ1 := Lib.hid q1
        have HQ2 := Lib.hid q2
        clear hM3 hal q1 q2 q3 hU hE hP
        go_wp2_with fail
        refine HAL1.out.mono ?_
        rintro e _ ⟨rfl, rfl⟩
        go_wp2_with fail
        have hU2 := Use_any (a : Int) (b : Int) HM3.out.1 hs
        rw [HQ1.out, HQ2.out] at hU2
        refine hU2.mono ?_
        rintro e w4 ⟨rfl, hM4⟩
        have HM4 := Lib.hid (HM3.out.trans hM4)
        have HC4 := Lib.hid (HT2.out.keep HM4.out.2 (fun y hy hy2 => by have := hy.1; have := hy2.2; omega))
        have hal := alike_any HM4.out.1 HC4.out
        rw [alB_self] at hal
        have HAL2 := Lib.hid hal
        clear hM4 hU2 hal
        go_wp2_with fail
        refine HAL2.out.mono ?_
        rintro e _ ⟨rfl, rfl⟩
        go_wp2_with fail
        refine (HAL.out _).mono ?_
        rintro e w9 ⟨rfl, hb9⟩
        go_wp2_with fail
        go_ret
        exact ⟨rfl, btr (HM4.out.bel HB2.out nwlo) hb9 (Nat.le_refl _)⟩
      · rw [chD_of hE] at hU
        generalize chE m s k pN = E at hU hE
        have q : (E != 0) = true := by simpa using hE
        have q2 : (E == 0) = false := by simpa using hE
        clear hE
        refine hU.mono ?_
        rintro e w3 ⟨rfl, hM3⟩
        have HM3 := Lib.hid hM3
        have HC3 := Lib.hid (HT2.out.keep hM3.2 (fun y hy hy2 => by have := hy.1; have := hy2.2; omega))
        have hal := alike_any hM3.1 HC3.out
        rw [alB_self] at hal
        have HAL1 := Lib.hid hal
        clear hM3 hal hU
        go_wp2_with fail
        refine HAL1.out.mono ?_
        rintro e _ ⟨rfl, rfl⟩
        go_wp2_with fail
        refine (HAL.out _).mono ?_
        rintro e w9 ⟨rfl, hb9⟩
        go_wp2_with fail
        go_ret
        exact ⟨rfl, btr (HM3.out.bel HB2.out nwlo) hb9 (Nat.le_refl _)⟩
    · go_wp2_with fail
      have hU := Use_any s k HTB.out hs
      by_cases hE : chE m s k pU = 0
      · obtain ⟨a, b, rfl, rfl, hb, hab, hP⟩ := chE_zero hE
        obtain ⟨q1, q2⟩ := back_one hb hab hE
        rw [hE] at hU
        refine hU.mono ?_
        rintro e w3 ⟨rfl, hM3⟩
        have HM3 := Lib.hid hM3
        clear hM3 hE hP hU
        go_wp2_with fail
        have hU2 := Unuse_any (a : Int) (b : Int) HM3.out.1 hs
        rw [q1, q2] at hU2
        refine hU2.mono ?_
        rintro e w4 ⟨rfl, hM4⟩
        have HM4 := Lib.hid (HM3.out.trans hM4)
        have HC4 := Lib.hid (HT2.out.keep HM4.out.2 (fun y hy hy2 => by have := hy.1; have := hy2.2; omega))
        have HST := Lib.hid (fun q hq => State_any (q : Int) HM4.out.1 hq)
        have HSO := Lib.hid (fun q hq => State_any (q : Int) HC4.out hq)
        have hsv : ∀ q : Nat, q < 128 → (if a ≤ q ∧ q < a + b then stV ⟨m.h, setR m.S a b 2⟩ q = 2 else stV ⟨m.h, setR m.S a b 2⟩ q = stV m q) := fun q hq => by
          rw [stV_nat, stV_nat]
          by_cases e : a ≤ q ∧ q < a + b
          · rw [if_pos e, if_pos (show q < 16 * m.h by omega)]
            show ((setR m.S a b 2 q : Nat) : Int) = 2
            unfold setR
            rw [if_pos e]; rfl
          · rw [if_neg e]
            show (if q < 16 * m.h then ((setR m.S a b 2 q : Nat) : Int) else -1) = _
            unfold setR
            rw [if_neg e]
        have HSV := Lib.hid hsv
        clear hM4 hU2 q1 q2 hsv HM3
        go_wp2_with fail
        go_loopw [13] (fun i wr => ∃ q : Nat, q ≤ 128 ∧ i = .int .i64 q ∧ w4 = wr) (fun i _ => 128 - (intOf i).toNat)
        case atStart => exact ⟨0, by omega, rfl, rfl⟩
        case round =>
          obtain ⟨q, hq, rfl, rfl⟩ := hrel
          by_cases hlt : q < 128
          · have hv := HSV.out q hlt
            have HS1 := Lib.hid (HST.out q ⟨by omega, by omega⟩)
            have HS2 := Lib.hid (HSO.out q ⟨by omega, by omega⟩)
            generalize stV ⟨m.h, setR m.S a b 2⟩ q = u at hv HS1
            generalize stV m q = v at hv HS2
            by_cases e1 : a ≤ q
            · have e1' : (a : Int) ≤ (q : Int) := by omega
              by_cases e2 : q < a + b
              · rw [if_pos ⟨e1, e2⟩] at hv
                subst hv
                have e3 : (q : Int) - (a : Int) < (b : Int) := by omega
                go_wp2_with fail
                refine HS1.out.mono ?_
                rintro e _ ⟨rfl, rfl⟩
                go_wp2_with fail
                go_roundw
                case rel => exact ⟨q + 1, by omega, by go_num, trivial⟩
                case measure => simp [intOf]; omega
              · rw [if_neg (by omega)] at hv
                subst hv
                have e3 : ¬ (q : Int) - (a : Int) < (b : Int) := by omega
                go_wp2_with fail
                refine HS1.out.mono ?_
                rintro e _ ⟨rfl, rfl⟩
                go_wp2_with fail
                refine HS2.out.mono ?_
                rintro e _ ⟨rfl, rfl⟩
                go_wp2_with fail
                go_roundw
                case rel => exact ⟨q + 1, by omega, by go_num, trivial⟩
                case measure => simp [intOf]; omega
            · rw [if_neg (by omega)] at hv
              subst hv
              have e1' : ¬ (a : Int) ≤ (q : Int) := by omega
              go_wp2_with fail
              refine HS1.out.mono ?_
              rintro e _ ⟨rfl, rfl⟩
              go_wp2_with fail
              refine HS2.out.mono ?_
              rintro e _ ⟨rfl, rfl⟩
              go_wp2_with fail
              go_roundw
              case rel => exact ⟨q + 1, by omega, by go_num, trivial⟩
              case measure => simp [intOf]; omega
          · go_wp2_with fail
            refine (HAL.out _).mono ?_
            rintro e w9 ⟨rfl, hb9⟩
            go_wp2_with fail
            go_ret
            exact ⟨rfl, btr (HM4.out.bel HB2.out nwlo) hb9 (Nat.le_refl _)⟩
      · rw [chD_of hE] at hU
        generalize chE m s k pU = E at hU hE
        have q : (E != 0) = true := by simpa using hE
        have q2 : (E == 0) = false := by simpa using hE
        clear hE
        refine hU.mono ?_
        rintro e w3 ⟨rfl, hM3⟩
        have HM3 := Lib.hid hM3
        have HC3 := Lib.hid (HT2.out.keep hM3.2 (fun y hy hy2 => by have := hy.1; have := hy2.2; omega))
        have hal := alike_any hM3.1 HC3.out
        rw [alB_self] at hal
        have HAL1 := Lib.hid hal
        clear hM3 hal hU
        go_wp2_with fail
        refine HAL1.out.mono ?_
        rintro e _ ⟨rfl, rfl⟩
        go_wp2_with fail
        refine (HAL.out _).mono ?_
        rintro e w9 ⟨rfl, hb9⟩
        go_wp2_with fail
        go_ret
        exact ⟨rfl, btr (HM3.out.bel HB2.out nwlo) hb9 (Nat.le_refl _)⟩

end Go.Proofs.Ytecfjibmpbgllaa
