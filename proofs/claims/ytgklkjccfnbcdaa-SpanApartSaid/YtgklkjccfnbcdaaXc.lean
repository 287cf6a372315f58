/- The statement about objects apart: what its call returns. -/
import Derived.Test.YtgklkjccfnbcdaaXa
namespace Go.Proofs.Ytgklkjccfnbcdaa
open Go.RowKit

/-- A new span's numbers. -/
structure Nm (S Z G T n : Nat) : Prop where
  wf : WF ⟨S, Z, G, T, n, fun _ => false⟩
theorem tail_ix {S Z G T n : Nat} (h : Nm S Z G T n) : ixE (some ⟨S, Z, G, T, n, fun _ => false⟩) (((S : Int) + G) * 256 - 1) = if (n : Int) * Z < (G : Int) * 256 then 8 else 0 := by
  have hz := h.wf.z1
  have hn := h.wf.n1
  have hnz := h.wf.nz
  dsimp only at hz hn hnz
  split
  · rename_i ht
    refine ixE_none (idO_none h.wf fun k hk hh => ?_)
    have h1 : adr ⟨S, Z, G, T, n, fun _ => false⟩ k + Z ≤ adr ⟨S, Z, G, T, n, fun _ => false⟩ n := adr_lt hk
    unfold adr at h1 hh
    dsimp only at h1 hh
    have e1 : ((n * Z : Nat) : Int) = (n : Int) * Z := Int.natCast_mul _ _
    generalize n * Z = q at *
    generalize k * Z = q2 at *
    omega
  · rename_i ht
    have e1 : ((n * Z : Nat) : Int) = (n : Int) * Z := Int.natCast_mul _ _
    obtain ⟨j, rfl⟩ : ∃ j, n = j + 1 := ⟨n - 1, by omega⟩
    refine ixE_some (k := j) (idO_some h.wf (by show j < j + 1; omega) ?_ ?_)
    · unfold adr
      dsimp only
      rw [Nat.add_mul, Nat.one_mul] at e1 hnz
      generalize j * Z = q at *
      omega
    · unfold adr
      dsimp only
      rw [Nat.add_mul, Nat.one_mul] at e1 hnz
      generalize j * Z = q at *
      omega
theorem div_pow {S Z I j : Nat} (hj : j ≤ 8) (hz : Z % 2 ^ j = 0) : (S * 256 + I * Z) % 2 ^ j = 0 := by
  have h1 : 2 ^ j ∣ 256 := by
    have := Nat.pow_dvd_pow 2 hj
    simpa using this
  have h2 : 2 ^ j ∣ Z := Nat.dvd_of_mod_eq_zero hz
  exact Nat.mod_eq_zero_of_dvd (Nat.dvd_add (Nat.dvd_mul_left_of_dvd h1 _) (Nat.dvd_mul_left_of_dvd h2 _))

set_option maxRecDepth 100000 in
set_option maxHeartbeats 4000000 in
theorem apart_walk (st s p b : Int) (i more : Int) (w : World) (hi : InR i) (hm : InR more) :
    Calls Try.prog 5 #[.int .i64 st, .agg #[.int .i64 s, .int .i64 p, .int .i64 b], .int .i64 i, .int .i64 more] w (Yes w) := by
  have HAL := Lib.hid alive_any
  obtain ⟨W0, hW, hb0, hz, x0, x1, x2⟩ := new3 w (.int .i64 s) (.int .i64 p) (.int .i64 b) 23
  have HB0 := Lib.hid hb0
  have HX := Lib.hid (fun (w1 : World) (hb1 : Below W0.heap.size W0 w1) => And.intro ((hb1.cell (p := ⟨w.heap.size, 0, none⟩) (Nat.lt_of_succ_le hz)).trans x0) (And.intro ((hb1.cell (p := ⟨w.heap.size, 1, none⟩) (Nat.lt_of_succ_le hz)).trans x1) ((hb1.cell (p := ⟨w.heap.size, 2, none⟩) (Nat.lt_of_succ_le hz)).trans x2)))
  have HMD := Lib.hid (show Calls Try.prog 18 #[.int .i64 st, .agg #[.int .i64 s, .int .i64 p, .int .i64 b], .slice none 0 0] W0 (MadeP W0 (newO st ⟨s, p, b⟩)) from made'_any st s p b none 0 [] W0 (by decide) (ActsAt.nil _ _))
  clear hb0 hz
  by_cases hf : fitB st ⟨s, p, b⟩ = true
  · rw [show newO st ⟨s, p, b⟩ = some (newM st ⟨s, p, b⟩) from if_pos hf] at HMD
    have hwf := newM_wf hf
    obtain ⟨hok, f1, f2⟩ := fit_get hf
    obtain ⟨a1, a2, a3, a4, a5, a6, a7, a8⟩ := okC_bd hok
    dsimp only at f2 a1 a2 a3 a4 a5 a6 a7 a8
    have HO := Lib.hid (fun W => RObjects_any s p b W a4 a5 a1 a2)
    have HT := Lib.hid (fun W => RTail_any s p b W a4 a5 a1 a2)
    obtain ⟨S, rfl⟩ : ∃ S : Nat, st = (S : Int) := ⟨st.toNat, by omega⟩
    obtain ⟨Z, rfl⟩ : ∃ S : Nat, s = (S : Int) := ⟨s.toNat, by omega⟩
    obtain ⟨G, rfl⟩ : ∃ S : Nat, p = (S : Int) := ⟨p.toNat, by omega⟩
    obtain ⟨T, rfl⟩ : ∃ S : Nat, b = (S : Int) := ⟨b.toNat, by omega⟩
    have hn1 := hwf.n1
    have hn2 := hwf.n2
    have hnz := hwf.nz
    have hme : newM (S : Int) ⟨Z, G, T⟩ = ⟨S, Z, G, T, G * 256 / Z, fun _ => false⟩ := rfl
    rw [hme] at hwf hn1 hn2 hnz HMD
    rw [show (G : Int) * 256 / Z = ((G * 256 / Z : Nat) : Int) from rfl] at HO HT
    dsimp only at hn1 hn2 hnz
    obtain ⟨n, hn⟩ : ∃ n, G * 256 / Z = n := ⟨_, rfl⟩
    rw [hn] at hn1 hn2 hnz hwf HO HT HMD
    have HNM := Lib.hid (Nm.mk hwf)
    obtain ⟨m, hmm⟩ : ∃ m : Mo, m = ⟨S, Z, G, T, n, fun _ => false⟩ := ⟨_, rfl⟩
    rw [← hmm] at HMD
    have HOB := Lib.hid (fun (W : World) (O : Nat → Prop) (v : Value) (h : Ob false W O v (some m)) => show Calls Try.prog 19 #[v] W fun e w' => e = .returned (.int .i64 (n : Int)) ∧ W = w' from by
      have := Objects_any h
      rwa [show numO (some m) = n by rw [hmm]; rfl] at this)
    have HMM := Lib.hid hmm
    clear hmm
    clear hme hf hok hn
    by_cases hin : 0 ≤ i ∧ i < n
    · obtain ⟨I, rfl⟩ : ∃ I : Nat, i = (I : Int) := ⟨i.toNat, by omega⟩
      have hIn : I < n := by omega
      have e1 : (I : Int) * Z = ((I * Z : Nat) : Int) := (Int.natCast_mul _ _).symm
      have hIZ : I * Z + Z ≤ n * Z := by
        have := Nat.mul_le_mul_right Z (show I + 1 ≤ n from hIn)
        rwa [Nat.add_mul, Nat.one_mul] at this
      have hq1 : decide ((I : Int) < 0) = false := decide_eq_false (by omega)
      have hq2 : decide ((n : Int) ≤ I) = false := decide_eq_false (by omega)
      have hq2' : decide (n ≤ I) = false := decide_eq_false (by omega)
      obtain ⟨Q, hQ⟩ : ∃ Q, I * Z = Q := ⟨_, rfl⟩
      obtain ⟨QN, hQN⟩ : ∃ Q, n * Z = Q := ⟨_, rfl⟩
      rw [hQ] at e1 hIZ
      rw [hQN] at hIZ hnz
      have E1 := Lib.hid (w64 ((S : Int) * 256) (by omega))
      have E2 := Lib.hid (w64 (Q : Int) (by omega))
      have E3 := Lib.hid (w64 ((S : Int) * 256 + Q) (by omega))
      have E4 := Lib.hid (w64 ((S : Int) * 256 + Q + Z) (by omega))
      have E5 := Lib.hid (w64 ((S : Int) + G) (by omega))
      have E6 := Lib.hid (w64 (((S : Int) + G) * 256) (by omega))
      have hq3 : decide ((S : Int) * 256 + Q < (S : Int) * 256) = false := decide_eq_false (by omega)
      have hq4 : decide (((S : Int) + G) * 256 < (S : Int) * 256 + Q + Z) = false := decide_eq_false (by omega)
      have HVV := Lib.hid (And.intro hIZ hnz)
      have HBD := Lib.hid (And.intro a1 (And.intro a2 (And.intro f1 f2)))
      have HQ := Lib.hid hQ
      have had : (adr ⟨S, Z, G, T, n, fun _ => false⟩ I : Int) = (S : Int) * 256 + Q := by
        show ((S * 256 + I * Z : Nat) : Int) = _
        rw [hQ]
        omega
      have HIX0 := Lib.hid (fun (R : Nat) (hR : R < Z) => idO_some hwf (a := (S : Int) * 256 + Q + R) (k := I) hIn (by rw [had]; omega) (by rw [had]; show _ < _ + (Z : Int); omega))
      have HOB0 := Lib.hid (obO_some hwf (a := (S : Int) * 256 + Q) (k := I) hIn had.symm)
      clear had
      obtain ⟨v1, v2⟩ := E1.out
      obtain ⟨v3, v4⟩ := E2.out
      obtain ⟨v5, v6⟩ := E3.out
      obtain ⟨v7, v8⟩ := E4.out
      obtain ⟨v9, v10⟩ := E5.out
      obtain ⟨v11, v12⟩ := E6.out
      clear hin hIn hn1 hn2 hnz hwf a1 a2 a3 a4 a5 a6 a7 a8 f1 f2 hIZ hQ hQN hi
      go_enter Try.func5, Try.ntmps5
      go_wp2_with (first | (go_at_call 18; refine HMD.out.mono ?_; intro e w2 hm; obtain ⟨B, rfl, ho⟩ := hm.yes; have HO2 := Lib.hid ho; obtain ⟨y0, y1, y2⟩ := HX.out _ ho.2; clear hm ho x0 x1 x2) | (go_at_call 19; refine (HOB.out _ _ _ HO2.out.1).mono ?_; rintro e _ ⟨rfl, rfl⟩))
      refine (HO.out _).mono ?_
      rintro e w3 ⟨rfl, hb⟩
      have HO3 := Lib.hid (HO2.out.below hb)
      obtain ⟨z0, z1, z2⟩ := HX.out _ HO3.out.2
      clear y0 y1 y2 HO2 hb
      go_wp2_with fail
      clear v1 v2 v3 v4 v5 v6 v7 v8 v9 v10 v11 v12 hq3 hq4 e1
      go_loopw [12] (fun p wr => ∃ j : Nat, j ≤ 9 ∧ p = .int .i64 ((2 ^ j : Nat) : Int) ∧ wr = w3) (fun p _ => 513 - (intOf p).toNat)
      case atStart => exact ⟨0, by omega, rfl, rfl⟩
      case round =>
        obtain ⟨j, hj, rfl, rfl⟩ := hrel
        by_cases hj8 : j ≤ 8
        · have hp := Nat.pow_le_pow_right (show 0 < 2 by omega) hj8
          have hp1 := Nat.one_le_two_pow (n := j)
          have HD := Lib.hid (fun (h : Z % 2 ^ j = 0) => div_pow (S := S) (I := I) hj8 h)
          have HP2 := Lib.hid (show 2 * 2 ^ j = 2 ^ (j + 1) by rw [Nat.pow_succ, Nat.mul_comm])
          rw [HQ.out] at HD
          generalize hP : 2 ^ j = P at *
          clear hP
          have hle : decide ((P : Int) ≤ 256) = true := decide_eq_true (by omega)
          have hp0 : ((P : Int) == 0) = false := by simp; omega
          have E2 := Lib.hid (w64 (2 * (P : Int)) (by omega))
          by_cases hz : Z % P = 0
          · have h1 : (((Z : Int) % (P : Int)) == 0) = true := by simp; omega
            have h2' := HD.out hz
            have h2 : ((((S : Int) * 256 + Q) % (P : Int)) != 0) = false := by
              rw [show (S : Int) * 256 + Q = ((S * 256 + Q : Nat) : Int) from by omega, ← Int.natCast_emod, h2']
              rfl
            clear hz h2'
            obtain ⟨u1, u2⟩ := E2.out
            go_wp2_with fail
            go_roundw
            case rel => exact ⟨j + 1, by omega, by rw [← HP2.out]; congr 1, trivial⟩
            case measure => simp [intOf]; omega
          · have h1 : (((Z : Int) % (P : Int)) == 0) = false := by simp; omega
            clear hz
            obtain ⟨u1, u2⟩ := E2.out
            go_wp2_with fail
            go_roundw
            case rel => exact ⟨j + 1, by omega, by rw [← HP2.out]; congr 1, trivial⟩
            case measure => simp [intOf]; omega
        · obtain rfl : j = 9 := by omega
          have hle : decide (((2 ^ 9 : Nat) : Int) ≤ 256) = false := decide_eq_false (by decide)
          generalize ((2 ^ 9 : Nat) : Int) = P at *
          clear hj hj8
          by_cases hmr : 0 ≤ more ∧ more < Z
          · obtain ⟨R, rfl⟩ : ∃ R : Nat, more = (R : Int) := ⟨more.toNat, by omega⟩
            have hr1 : decide ((R : Int) < 0) = false := decide_eq_false (by omega)
            have hr2 : decide ((Z : Int) ≤ R) = false := decide_eq_false (by omega)
            have hr3 : decide (Z ≤ R) = false := decide_eq_false (by omega)
            have HIX := Lib.hid (fun (W : World) (O : Nat → Prop) (v : Value) (h : Ob false W O v (some m)) => show Calls Try.prog 21 #[v, .int .i64 ((S : Int) * 256 + Q + R)] W fun e w' => e = .returned (.tuple #[.int .i64 (I : Int), .int .i64 0]) ∧ Below W.heap.size W w' from by
              have hb := HBD.out
              have hv := HVV.out
              have := Index_any h ((S : Int) * 256 + Q + R) ⟨by omega, by omega⟩
              have hi := HIX0.out R (by omega)
              rw [HMM.out] at this
              rwa [ixV_some hi, ixE_some hi] at this)
            have HIS := Lib.hid (fun (W : World) (O : Nat → Prop) (v : Value) (h : Ob false W O v (some m)) => show Calls Try.prog 23 #[v, .int .i64 ((S : Int) * 256 + Q)] W fun e w' => e = .returned (.tuple #[.bool false, .int .i64 0]) ∧ Below W.heap.size W w' from by
              have hb := HBD.out
              have hv := HVV.out
              have := IsTaken_any h ((S : Int) * 256 + Q) ⟨by omega, by omega⟩
              rw [HMM.out] at this
              rwa [isV_some HOB0.out, isE_some HOB0.out] at this)
            have E2 := Lib.hid (w64 ((S : Int) * 256 + Q + R) (by have hb := HBD.out; have hv := HVV.out; omega))
            clear hmr
            obtain ⟨u1, u2⟩ := E2.out
            go_wp2_with (first
              | (go_at_call 21; refine (HIX.out _ _ _ HO3.out.1).mono ?_; rintro e w4 ⟨rfl, hb⟩; have HO4 := Lib.hid (HO3.out.below hb); clear hb)
              | (go_at_call 23; refine (HIS.out _ _ _ HO4.out.1).mono ?_; rintro e w5 ⟨rfl, hb⟩; have HO5 := Lib.hid (HO4.out.below hb); clear hb)
              | (go_at_call 11; refine (HAL.out _).mono ?_; rintro e w9 ⟨rfl, hb⟩; have B9 := Lib.hid (btr HB0.out (btr HO5.out.2 hb (Nat.le_refl _)) (Nat.le_refl _)); clear hb))
            go_ret
            exact ⟨rfl, B9.out⟩
          · have hout : (decide (more < 0) = true) ∨ (decide (more < 0) = false ∧ decide ((Z : Int) ≤ more) = true) := by
              by_cases h : more < 0
              · exact .inl (decide_eq_true h)
              · exact .inr ⟨decide_eq_false h, decide_eq_true (by omega)⟩
            obtain ⟨TL, hTL⟩ : ∃ TL : Int, (G : Int) * 256 - (n : Int) * Z = TL := ⟨_, rfl⟩
            have HIX := Lib.hid (fun (W : World) (O : Nat → Prop) (v : Value) (h : Ob false W O v (some m)) => show Calls Try.prog 21 #[v, .int .i64 (((S : Int) + G) * 256 - 1)] W fun e w' => e = .returned (.tuple #[.int .i64 (ixV (some m) (((S : Int) + G) * 256 - 1)), .int .i64 (if 0 < TL then 8 else 0)]) ∧ Below W.heap.size W w' from by
              have hb := HBD.out
              have := Index_any h (((S : Int) + G) * 256 - 1) ⟨by omega, by omega⟩
              have hx := tail_ix HNM.out
              rw [← HMM.out] at hx
              rw [hx] at this
              rwa [show (if 0 < TL then (8 : Int) else 0) = (if (n : Int) * Z < (G : Int) * 256 then 8 else 0) from by simp only [show (0 < TL) ↔ (n : Int) * Z < (G : Int) * 256 from by omega]])
            rw [hTL] at HT
            generalize ixV (some m) (((S : Int) + G) * 256 - 1) = IV at HIX
            have E7 := Lib.hid (w64 ((S : Int) + G) (by have hb := HBD.out; omega))
            have E8 := Lib.hid (w64 (((S : Int) + G) * 256) (by have hb := HBD.out; omega))
            have E9 := Lib.hid (w64 (((S : Int) + G) * 256 - 1) (by have hb := HBD.out; omega))
            clear hmr hTL
            have ht : (decide (0 < TL) = true ∧ (if 0 < TL then (8 : Int) else 0) = 8) ∨ (decide (0 < TL) = false ∧ (if 0 < TL then (8 : Int) else 0) = 0) := by
              by_cases h : 0 < TL
              · exact .inl ⟨decide_eq_true h, if_pos h⟩
              · exact .inr ⟨decide_eq_false h, if_neg h⟩
            rcases ht with ⟨t1, t2⟩ | ⟨t1, t2⟩
            all_goals
              rw [t2] at HIX
              clear t2
              obtain ⟨u1, u2⟩ := E7.out
              obtain ⟨u3, u4⟩ := E8.out
              obtain ⟨u5, u6⟩ := E9.out
              rcases hout with q1 | ⟨q1, q2⟩
            all_goals
              go_wp2_with (first
                | (go_at_call 21; refine (HIX.out _ _ _ HO3.out.1).mono ?_; rintro e w4 ⟨rfl, hb⟩; have HO4 := Lib.hid (HO3.out.below hb); obtain ⟨y0, y1, y2⟩ := HX.out _ HO4.out.2; clear hb z0 z1 z2)
                | (go_at_call 22; refine (HT.out _).mono ?_; rintro e w5 ⟨rfl, hb⟩; have HO5 := Lib.hid (HO4.out.below hb); clear hb)
                | (go_at_call 11; refine (HAL.out _).mono ?_; rintro e w9 ⟨rfl, hb⟩; have B9 := Lib.hid (btr HB0.out (btr HO5.out.2 hb (Nat.le_refl _)) (Nat.le_refl _)); clear hb))
              go_ret
              exact ⟨rfl, B9.out⟩
    · have HB00 := HB0.out.size
      have hout : (decide (i < 0) = true) ∨ (decide (i < 0) = false ∧ decide ((n : Int) ≤ i) = true) := by
        by_cases h : i < 0
        · exact .inl (decide_eq_true h)
        · exact .inr ⟨decide_eq_false h, decide_eq_true (by omega)⟩
      clear hin hn1 hn2 hnz hwf HB00 a1 a2 a3 a4 a5 a6 a7 a8 f1 f2
      rcases hout with q1 | ⟨q1, q2⟩
      · go_enter Try.func5, Try.ntmps5
        go_wp2_with (first | (go_at_call 18; refine HMD.out.mono ?_; intro e w2 hm; obtain ⟨B, rfl, ho⟩ := hm.yes; have HO2 := Lib.hid ho; obtain ⟨y0, y1, y2⟩ := HX.out _ ho.2; clear hm ho x0 x1 x2) | (go_at_call 19; refine (HOB.out _ _ _ HO2.out.1).mono ?_; rintro e _ ⟨rfl, rfl⟩))
        refine (HO.out _).mono ?_
        rintro e w3 ⟨rfl, hb⟩
        have HO3 := Lib.hid (HO2.out.below hb)
        obtain ⟨z0, z1, z2⟩ := HX.out _ HO3.out.2
        clear y0 y1 y2 HO2 hb
        go_wp2_with fail
        refine (HO.out _).mono ?_
        rintro e w4 ⟨rfl, hb4⟩
        have HO4 := Lib.hid (HO3.out.below hb4)
        clear HO3 hb4 z0 z1 z2
        go_wp2_with fail
        refine (HAL.out _).mono ?_
        rintro e w9 ⟨rfl, hb⟩
        have B9 := Lib.hid (btr HB0.out (btr HO4.out.2 hb (Nat.le_refl _)) (Nat.le_refl _))
        clear hb
        go_wp2_with fail
        go_ret
        exact ⟨rfl, B9.out⟩
      · go_enter Try.func5, Try.ntmps5
        go_wp2_with (first | (go_at_call 18; refine HMD.out.mono ?_; intro e w2 hm; obtain ⟨B, rfl, ho⟩ := hm.yes; have HO2 := Lib.hid ho; obtain ⟨y0, y1, y2⟩ := HX.out _ ho.2; clear hm ho x0 x1 x2) | (go_at_call 19; refine (HOB.out _ _ _ HO2.out.1).mono ?_; rintro e _ ⟨rfl, rfl⟩))
        refine (HO.out _).mono ?_
        rintro e w3 ⟨rfl, hb⟩
        have HO3 := Lib.hid (HO2.out.below hb)
        obtain ⟨z0, z1, z2⟩ := HX.out _ HO3.out.2
        clear y0 y1 y2 HO2 hb
        go_wp2_with fail
        refine (HO.out _).mono ?_
        rintro e w4 ⟨rfl, hb4⟩
        have HO4 := Lib.hid (HO3.out.below hb4)
        clear HO3 hb4 z0 z1 z2
        go_wp2_with fail
        refine (HAL.out _).mono ?_
        rintro e w9 ⟨rfl, hb⟩
        have B9 := Lib.hid (btr HB0.out (btr HO4.out.2 hb (Nat.le_refl _)) (Nat.le_refl _))
        clear hb
        go_wp2_with fail
        go_ret
        exact ⟨rfl, B9.out⟩
  · rw [show newO st ⟨s, p, b⟩ = none from if_neg hf] at HMD
    clear hf
    go_enter Try.func5, Try.ntmps5
    go_wp2_with (first | (go_at_call 18; refine HMD.out.mono ?_; intro e w2 hm; obtain ⟨rfl, hb⟩ := hm.no; have B2 := Lib.hid (btr HB0.out hb (Nat.le_refl _)); clear hm hb) | (go_at_call 11; refine (HAL.out _).mono ?_; rintro e w3 ⟨rfl, hb⟩; have B3 := Lib.hid (btr B2.out hb (Nat.le_refl _)); clear hb))
    go_ret
    exact ⟨rfl, B3.out⟩

end Go.Proofs.Ytgklkjccfnbcdaa
