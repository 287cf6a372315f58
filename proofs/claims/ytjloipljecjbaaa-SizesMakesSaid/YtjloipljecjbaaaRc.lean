/- The document's own answers: the class of a request, its slack, the worst size. -/
import Derived.Test.YtjloipljecjbaaaRb
namespace Go.Proofs.Ytjloipljecjbaaa
open Go.RowKit

set_option maxRecDepth 100000 in
set_option maxHeartbeats 1000000 in
theorem RClass_any (A : Option Addr) (cap : Nat) (t : List Cl) (sz al : Int) (w : World) (hl : t.length ≤ 9223372036854775807) (hT : TabAt w w.heap.size A t) :
    Calls Try.prog 26 #[.slice A t.length cap, .int .i64 sz, .int .i64 al] w fun e w' => e = .returned (.tuple #[.int .i64 (clsV t sz al), .int .i64 (clsE t sz al)]) ∧ Below w.heap.size w w' := by
  have hV := RValid_any A cap t
  cases hok : okT t
  · have e1 : clsV t sz al = 0 := by unfold clsV; rw [hok]; rfl
    have e2 : clsE t sz al = 2 := by unfold clsE; rw [hok]; rfl
    have E1 := Lib.hid e1
    have E2 := Lib.hid e2
    clear e1 e2
    have HV := Lib.hid hV
    have HT := Lib.hid hT
    clear hV hT
    go_enter Try.func26, Try.ntmps26
    go_wp2_with (go_at_call 19; refine (HV.out _ hl HT.out).mono ?_; rintro e w1 ⟨rfl, hb1⟩)
    go_ret2
    exact ⟨ret_two E1.out.symm E2.out.symm, hb1⟩
  · by_cases hsz : 1 ≤ sz
    · cases hal : alB al
      · have e1 : clsV t sz al = 0 := by unfold clsV; rw [hal, if_neg (by simp)]
        have e2 : clsE t sz al = 1 := by unfold clsE; rw [if_pos hok, hal, if_neg (by simp)]
        have E1 := Lib.hid e1
        have E2 := Lib.hid e2
        clear e1 e2
        have HV := Lib.hid hV
        have HT := Lib.hid hT
        clear hV hT
        go_enter Try.func26, Try.ntmps26
        go_wp2_with (first | (go_at_call 19; refine (HV.out _ hl HT.out).mono ?_; rintro e w1 ⟨rfl, hb1⟩) | (go_at_call 39; refine (Power_any _ _).mono ?_; rintro e w' ⟨rfl, rfl⟩))
        go_ret2
        exact ⟨ret_two E1.out.symm E2.out.symm, hb1⟩
      · have hap := alB_pos hal
        have hpos : ∀ k, k < t.length → 8 ≤ (t.getD k default).s := fun k hk => (okT_pos hok hk).1
        have HP := Lib.hid hpos
        clear hpos
        have e1 : clsV t sz al = ((fnd t sz al).getD 0 : Nat) := by unfold clsV; rw [if_pos ⟨hok, hsz, hal⟩]
        have e2 : clsE t sz al = if (fnd t sz al).isSome = true then 0 else 4 := by unfold clsE; rw [if_pos hok, if_pos ⟨hsz, hal⟩]
        have E1 := Lib.hid e1
        have E2 := Lib.hid e2
        clear e1 e2
        obtain ⟨n, hn⟩ : ∃ n : Nat, n = t.length := ⟨_, rfl⟩
        have HN := Lib.hid hn
        have HV := Lib.hid hV
        have HT := Lib.hid hT
        rw [← hn] at hl ⊢
        rw [← hn] at HV
        clear hV hT hn
        have hs0 : decide (sz < 1) = false := decide_eq_false (by omega)
        go_enter Try.func26, Try.ntmps26
        go_wp2_with (first | (go_at_call 19; refine (HV.out _ (by have := HN.out; omega) HT.out).mono ?_; rintro e w1 ⟨rfl, hb1⟩) | (go_at_call 39; refine (Power_any _ _).mono ?_; rintro e w' ⟨rfl, rfl⟩))
        go_loopw [8] (fun i wr => ∃ k : Nat, k ≤ n ∧ i = .int .i64 k ∧ NoFit t sz al k ∧ Below w.heap.size w wr) (fun i _ => n - (intOf i).toNat)
        case atStart => exact ⟨0, by omega, rfl, fun _ h => absurd h (by omega), hb1⟩
        case round =>
          obtain ⟨k, hk, rfl, hall, hB⟩ := hrel
          have HA := Lib.hid hall
          clear hall hb1
          by_cases hlt : k < n
          · have hk' : k < t.length := by have := HN.out; omega
            obtain ⟨⟨cs, cp, cb⟩, hc⟩ : ∃ c, t[k]? = some c := ⟨_, List.getElem?_eq_getElem hk'⟩
            have hg : t.getD k default = ⟨cs, cp, cb⟩ := by rw [List.getD_eq_getElem?_getD, hc]; rfl
            obtain ⟨bk, o, rfl, hab, g1, g2, g3⟩ := (HT.out.below hB) k _ hc
            dsimp only at g1 g2 g3
            have at1 : fitAt t sz al k = (decide (sz ≤ cs) && decide (cs % al = 0)) := by unfold fitAt; rw [hg]
            have A1 := Lib.hid at1
            have hcs : 8 ≤ cs := by have h8 := HP.out k hk'; rw [hg] at h8; exact h8
            clear hg hc at1
            have HK := Lib.hid hk'
            clear hk'
            by_cases hge : sz ≤ cs
            · by_cases hmod : cs % al = 0
              · have hm : (cs % al == 0) = true := by rw [hmod]; rfl
                have hft := fnd_some HK.out HA.out (by rw [A1.out, decide_eq_true hge, decide_eq_true hmod]; rfl)
                have FT := Lib.hid hft
                clear hmod hft
                go_wp2
                go_ret2
                exact ⟨ret_two (by rw [E1.out, FT.out]; rfl) (by rw [E2.out, FT.out]; rfl), hB⟩
              · have hm : (cs % al == 0) = false := by simpa using hmod
                have hx : fitAt t sz al k = false := by rw [A1.out, decide_eq_false hmod, Bool.and_false]
                have HX := Lib.hid hx
                clear hmod hx
                go_wp2
                go_roundw
                case rel => exact ⟨k + 1, by omega, by go_num, HA.out.snoc HX.out, hB⟩
                case measure => simp [intOf]; omega
            · have hx : fitAt t sz al k = false := by rw [A1.out, decide_eq_false hge]; rfl
              have HX := Lib.hid hx
              clear hx
              go_wp2
              go_roundw
              case rel => exact ⟨k + 1, by omega, by go_num, HA.out.snoc HX.out, hB⟩
              case measure => simp [intOf]; omega
          · go_wp2
            go_ret2
            obtain rfl : k = n := by omega
            have hft := fnd_none (t := t) (sz := sz) (al := al) (by rw [← HN.out]; exact HA.out)
            exact ⟨ret_two (by rw [E1.out, hft]; rfl) (by rw [E2.out, hft]; rfl), hB⟩
    · have e1 : clsV t sz al = 0 := by unfold clsV; rw [if_neg (by omega)]
      have e2 : clsE t sz al = 1 := by unfold clsE; rw [if_pos hok, if_neg (by omega)]
      have E1 := Lib.hid e1
      have E2 := Lib.hid e2
      clear e1 e2
      have HV := Lib.hid hV
      have HT := Lib.hid hT
      clear hV hT
      go_enter Try.func26, Try.ntmps26
      go_wp2_with (go_at_call 19; refine (HV.out _ hl HT.out).mono ?_; rintro e w1 ⟨rfl, hb1⟩)
      go_ret2
      exact ⟨ret_two E1.out.symm E2.out.symm, hb1⟩

set_option maxRecDepth 100000 in
set_option maxHeartbeats 1000000 in
theorem RSlack_any (A : Option Addr) (cap : Nat) (t : List Cl) (sz : Int) (w : World) (hl : t.length ≤ 9223372036854775807) (hT : TabAt w w.heap.size A t) :
    Calls Try.prog 28 #[.slice A t.length cap, .int .i64 sz] w fun e w' => e = .returned (.tuple #[.int .i64 (slkV t sz), .int .i64 (clsE t sz 1)]) ∧ Below w.heap.size w w' := by
  have hC := RClass_any A cap t sz 1 w hl hT
  by_cases h0 : clsE t sz 1 = 0
  · obtain ⟨hok, h1, _, k, hk, _, hv, hle⟩ := clsE_ok h0
    obtain ⟨⟨cs, cp, cb⟩, hc⟩ : ∃ c, t[k]? = some c := ⟨_, List.getElem?_eq_getElem hk⟩
    have hg : t.getD k default = ⟨cs, cp, cb⟩ := by rw [List.getD_eq_getElem?_getD, hc]; rfl
    have e1 : slkV t sz = cs - sz := by unfold slkV; rw [if_pos h0, hv, Int.toNat_natCast, hg]
    have hb := okT_pos hok hk
    rw [hg] at hb hle
    dsimp only at hb hle
    obtain ⟨hb1, hb2⟩ := hb
    obtain ⟨bk, o, rfl, hab, g1, g2, g3⟩ := hT k _ hc
    dsimp only at g1 g2 g3
    rw [hv, h0] at hC
    rw [h0, e1]
    obtain ⟨n, hn⟩ : ∃ n : Nat, n = t.length := ⟨_, rfl⟩
    rw [← hn] at hC hk hl ⊢
    clear h0 hv hc hg e1 hn hT hok
    have HC := Lib.hid hC
    clear hC
    go_enter Try.func28, Try.ntmps28
    go_wp2_with (go_at_call 26; refine HC.out.mono ?_; rintro e w1 ⟨rfl, hb1⟩; have d1 := hb1.cell (p := ⟨bk, o + k * 3, none⟩) hab)
    go_ret2
    exact ⟨rfl, hb1⟩
  · have e1 : slkV t sz = 0 := by unfold slkV; rw [if_neg h0]
    rw [e1]
    generalize clsE t sz 1 = E at hC h0 ⊢
    have hq : (E == 0) = false := by simpa using h0
    have hq2 : (E != 0) = true := by simpa using h0
    have HC := Lib.hid hC
    clear hC hT h0 e1
    go_enter Try.func28, Try.ntmps28
    go_wp2_with (go_at_call 26; refine HC.out.mono ?_; rintro e w1 ⟨rfl, hb1⟩)
    go_ret2
    exact ⟨rfl, hb1⟩

set_option maxRecDepth 100000 in
set_option maxHeartbeats 1000000 in
theorem RWorst_any (A : Option Addr) (cap : Nat) (t : List Cl) (w : World) (hl : t.length ≤ 9223372036854775807) (hT : TabAt w w.heap.size A t) :
    Calls Try.prog 30 #[.slice A t.length cap] w fun e w' => e = .returned (.tuple #[.int .i64 (wstA t), .int .i64 (wstM t), .int .i64 (wstE t)]) ∧ Below w.heap.size w w' := by
  have hV := RValid_any A cap t w hl hT
  cases hok : okT t
  · have e1 : wstA t = 0 := by unfold wstA; rw [hok]; rfl
    have e2 : wstM t = 0 := by unfold wstM; rw [hok]; rfl
    have e3 : wstE t = 2 := by unfold wstE; rw [hok]; rfl
    have E1 := Lib.hid e1
    have E2 := Lib.hid e2
    have E3 := Lib.hid e3
    clear e1 e2 e3
    have HV := Lib.hid hV
    clear hV hT
    go_enter Try.func30, Try.ntmps30
    go_wp2_with (go_at_call 19; refine HV.out.mono ?_; rintro e w1 ⟨rfl, hb1⟩)
    go_ret3
    exact ⟨ret_three E1.out.symm E2.out.symm E3.out.symm, hb1⟩
  · have e1 : wstA t = (wst t (lastS t).toNat).1 := by unfold wstA; rw [if_pos hok]
    have e2 : wstM t = (wst t (lastS t).toNat).2 := by unfold wstM; rw [if_pos hok]
    have e3 : wstE t = 0 := by unfold wstE; rw [if_pos hok]
    have hlen := okT_len hok
    obtain ⟨⟨ls, lp, lb⟩, hc⟩ : ∃ c, t[t.length - 1]? = some c := ⟨_, List.getElem?_eq_getElem (by omega)⟩
    have hls : lastS t = ls := by unfold lastS; rw [List.getD_eq_getElem?_getD, hc]; rfl
    have hbd := lastS_bd hok
    rw [hls] at e1 e2 hbd
    obtain ⟨m, rfl⟩ := Int.eq_ofNat_of_zero_le (a := ls) (by omega)
    rw [Int.toNat_natCast] at e1 e2
    have E1 := Lib.hid e1
    have E2 := Lib.hid e2
    have E3 := Lib.hid e3
    obtain ⟨bk, o, rfl, hab, g1, g2, g3⟩ := hT _ _ hc
    dsimp only at g1 g2 g3
    obtain ⟨n, hn⟩ : ∃ n : Nat, n + 1 = t.length := ⟨t.length - 1, by omega⟩
    have hS := fun sz W hl' hT' => RSlack_any (some ⟨bk, o, none⟩) cap t sz W hl' hT'
    rw [← hn] at hl hlen hS hV g1 g2 g3 ⊢
    rw [Nat.add_sub_cancel] at g1 g2 g3
    have HN := Lib.hid hn
    have HS := Lib.hid hS
    have HV := Lib.hid hV
    have HT := Lib.hid hT
    obtain ⟨hl1, hl2⟩ := hlen
    obtain ⟨hm1, hm2⟩ := hbd
    clear e1 e2 e3 hV hT hn hS hc hls hl1
    go_enter Try.func30, Try.ntmps30
    go_wp2_with (go_at_call 19; refine HV.out.mono ?_; rintro e w1 ⟨rfl, hb1⟩; have d1 := hb1.cell (p := ⟨bk, o + n * 3, none⟩) hab)
    go_loopw [5, 6, 7] (fun a b i wr => ∃ k : Nat, k ≤ m ∧ i = .int .i64 ((k : Int) + 1) ∧ a = .int .i64 (wst t k).1 ∧ b = .int .i64 (wst t k).2 ∧ Below w.heap.size w wr) (fun _ _ i _ => m + 1 - (intOf i).toNat)
    case atStart => exact ⟨0, by omega, rfl, rfl, rfl, hb1⟩
    case round =>
      obtain ⟨k, hk, rfl, rfl, rfl, hB⟩ := hrel
      have d2 := (hB.cell (p := ⟨bk, o + n * 3, none⟩) hab).trans g1
      clear hb1 d1 g1 g2 g3
      by_cases hlt : k < m
      · obtain ⟨p0, p1, p2, p3⟩ := wst_bd t k (by omega)
        obtain ⟨q0, q1⟩ := slkV_bd' t ((k : Int) + 1)
        have hnx : wst t (k + 1) = if clsE t ((k : Int) + 1) 1 = 0 ∧ (wst t k).2 * ((k : Int) + 1) < slkV t ((k : Int) + 1) * (wst t k).1 then ((k : Int) + 1, slkV t ((k : Int) + 1)) else wst t k := rfl
        have hSl := HS.out ((k : Int) + 1) wr (by have := HN.out; omega) ((HT.out.below hB).more hB.size)
        generalize hE : clsE t ((k : Int) + 1) 1 = E at hnx hSl
        have hV0 : E ≠ 0 → slkV t ((k : Int) + 1) = 0 := fun h => by unfold slkV; rw [if_neg (by rw [hE]; exact h)]
        generalize hV : slkV t ((k : Int) + 1) = V at hnx hSl q0 q1 hV0
        obtain ⟨a, ha⟩ : ∃ a, (wst t k).1 = a := ⟨_, rfl⟩
        obtain ⟨M, hM⟩ : ∃ M, (wst t k).2 = M := ⟨_, rfl⟩
        rw [ha, hM] at hnx
        rw [ha] at p0 p1
        rw [hM] at p2 p3
        rw [ha, hM]
        have HA := Lib.hid ha
        have HM := Lib.hid hM
        have HSL := Lib.hid hSl
        have r1 := mul_bd (a := V) (b := a) q0 (by omega) (by omega) p1
        have r2 := mul_bd (a := M) (b := (k : Int) + 1) p2 (by omega) (by omega) (by omega)
        obtain ⟨r3, r4⟩ := r1
        obtain ⟨r5, r6⟩ := r2
        clear hE hV ha hM hSl
        by_cases hE : E = 0
        · by_cases hgt : M * ((k : Int) + 1) < V * a
          · rw [if_pos ⟨hE, hgt⟩] at hnx
            have HX := Lib.hid hnx
            clear hnx hE hV0
            go_wp2_with (go_at_call 28; refine HSL.out.mono ?_; rintro e w2 ⟨rfl, hb2⟩)
            go_roundw
            case rel => exact ⟨k + 1, by omega, by go_num, by rw [HX.out], by rw [HX.out], btr hB hb2 (Nat.le_refl _)⟩
            case measure => simp [intOf]; omega
          · rw [if_neg (fun h => hgt h.2)] at hnx
            have HX := Lib.hid hnx
            clear hnx hE hV0
            go_wp2_with (go_at_call 28; refine HSL.out.mono ?_; rintro e w2 ⟨rfl, hb2⟩)
            go_roundw
            case rel => exact ⟨k + 1, by omega, by go_num, by rw [HX.out, HA.out], by rw [HX.out, HM.out], btr hB hb2 (Nat.le_refl _)⟩
            case measure => simp [intOf]; omega
        · rw [if_neg (fun h => hE h.1)] at hnx
          have HX := Lib.hid hnx
          have v0 := hV0 hE
          have hq : ¬ M * ((k : Int) + 1) < V * a := by rw [v0, Int.zero_mul]; omega
          clear v0 hV0
          clear hnx hE
          go_wp2_with (go_at_call 28; refine HSL.out.mono ?_; rintro e w2 ⟨rfl, hb2⟩)
          go_roundw
          case rel => exact ⟨k + 1, by omega, by go_num, by rw [HX.out, HA.out], by rw [HX.out, HM.out], btr hB hb2 (Nat.le_refl _)⟩
          case measure => simp [intOf]; omega
      · go_wp2
        go_ret3
        obtain rfl : k = m := by omega
        exact ⟨ret_three E1.out.symm E2.out.symm E3.out.symm, hB⟩

end Go.Proofs.Ytjloipljecjbaaa
