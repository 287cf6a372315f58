/- Tables of classes: what Slack and Worst return. -/
import Derived.Test.YtjloipljecjbaaaTb
namespace Go.Proofs.Ytjloipljecjbaaa
open Go.RowKit

def slkV (t : List Cl) (sz : Int) : Int := if clsE t sz 1 = 0 then (t.getD (clsV t sz 1).toNat default).s - sz else 0

theorem fnd_fit {t : List Cl} {sz al : Int} {k : Nat} (h : fnd t sz al = some k) : k < t.length ∧ fitAt t sz al k = true ∧ NoFit t sz al k := by
  unfold fnd at h
  rw [List.find?_range_eq_some] at h
  exact ⟨List.mem_range.1 h.2.1, h.1, fun j hj => by simpa using h.2.2 j hj⟩

/-- Where there is a class. -/
theorem clsE_ok {t : List Cl} {sz al : Int} (h : clsE t sz al = 0) : okT t = true ∧ 1 ≤ sz ∧ alB al = true ∧ ∃ k : Nat, k < t.length ∧ fnd t sz al = some k ∧ clsV t sz al = (k : Int) ∧ sz ≤ (t.getD k default).s := by
  unfold clsE at h
  by_cases h1 : okT t = true
  · rw [if_pos h1] at h
    by_cases h2 : 1 ≤ sz ∧ alB al = true
    · rw [if_pos h2] at h
      cases hf : fnd t sz al with
      | none => rw [hf] at h; simp at h
      | some k =>
        obtain ⟨hk, hfit, _⟩ := fnd_fit hf
        unfold fitAt at hfit
        rw [Bool.and_eq_true] at hfit
        exact ⟨h1, h2.1, h2.2, k, hk, rfl, by unfold clsV; rw [if_pos ⟨h1, h2.1, h2.2⟩, hf]; rfl, of_decide_eq_true hfit.1⟩
    · rw [if_neg h2] at h; simp at h
  · rw [if_neg h1] at h; simp at h

theorem clsE_ne (t : List Cl) (sz al : Int) : clsE t sz al = 0 ∨ clsE t sz al = 1 ∨ clsE t sz al = 2 ∨ clsE t sz al = 4 := by
  unfold clsE
  by_cases h1 : okT t = true
  · rw [if_pos h1]
    by_cases h2 : 1 ≤ sz ∧ alB al = true
    · rw [if_pos h2]
      by_cases h3 : (fnd t sz al).isSome = true
      · rw [if_pos h3]; omega
      · rw [if_neg h3]; omega
    · rw [if_neg h2]; omega
  · rw [if_neg h1]; omega

theorem slkV_bd {t : List Cl} {sz : Int} (h : clsE t sz 1 = 0) : 0 ≤ slkV t sz ∧ slkV t sz ≤ 511 ∧ sz ≤ 512 := by
  obtain ⟨hok, h1, _, k, hk, _, hv, hle⟩ := clsE_ok h
  have := okT_pos hok hk
  unfold slkV
  rw [if_pos h, hv, Int.toNat_natCast]
  omega
theorem slkV_bd' (t : List Cl) (sz : Int) : 0 ≤ slkV t sz ∧ slkV t sz ≤ 511 := by
  by_cases h : clsE t sz 1 = 0
  · exact ⟨(slkV_bd h).1, (slkV_bd h).2.1⟩
  · unfold slkV; rw [if_neg h]; omega

set_option maxRecDepth 100000 in
set_option maxHeartbeats 1000000 in
theorem Slack_any (A : Option Addr) (cap : Nat) (t : List Cl) (sz : Int) (w : World) (hl : t.length ≤ 9223372036854775807) (hT : TabAt w w.heap.size A t) :
    Calls Try.prog 27 #[.slice A t.length cap, .int .i64 sz] w fun e w' => e = .returned (.tuple #[.int .i64 (slkV t sz), .int .i64 (clsE t sz 1)]) ∧ Below w.heap.size w w' := by
  have hC := Class_any A cap t sz 1 w hl hT
  by_cases h0 : clsE t sz 1 = 0
  · obtain ⟨hok, h1, _, k, hk, _, hv, hle⟩ := clsE_ok h0
    obtain ⟨⟨cs, cp, cb⟩, hc⟩ : ∃ c, t[k]? = some c := ⟨_, List.getElem?_eq_getElem hk⟩
    have hg : t.getD k default = ⟨cs, cp, cb⟩ := by rw [List.getD_eq_getElem?_getD, hc]; rfl
    have e1 : slkV t sz = cs - sz := by unfold slkV; rw [if_pos h0, hv, Int.toNat_natCast, hg]
    have hb := okT_pos hok hk
    rw [hg] at hb hle
    dsimp only at hb hle
    obtain ⟨hb1, hb2⟩ := hb
    obtain ⟨bk, o, rfl, hab, g1, g2, g3⟩ := hT k _ hc
    dsimp only at g1 g2 g3
    rw [hv, h0] at hC
    rw [h0, e1]
    obtain ⟨n, hn⟩ : ∃ n : Nat, n = t.length := ⟨_, rfl⟩
    rw [← hn] at hC hk hl ⊢
    clear h0 hv hc hg e1 hn hT hok
    have HC := Lib.hid hC
    clear hC
    go_enter Try.func27, Try.ntmps27
    go_wp2_with (go_at_call 25; refine HC.out.mono ?_; rintro e w1 ⟨rfl, hb1⟩; have d1 := hb1.cell (p := ⟨bk, o + k * 3, none⟩) hab)
    go_ret2
    exact ⟨rfl, hb1⟩
  · have e1 : slkV t sz = 0 := by unfold slkV; rw [if_neg h0]
    rw [e1]
    generalize clsE t sz 1 = E at hC h0 ⊢
    have hq : (E == 0) = false := by simpa using h0
    have hq2 : (E != 0) = true := by simpa using h0
    have HC := Lib.hid hC
    clear hC hT h0 e1
    go_enter Try.func27, Try.ntmps27
    go_wp2_with (go_at_call 25; refine HC.out.mono ?_; rintro e w1 ⟨rfl, hb1⟩)
    go_ret2
    exact ⟨rfl, hb1⟩

def wst (t : List Cl) : Nat → Int × Int
  | 0 => (1, 0)
  | k + 1 => if clsE t ((k : Int) + 1) 1 = 0 ∧ (wst t k).2 * ((k : Int) + 1) < slkV t ((k : Int) + 1) * (wst t k).1 then ((k : Int) + 1, slkV t ((k : Int) + 1)) else wst t k

theorem wst_bd (t : List Cl) (k : Nat) (hk : k ≤ 512) : 1 ≤ (wst t k).1 ∧ (wst t k).1 ≤ 512 ∧ 0 ≤ (wst t k).2 ∧ (wst t k).2 ≤ 511 := by
  induction k with
  | zero => exact ⟨by show (1:Int) ≤ 1; omega, by show (1:Int) ≤ 512; omega, by show (0:Int) ≤ 0; omega, by show (0:Int) ≤ 511; omega⟩
  | succ k ih =>
    have ih := ih (by omega)
    have hs := slkV_bd' t ((k : Int) + 1)
    unfold wst
    split
    · refine ⟨?_, ?_, hs.1, hs.2⟩ <;> (dsimp only; omega)
    · exact ih

def lastS (t : List Cl) : Int := (t.getD (t.length - 1) default).s
def wstA (t : List Cl) : Int := if okT t = true then (wst t (lastS t).toNat).1 else 0
def wstM (t : List Cl) : Int := if okT t = true then (wst t (lastS t).toNat).2 else 0
def wstE (t : List Cl) : Int := if okT t = true then 0 else 2

theorem lastS_bd {t : List Cl} (h : okT t = true) : 8 ≤ lastS t ∧ lastS t ≤ 512 := okT_pos h (by have := okT_len h; omega)

theorem mul_bd {a b : Int} (h0 : 0 ≤ a) (h1 : a ≤ 512) (h2 : 0 ≤ b) (h3 : b ≤ 512) : 0 ≤ a * b ∧ a * b ≤ 262144 :=
  ⟨Int.mul_nonneg h0 h2, Int.le_trans (Int.mul_le_mul h1 h3 h2 (show (0 : Int) ≤ 512 by omega)) (by omega)⟩

theorem ret_three {k k' k'' : IntKind} {a b a' b' a'' b'' : Int} (h : a = b) (h' : a' = b') (h'' : a'' = b'') : Ending.returned (.tuple #[.int k a, .int k' a', .int k'' a'']) = .returned (.tuple #[.int k b, .int k' b', .int k'' b'']) := by rw [h, h', h'']

set_option maxRecDepth 100000 in
set_option maxHeartbeats 1000000 in
theorem Worst_any (A : Option Addr) (cap : Nat) (t : List Cl) (w : World) (hl : t.length ≤ 9223372036854775807) (hT : TabAt w w.heap.size A t) :
    Calls Try.prog 29 #[.slice A t.length cap] w fun e w' => e = .returned (.tuple #[.int .i64 (wstA t), .int .i64 (wstM t), .int .i64 (wstE t)]) ∧ Below w.heap.size w w' := by
  have hV := Valid_any A cap t w hl hT
  cases hok : okT t
  · have e1 : wstA t = 0 := by unfold wstA; rw [hok]; rfl
    have e2 : wstM t = 0 := by unfold wstM; rw [hok]; rfl
    have e3 : wstE t = 2 := by unfold wstE; rw [hok]; rfl
    have E1 := Lib.hid e1
    have E2 := Lib.hid e2
    have E3 := Lib.hid e3
    clear e1 e2 e3
    have HV := Lib.hid hV
    clear hV hT
    go_enter Try.func29, Try.ntmps29
    go_wp2_with (go_at_call 18; refine HV.out.mono ?_; rintro e w1 ⟨rfl, hb1⟩)
    go_ret3
    exact ⟨ret_three E1.out.symm E2.out.symm E3.out.symm, hb1⟩
  · have e1 : wstA t = (wst t (lastS t).toNat).1 := by unfold wstA; rw [if_pos hok]
    have e2 : wstM t = (wst t (lastS t).toNat).2 := by unfold wstM; rw [if_pos hok]
    have e3 : wstE t = 0 := by unfold wstE; rw [if_pos hok]
    have hlen := okT_len hok
    obtain ⟨⟨ls, lp, lb⟩, hc⟩ : ∃ c, t[t.length - 1]? = some c := ⟨_, List.getElem?_eq_getElem (by omega)⟩
    have hls : lastS t = ls := by unfold lastS; rw [List.getD_eq_getElem?_getD, hc]; rfl
    have hbd := lastS_bd hok
    rw [hls] at e1 e2 hbd
    obtain ⟨m, rfl⟩ := Int.eq_ofNat_of_zero_le (a := ls) (by omega)
    rw [Int.toNat_natCast] at e1 e2
    have E1 := Lib.hid e1
    have E2 := Lib.hid e2
    have E3 := Lib.hid e3
    obtain ⟨bk, o, rfl, hab, g1, g2, g3⟩ := hT _ _ hc
    dsimp only at g1 g2 g3
    obtain ⟨n, hn⟩ : ∃ n : Nat, n + 1 = t.length := ⟨t.length - 1, by omega⟩
    have hS := fun sz W hl' hT' => Slack_any (some ⟨bk, o, none⟩) cap t sz W hl' hT'
    rw [← hn] at hl hlen hS hV g1 g2 g3 ⊢
    rw [Nat.add_sub_cancel] at g1 g2 g3
    have HN := Lib.hid hn
    have HS := Lib.hid hS
    have HV := Lib.hid hV
    have HT := Lib.hid hT
    obtain ⟨hl1, hl2⟩ := hlen
    obtain ⟨hm1, hm2⟩ := hbd
    clear e1 e2 e3 hV hT hn hS hc hls hl1
    go_enter Try.func29, Try.ntmps29
    go_wp2_with (go_at_call 18; refine HV.out.mono ?_; rintro e w1 ⟨rfl, hb1⟩; have d1 := hb1.cell (p := ⟨bk, o + n * 3, none⟩) hab)
    go_loopw [5, 6, 21] (fun a b i wr => ∃ k : Nat, k ≤ m ∧ i = .int .i64 k ∧ a = .int .i64 (wst t k).1 ∧ b = .int .i64 (wst t k).2 ∧ Below w.heap.size w wr) (fun _ _ i _ => m - (intOf i).toNat)
    case atStart => exact ⟨0, by omega, rfl, rfl, rfl, hb1⟩
    case round =>
      obtain ⟨k, hk, rfl, rfl, rfl, hB⟩ := hrel
      clear hb1 d1 g1 g2 g3
      by_cases hlt : k < m
      · obtain ⟨p0, p1, p2, p3⟩ := wst_bd t k (by omega)
        obtain ⟨q0, q1⟩ := slkV_bd' t ((k : Int) + 1)
        have hnx : wst t (k + 1) = if clsE t ((k : Int) + 1) 1 = 0 ∧ (wst t k).2 * ((k : Int) + 1) < slkV t ((k : Int) + 1) * (wst t k).1 then ((k : Int) + 1, slkV t ((k : Int) + 1)) else wst t k := rfl
        have hSl := HS.out ((k : Int) + 1) wr (by have := HN.out; omega) ((HT.out.below hB).more hB.size)
        generalize hE : clsE t ((k : Int) + 1) 1 = E at hnx hSl
        generalize hV : slkV t ((k : Int) + 1) = V at hnx hSl q0 q1
        obtain ⟨a, ha⟩ : ∃ a, (wst t k).1 = a := ⟨_, rfl⟩
        obtain ⟨M, hM⟩ : ∃ M, (wst t k).2 = M := ⟨_, rfl⟩
        rw [ha, hM] at hnx
        rw [ha] at p0 p1
        rw [hM] at p2 p3
        rw [ha, hM]
        have HA := Lib.hid ha
        have HM := Lib.hid hM
        have HSL := Lib.hid hSl
        have r1 := mul_bd (a := V) (b := a) q0 (by omega) (by omega) p1
        have r2 := mul_bd (a := M) (b := (k : Int) + 1) p2 (by omega) (by omega) (by omega)
        obtain ⟨r3, r4⟩ := r1
        obtain ⟨r5, r6⟩ := r2
        clear hE hV ha hM hSl
        by_cases hE : E = 0
        · by_cases hgt : M * ((k : Int) + 1) < V * a
          · rw [if_pos ⟨hE, hgt⟩] at hnx
            have HX := Lib.hid hnx
            have hq : (E == 0) = true := by simpa using hE
            clear hnx hE
            go_wp2_with (go_at_call 27; refine HSL.out.mono ?_; rintro e w2 ⟨rfl, hb2⟩)
            go_roundw
            case rel => exact ⟨k + 1, by omega, by go_num, by rw [HX.out], by rw [HX.out], btr hB hb2 (Nat.le_refl _)⟩
            case measure => simp [intOf]; omega
          · rw [if_neg (fun h => hgt h.2)] at hnx
            have HX := Lib.hid hnx
            have hq : (E == 0) = true := by simpa using hE
            clear hnx hE
            go_wp2_with (go_at_call 27; refine HSL.out.mono ?_; rintro e w2 ⟨rfl, hb2⟩)
            go_roundw
            case rel => exact ⟨k + 1, by omega, by go_num, by rw [HX.out, HA.out], by rw [HX.out, HM.out], btr hB hb2 (Nat.le_refl _)⟩
            case measure => simp [intOf]; omega
        · rw [if_neg (fun h => hE h.1)] at hnx
          have HX := Lib.hid hnx
          have hq : (E == 0) = false := by simpa using hE
          clear hnx hE
          go_wp2_with (go_at_call 27; refine HSL.out.mono ?_; rintro e w2 ⟨rfl, hb2⟩)
          go_roundw
          case rel => exact ⟨k + 1, by omega, by go_num, by rw [HX.out, HA.out], by rw [HX.out, HM.out], btr hB hb2 (Nat.le_refl _)⟩
          case measure => simp [intOf]; omega
      · go_wp2
        go_ret3
        obtain rfl : k = m := by omega
        exact ⟨ret_three E1.out.symm E2.out.symm E3.out.symm, hB⟩

end Go.Proofs.Ytjloipljecjbaaa
