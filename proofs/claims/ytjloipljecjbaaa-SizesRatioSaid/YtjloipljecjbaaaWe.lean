/- The statements about the worst size, the values and the density of tables: what each call returns. -/
import Derived.Test.YtjloipljecjbaaaWd
namespace Go.Proofs.Ytjloipljecjbaaa
open Go.RowKit

theorem ratio_step {S a M j z V : Int} (ha : 0 < a) (hj : 0 ≤ j) (hz : 0 ≤ z) (h1 : S * a ≤ M * j) (h2 : M * z ≤ V * a) : S * z ≤ V * j := by
  have e1 := Int.mul_le_mul_of_nonneg_right h1 hz
  have e2 := Int.mul_le_mul_of_nonneg_right h2 hj
  have e3 : S * a * z = S * z * a := Int.mul_right_comm S a z
  have e4 : M * j * z = M * z * j := Int.mul_right_comm M j z
  have e5 : V * a * j = V * j * a := Int.mul_right_comm V a j
  exact Int.le_of_mul_le_mul_right (show S * z * a ≤ V * j * a by omega) ha

theorem slk_one {t : List Cl} (h : okT t = true) : clsE t 1 1 = 0 ∧ 0 < slkV t 1 := by
  have hlen := okT_len h
  have h8 := okT_pos h (k := 0) (by omega)
  have hft : fitAt t 1 1 0 = true := by
    unfold fitAt
    rw [decide_eq_true (by omega), Int.emod_one]
    rfl
  have hf : fnd t 1 1 = some 0 := fnd_some (by omega) (fun j hj => absurd hj (by omega)) hft
  have he : clsE t 1 1 = 0 := by
    unfold clsE
    rw [if_pos h, if_pos ⟨by omega, rfl⟩, hf]
    rfl
  have hv : clsV t 1 1 = 0 := by
    unfold clsV
    rw [if_pos ⟨h, by omega, rfl⟩, hf]
    rfl
  refine ⟨he, ?_⟩
  unfold slkV
  rw [if_pos he, hv]
  show 0 < (t.getD 0 default).s - 1
  omega

/-- What is known of the worst of the first k + 1 sizes. -/
theorem wst_inv {t : List Cl} (h : okT t = true) (k : Nat) (hk : k < 512) : clsE t (wst t (k + 1)).1 1 = 0 ∧ slkV t (wst t (k + 1)).1 = (wst t (k + 1)).2 ∧
    ∀ j : Nat, j ≤ k → slkV t ((j : Int) + 1) * (wst t (k + 1)).1 ≤ (wst t (k + 1)).2 * ((j : Int) + 1) := by
  induction k with
  | zero =>
    obtain ⟨e, p⟩ := slk_one h
    have hw : wst t (0 + 1) = (1, slkV t 1) := by
      show (if clsE t ((0 : Nat) + 1 : Int) 1 = 0 ∧ (wst t 0).2 * (((0 : Nat) : Int) + 1) < slkV t (((0 : Nat) : Int) + 1) * (wst t 0).1 then _ else _) = _
      rw [if_pos]
      · rfl
      · exact ⟨e, by show (0 : Int) * _ < slkV t 1 * 1; omega⟩
    rw [hw]
    refine ⟨e, rfl, fun j hj => ?_⟩
    obtain rfl : j = 0 := by omega
    exact Int.le_refl _
  | succ k ih =>
    obtain ⟨i1, i2, i3⟩ := ih (by omega)
    obtain ⟨b1, b2, b3, b4⟩ := wst_bd t (k + 1) (by omega)
    have hu : wst t (k + 1 + 1) = if clsE t (((k + 1 : Nat) : Int) + 1) 1 = 0 ∧ (wst t (k + 1)).2 * (((k + 1 : Nat) : Int) + 1) < slkV t (((k + 1 : Nat) : Int) + 1) * (wst t (k + 1)).1 then (((k + 1 : Nat) : Int) + 1, slkV t (((k + 1 : Nat) : Int) + 1)) else wst t (k + 1) := rfl
    by_cases hc : clsE t (((k + 1 : Nat) : Int) + 1) 1 = 0 ∧ (wst t (k + 1)).2 * (((k + 1 : Nat) : Int) + 1) < slkV t (((k + 1 : Nat) : Int) + 1) * (wst t (k + 1)).1
    · rw [if_pos hc] at hu
      rw [hu]
      refine ⟨hc.1, rfl, fun j hj => ?_⟩
      rcases Nat.lt_or_ge j (k + 1) with hlt | hge
      · exact ratio_step (by omega) (by omega) (show (0 : Int) ≤ ((k + 1 : Nat) : Int) + 1 by omega) (i3 j (by omega)) (Int.le_of_lt hc.2)
      · obtain rfl : j = k + 1 := by omega
        exact Int.le_refl _
    · rw [if_neg hc] at hu
      rw [hu]
      refine ⟨i1, i2, fun j hj => ?_⟩
      rcases Nat.lt_or_ge j (k + 1) with hlt | hge
      · exact i3 j (by omega)
      · obtain rfl : j = k + 1 := by omega
        by_cases he : clsE t (((k + 1 : Nat) : Int) + 1) 1 = 0
        · have : ¬ (wst t (k + 1)).2 * (((k + 1 : Nat) : Int) + 1) < slkV t (((k + 1 : Nat) : Int) + 1) * (wst t (k + 1)).1 := fun hlt => hc ⟨he, hlt⟩
          omega
        · have hs : slkV t (((k + 1 : Nat) : Int) + 1) = 0 := by unfold slkV; rw [if_neg he]
          rw [hs, Int.zero_mul]
          exact Int.mul_nonneg b3 (by omega)

theorem fnd_last {t : List Cl} {sz : Int} (h : okT t = true) (hs : lastS t < sz) : clsE t sz 1 ≠ 0 := by
  intro hc
  obtain ⟨_, _, _, k, hk, _, _, hle⟩ := clsE_ok hc
  have hmono : ∀ d j : Nat, j + d + 1 = t.length → (t.getD j default).s ≤ lastS t := by
    intro d
    induction d with
    | zero =>
      intro j hj
      unfold lastS
      rw [show t.length - 1 = j by omega]
      exact Int.le_refl _
    | succ d ih =>
      intro j hj
      have h1 := ih (j + 1) (by omega)
      have h2 := okT_all h (j + 1) (by omega)
      unfold okAt at h2
      rw [Bool.and_eq_true, prevS_succ] at h2
      have h3 := of_decide_eq_true h2.2
      omega
  have := hmono (t.length - 1 - k) k (by omega)
  omega

structure WorstOf (t : List Cl) : Prop where
  e : wstE t = 0
  a1 : 1 ≤ wstA t
  a2 : wstA t ≤ 512
  m0 : 0 ≤ wstM t
  m1 : wstM t ≤ 511
  cls : clsE t (wstA t) 1 = 0
  slk : slkV t (wstA t) = wstM t
  most : ∀ sz : Int, clsE t sz 1 = 0 → slkV t sz * wstA t ≤ wstM t * sz

theorem worst_of {t : List Cl} (h : okT t = true) : WorstOf t := by
  have hbd := lastS_bd h
  obtain ⟨k, hk⟩ : ∃ k : Nat, (lastS t).toNat = k + 1 := ⟨(lastS t).toNat - 1, by omega⟩
  have e1 : wstA t = (wst t (k + 1)).1 := by unfold wstA; rw [if_pos h, hk]
  have e2 : wstM t = (wst t (k + 1)).2 := by unfold wstM; rw [if_pos h, hk]
  have e3 : wstE t = 0 := by unfold wstE; rw [if_pos h]
  obtain ⟨i1, i2, i3⟩ := wst_inv h k (by omega)
  obtain ⟨b1, b2, b3, b4⟩ := wst_bd t (k + 1) (by omega)
  rw [← e1] at i1 i2 i3 b1 b2
  rw [← e2] at i2 i3 b3 b4
  refine ⟨e3, b1, b2, b3, b4, i1, i2, fun sz hsz => ?_⟩
  obtain ⟨_, h1, _⟩ := clsE_ok hsz
  have h2 : sz ≤ lastS t := by
    rcases Int.lt_or_le (lastS t) sz with hlt | hge
    · exact absurd hsz (fnd_last h hlt)
    · exact hge
  obtain ⟨j, rfl⟩ : ∃ j : Nat, sz = (j : Int) + 1 := ⟨(sz - 1).toNat, by omega⟩
  exact i3 j (by omega)

set_option maxRecDepth 100000 in
set_option maxHeartbeats 1000000 in
theorem ratio_walk (A : Option Addr) (cap : Nat) (t : List Cl) (sz : Int) (w : World) (hl : t.length ≤ 9223372036854775807) (hT : TabAt w w.heap.size A t) :
    Calls Try.prog 13 #[.slice A t.length cap, .int .i64 sz] w (Yes w) := by
  have HA := Lib.hid alive_any
  by_cases h200 : t.length ≤ 200
  · have h1 := fun (W : World) (hW : TabAt W W.heap.size A t) => Worst_any A cap t W hl hW
    have hv := fun (W : World) (hW : TabAt W W.heap.size A t) => RValid_any A cap t W hl hW
    cases hok : okT t
    · have e3 : wstE t = 2 := by unfold wstE; rw [hok]; rfl
      rw [e3] at h1
      rw [hok] at hv
      generalize wstA t = V1 at h1
      generalize wstM t = V2 at h1
      have H1 := Lib.hid h1
      have H2 := Lib.hid hv
      have HT := Lib.hid hT
      obtain ⟨n, hn⟩ : ∃ n : Nat, n = t.length := ⟨_, rfl⟩
      rw [← hn] at H1 H2 hl h200 ⊢
      clear h1 hv hT hn hok e3
      go_enter Try.func13, Try.ntmps13
      go_wp2_with fail
      refine (H1.out _ HT.out).mono ?_
      rintro e w1 ⟨rfl, hb1⟩
      have t1 := (HT.out.below hb1).more hb1.size
      have T1 := Lib.hid t1
      clear t1
      go_wp2_with fail
      refine (H2.out _ T1.out).mono ?_
      rintro e w2 ⟨rfl, hb2⟩
      have t2 := (T1.out.below hb2).more hb2.size
      have T2 := Lib.hid t2
      clear t2
      go_wp2_with fail
      refine (HA.out _).mono ?_
      rintro e w4 ⟨rfl, hb4⟩
      go_wp2_with fail
      go_ret
      exact ⟨rfl, btr (btr hb1 hb2 (Nat.le_refl _)) hb4 (Nat.le_refl _)⟩
    · have g := worst_of hok
      have h2 := fun (W : World) (hW : TabAt W W.heap.size A t) => Slack_any A cap t (wstA t) W hl hW
      have h3 := fun (W : World) (hW : TabAt W W.heap.size A t) => Slack_any A cap t sz W hl hW
      have hmost := g.most sz
      obtain ⟨q0, q1⟩ := slkV_bd' t sz
      have hszb := fun h => (slkV_bd (t := t) (sz := sz) h).2.2
      have hsz1 : clsE t sz 1 = 0 → 1 ≤ sz := fun h => (clsE_ok h).2.1
      rw [g.e] at h1
      rw [g.slk, g.cls] at h2
      have a1 := g.a1
      have a2 := g.a2
      have m0 := g.m0
      have m1 := g.m1
      clear g hv hok
      generalize wstA t = a at h1 h2 hmost a1 a2
      generalize wstM t = M at h1 h2 hmost m0 m1
      generalize clsE t sz 1 = E at h3 hmost hszb hsz1
      generalize slkV t sz = V at h3 hmost q0 q1
      have H1 := Lib.hid h1
      have H2 := Lib.hid h2
      have H3 := Lib.hid h3
      have HT := Lib.hid hT
      obtain ⟨n, hn⟩ : ∃ n : Nat, n = t.length := ⟨_, rfl⟩
      rw [← hn] at H1 H2 H3 hl h200 ⊢
      clear h1 h2 h3 hT hn
      by_cases hbig : 512 < sz
      · clear hmost hszb hsz1
        go_enter Try.func13, Try.ntmps13
        go_wp2_with fail
        refine (H1.out _ HT.out).mono ?_
        rintro e w1 ⟨rfl, hb1⟩
        have t1 := (HT.out.below hb1).more hb1.size
        have T1 := Lib.hid t1
        clear t1
        go_wp2_with fail
        refine (H2.out _ T1.out).mono ?_
        rintro e w2 ⟨rfl, hb2⟩
        have t2 := (T1.out.below hb2).more hb2.size
        have T2 := Lib.hid t2
        clear t2
        go_wp2_with fail
        refine (HA.out _).mono ?_
        rintro e w4 ⟨rfl, hb4⟩
        go_wp2_with fail
        go_ret
        exact ⟨rfl, btr (btr hb1 hb2 (Nat.le_refl _)) hb4 (Nat.le_refl _)⟩
      · obtain ⟨r1, r2⟩ := mul_bd (a := V) (b := a) q0 (by omega) (by omega) a2
        by_cases hE : E = 0
        · have hm := hmost hE
          have z1 := hsz1 hE
          have hq : (E != 0) = false := by simpa using hE
          obtain ⟨r3, r4⟩ := mul_bd (a := M) (b := sz) m0 (by omega) (by omega) (by omega)
          clear hmost hszb hsz1 hE
          go_enter Try.func13, Try.ntmps13
          go_wp2_with fail
          refine (H1.out _ HT.out).mono ?_
          rintro e w1 ⟨rfl, hb1⟩
          have t1 := (HT.out.below hb1).more hb1.size
          have T1 := Lib.hid t1
          clear t1
          go_wp2_with fail
          refine (H2.out _ T1.out).mono ?_
          rintro e w2 ⟨rfl, hb2⟩
          have t2 := (T1.out.below hb2).more hb2.size
          have T2 := Lib.hid t2
          clear t2
          go_wp2_with fail
          refine (H3.out _ T2.out).mono ?_
          rintro e w3 ⟨rfl, hb3⟩
          go_wp2_with fail
          refine (HA.out _).mono ?_
          rintro e w4 ⟨rfl, hb4⟩
          go_wp2_with fail
          go_ret
          exact ⟨rfl, btr (btr (btr hb1 hb2 (Nat.le_refl _)) hb3 (Nat.le_refl _)) hb4 (Nat.le_refl _)⟩
        · have hq : (E != 0) = true := by simpa using hE
          clear hmost hszb hsz1 hE
          go_enter Try.func13, Try.ntmps13
          go_wp2_with fail
          refine (H1.out _ HT.out).mono ?_
          rintro e w1 ⟨rfl, hb1⟩
          have t1 := (HT.out.below hb1).more hb1.size
          have T1 := Lib.hid t1
          clear t1
          go_wp2_with fail
          refine (H2.out _ T1.out).mono ?_
          rintro e w2 ⟨rfl, hb2⟩
          have t2 := (T1.out.below hb2).more hb2.size
          have T2 := Lib.hid t2
          clear t2
          go_wp2_with fail
          refine (H3.out _ T2.out).mono ?_
          rintro e w3 ⟨rfl, hb3⟩
          go_wp2_with fail
          refine (HA.out _).mono ?_
          rintro e w4 ⟨rfl, hb4⟩
          go_wp2_with fail
          go_ret
          exact ⟨rfl, btr (btr (btr hb1 hb2 (Nat.le_refl _)) hb3 (Nat.le_refl _)) hb4 (Nat.le_refl _)⟩
  · clear hT
    go_enter Try.func13, Try.ntmps13
    go_wp2_with fail
    refine (HA.out _).mono ?_
    rintro e w4 ⟨rfl, hb4⟩
    go_wp2_with fail
    go_ret
    exact ⟨rfl, hb4⟩

end Go.Proofs.Ytjloipljecjbaaa
