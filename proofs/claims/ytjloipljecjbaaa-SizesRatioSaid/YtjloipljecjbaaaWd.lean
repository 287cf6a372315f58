/- The statements about any list of classes: what each call returns. -/
import Derived.Test.YtjloipljecjbaaaWc
namespace Go.Proofs.Ytjloipljecjbaaa
open Go.RowKit

set_option maxRecDepth 100000 in
set_option maxHeartbeats 1000000 in
theorem finds_walk (A : Option Addr) (cap : Nat) (t : List Cl) (sz al : Int) (w : World) (hl : t.length ≤ 9223372036854775807) (hT : TabAt w w.heap.size A t) :
    Calls Try.prog 5 #[.slice A t.length cap, .int .i64 sz, .int .i64 al] w (Yes w) := by
  have HA := Lib.hid alive_any
  by_cases h200 : t.length ≤ 200
  · have h1 := fun (W : World) (hW : TabAt W W.heap.size A t) => Class_any A cap t sz al W hl hW
    have h2 := fun (W : World) (hW : TabAt W W.heap.size A t) => RClass_any A cap t sz al W hl hW
    have h3 := fun (W : World) (hW : TabAt W W.heap.size A t) => Slack_any A cap t sz W hl hW
    have h4 := fun (W : World) (hW : TabAt W W.heap.size A t) => RSlack_any A cap t sz W hl hW
    generalize clsE t sz al = E1 at h1 h2
    generalize clsV t sz al = V1 at h1 h2
    generalize clsE t sz 1 = E2 at h3 h4
    generalize slkV t sz = V2 at h3 h4
    have H1 := Lib.hid h1
    have H2 := Lib.hid h2
    have H3 := Lib.hid h3
    have H4 := Lib.hid h4
    have HT := Lib.hid hT
    obtain ⟨n, hn⟩ : ∃ n : Nat, n = t.length := ⟨_, rfl⟩
    rw [← hn] at H1 H2 H3 H4 hl h200 ⊢
    clear h1 h2 h3 h4 hT hn
    go_enter Try.func5, Try.ntmps5
    go_wp2_with fail
    refine (H1.out _ HT.out).mono ?_
    rintro e w1 ⟨rfl, hb1⟩
    have t1 := (HT.out.below hb1).more hb1.size
    have T1 := Lib.hid t1
    clear t1
    go_wp2_with fail
    refine (H2.out _ T1.out).mono ?_
    rintro e w2 ⟨rfl, hb2⟩
    have t2 := (T1.out.below hb2).more hb2.size
    have T2 := Lib.hid t2
    clear t2
    go_wp2_with fail
    refine (H3.out _ T2.out).mono ?_
    rintro e w3 ⟨rfl, hb3⟩
    have t3 := (T2.out.below hb3).more hb3.size
    have T3 := Lib.hid t3
    clear t3
    go_wp2_with fail
    refine (H4.out _ T3.out).mono ?_
    rintro e w5 ⟨rfl, hb5⟩
    go_wp2_with fail
    refine (HA.out _).mono ?_
    rintro e w4 ⟨rfl, hb4⟩
    go_wp2_with fail
    go_ret
    exact ⟨rfl, btr (btr (btr (btr hb1 hb2 (Nat.le_refl _)) hb3 (Nat.le_refl _)) hb5 (Nat.le_refl _)) hb4 (Nat.le_refl _)⟩
  · clear hT
    go_enter Try.func5, Try.ntmps5
    go_wp2_with fail
    refine (HA.out _).mono ?_
    rintro e w4 ⟨rfl, hb4⟩
    go_wp2_with fail
    go_ret
    exact ⟨rfl, hb4⟩

set_option maxRecDepth 100000 in
set_option maxHeartbeats 1000000 in
theorem worsts_walk (A : Option Addr) (cap : Nat) (t : List Cl) (w : World) (hl : t.length ≤ 9223372036854775807) (hT : TabAt w w.heap.size A t) :
    Calls Try.prog 6 #[.slice A t.length cap] w (Yes w) := by
  have HA := Lib.hid alive_any
  by_cases h200 : t.length ≤ 200
  · have h1 := fun (W : World) (hW : TabAt W W.heap.size A t) => Worst_any A cap t W hl hW
    have h2 := fun (W : World) (hW : TabAt W W.heap.size A t) => RWorst_any A cap t W hl hW
    generalize wstA t = V1 at h1 h2
    generalize wstM t = V2 at h1 h2
    generalize wstE t = E1 at h1 h2
    have H1 := Lib.hid h1
    have H2 := Lib.hid h2
    have HT := Lib.hid hT
    obtain ⟨n, hn⟩ : ∃ n : Nat, n = t.length := ⟨_, rfl⟩
    rw [← hn] at H1 H2 hl h200 ⊢
    clear h1 h2 hT hn
    go_enter Try.func6, Try.ntmps6
    go_wp2_with fail
    refine (H1.out _ HT.out).mono ?_
    rintro e w1 ⟨rfl, hb1⟩
    have t1 := (HT.out.below hb1).more hb1.size
    have T1 := Lib.hid t1
    clear t1
    go_wp2_with fail
    refine (H2.out _ T1.out).mono ?_
    rintro e w2 ⟨rfl, hb2⟩
    go_wp2_with fail
    refine (HA.out _).mono ?_
    rintro e w4 ⟨rfl, hb4⟩
    go_wp2_with fail
    go_ret
    exact ⟨rfl, btr (btr hb1 hb2 (Nat.le_refl _)) hb4 (Nat.le_refl _)⟩
  · clear hT
    go_enter Try.func6, Try.ntmps6
    go_wp2_with fail
    refine (HA.out _).mono ?_
    rintro e w4 ⟨rfl, hb4⟩
    go_wp2_with fail
    go_ret
    exact ⟨rfl, hb4⟩

set_option maxRecDepth 100000 in
set_option maxHeartbeats 1000000 in
theorem fits_walk (A : Option Addr) (cap : Nat) (t : List Cl) (sz al : Int) (w : World) (hl : t.length ≤ 9223372036854775807) (hT : TabAt w w.heap.size A t) :
    Calls Try.prog 7 #[.slice A t.length cap, .int .i64 sz, .int .i64 al] w (Yes w) := by
  have HA := Lib.hid alive_any
  by_cases h200 : t.length ≤ 200
  · have h1 := Class_any A cap t sz al w hl hT
    by_cases h0 : clsE t sz al = 0
    · obtain ⟨hok, hs1, hal, k, hk, hf, hv, hle⟩ := clsE_ok h0
      obtain ⟨_, hfit, hno⟩ := fnd_fit hf
      have hap := alB_pos hal
      obtain ⟨⟨cs, cp, cb⟩, hc⟩ : ∃ c, t[k]? = some c := ⟨_, List.getElem?_eq_getElem hk⟩
      have hg : t.getD k default = ⟨cs, cp, cb⟩ := by rw [List.getD_eq_getElem?_getD, hc]; rfl
      have hbd := okT_pos hok hk
      unfold fitAt at hfit
      rw [hg] at hbd hle hfit
      dsimp only at hbd hle hfit
      rw [Bool.and_eq_true, decide_eq_true_eq, decide_eq_true_eq] at hfit
      obtain ⟨hb8, hb512⟩ := hbd
      have hmod : cs % al = 0 := hfit.2
      have hm : (cs % al != 0) = false := by rw [hmod]; rfl
      rw [hv, h0] at h1
      obtain ⟨bk, o, rfl, hab, g1, _, _⟩ := hT k _ hc
      dsimp only at g1
      have hpos : ∀ j, j < t.length → 8 ≤ (t.getD j default).s := fun j hj => (okT_pos hok hj).1
      have HP := Lib.hid hpos
      have H1 := Lib.hid h1
      have HT := Lib.hid hT
      have HNO := Lib.hid hno
      obtain ⟨n, hn⟩ : ∃ n : Nat, n = t.length := ⟨_, rfl⟩
      have HN := Lib.hid hn
      rw [← hn] at H1 hl h200 hk ⊢
      clear h1 hT hn h0 hok hal hf hv hfit hno hg hc hmod hpos
      go_enter Try.func7, Try.ntmps7
      go_wp2_with fail
      refine H1.out.mono ?_
      rintro e w1 ⟨rfl, hb1⟩
      have t1 := HT.out.below hb1
      have T1 := Lib.hid t1
      have d1 := (hb1.cell (p := ⟨bk, o + k * 3, none⟩) hab).trans g1
      clear t1 g1
      go_wp2_with fail
      go_loop [9] (fun i => ∃ j : Nat, j ≤ k ∧ i = .int .i64 j) (fun i => k - (intOf i).toNat)
      case atStart => exact ⟨0, by omega, rfl⟩
      case round =>
        obtain ⟨j, hj, rfl⟩ := hrel
        by_cases hlt : j < k
        · have hjl : j < t.length := by have := HN.out; omega
          obtain ⟨⟨js, jp, jb⟩, hjc⟩ : ∃ c, t[j]? = some c := ⟨_, List.getElem?_eq_getElem hjl⟩
          have hjg : t.getD j default = ⟨js, jp, jb⟩ := by rw [List.getD_eq_getElem?_getD, hjc]; rfl
          obtain ⟨bk', o', hA, _, f1, _, _⟩ := T1.out j _ hjc
          cases hA
          dsimp only at f1
          have hjn := HNO.out j hlt
          have hj8 := HP.out j hjl
          unfold fitAt at hjn
          rw [hjg] at hjn hj8
          dsimp only at hjn hj8
          clear hjc hjg
          by_cases hge : sz ≤ js
          · rw [decide_eq_true hge, Bool.true_and, decide_eq_false_iff_not] at hjn
            have hm2 : (js % al == 0) = false := by simpa using hjn
            clear hjn
            go_wp2_with fail
            go_round
            case rel => exact ⟨j + 1, by omega, by go_num⟩
            case measure => simp [intOf]; omega
          · clear hjn
            go_wp2_with fail
            go_round
            case rel => exact ⟨j + 1, by omega, by go_num⟩
            case measure => simp [intOf]; omega
        · go_wp2_with fail
          refine (HA.out _).mono ?_
          rintro e w4 ⟨rfl, hb4⟩
          go_wp2_with fail
          go_ret
          exact ⟨rfl, btr hb1 hb4 (Nat.le_refl _)⟩
    · generalize clsE t sz al = E at h1 h0
      generalize clsV t sz al = V at h1
      have hq : (E != 0) = true := by simpa using h0
      have H1 := Lib.hid h1
      obtain ⟨n, hn⟩ : ∃ n : Nat, n = t.length := ⟨_, rfl⟩
      rw [← hn] at H1 hl h200 ⊢
      clear h1 hT hn h0
      go_enter Try.func7, Try.ntmps7
      go_wp2_with fail
      refine H1.out.mono ?_
      rintro e w1 ⟨rfl, hb1⟩
      go_wp2_with fail
      refine (HA.out _).mono ?_
      rintro e w4 ⟨rfl, hb4⟩
      go_wp2_with fail
      go_ret
      exact ⟨rfl, btr hb1 hb4 (Nat.le_refl _)⟩
  · clear hT
    go_enter Try.func7, Try.ntmps7
    go_wp2_with fail
    refine (HA.out _).mono ?_
    rintro e w4 ⟨rfl, hb4⟩
    go_wp2_with fail
    go_ret
    exact ⟨rfl, hb4⟩

end Go.Proofs.Ytjloipljecjbaaa
