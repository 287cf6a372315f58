/- The statements about the values and the density of tables: what each call returns. -/
import Derived.Test.YtjloipljecjbaaaWe
namespace Go.Proofs.Ytjloipljecjbaaa
open Go.RowKit

/-- Three cells that lie, and a table, behind a call. -/
theorem keep3 {w w' : World} {b : Nat} {x y z : Value} {B : Nat} {A : Option Addr} {t : List Cl} (hb : Below w.heap.size w w') (hB : b < w.heap.size)
    (h0 : w.cell? ⟨b, 0, none⟩ = some x) (h1 : w.cell? ⟨b, 1, none⟩ = some y) (h2 : w.cell? ⟨b, 2, none⟩ = some z) (ht : TabAt w B A t) (hBB : B ≤ w.heap.size) :
    b < w'.heap.size ∧ w'.cell? ⟨b, 0, none⟩ = some x ∧ w'.cell? ⟨b, 1, none⟩ = some y ∧ w'.cell? ⟨b, 2, none⟩ = some z ∧ TabAt w' w'.heap.size A t :=
  ⟨Nat.lt_of_lt_of_le hB hb.size, (hb.cell (p := ⟨b, 0, none⟩) hB).trans h0, (hb.cell (p := ⟨b, 1, none⟩) hB).trans h1, (hb.cell (p := ⟨b, 2, none⟩) hB).trans h2, ((ht.more hBB).below hb).more hb.size⟩

set_option maxRecDepth 100000 in
set_option maxHeartbeats 1000000 in
theorem forms_walk (A : Option Addr) (cap : Nat) (t : List Cl) (s p b : Int) (w : World) (hl : t.length ≤ 9223372036854775807) (hT : TabAt w w.heap.size A t) :
    Calls Try.prog 3 #[.slice A t.length cap, .agg #[.int .i64 s, .int .i64 p, .int .i64 b]] w (Yes w) := by
  have HA := Lib.hid alive_any
  by_cases h200 : t.length ≤ 200
  · have h1 := Objects_any s p b
    have h2 := Tail_any s p b
    have h3 := Right_any s p b
    have h4 := fun (W : World) (hW : TabAt W W.heap.size A t) => Valid_any A cap t W hl hW
    have h5 := fun (W : World) (hW : TabAt W W.heap.size A t) => RValid_any A cap t W hl hW
    cases hok : okC ⟨s, p, b⟩
    · have e1 : objsV ⟨s, p, b⟩ = 0 := by unfold objsV; rw [hok]; rfl
      have e2 : tailV ⟨s, p, b⟩ = 0 := by unfold tailV; rw [hok]; rfl
      have e3 : errV ⟨s, p, b⟩ = 1 := by unfold errV; rw [hok]; rfl
      rw [e1, e3] at h1
      rw [e2, e3] at h2
      rw [hok] at h3
      generalize okT t = B at h4 h5
      have H1 := Lib.hid h1
      have H2 := Lib.hid h2
      have H3 := Lib.hid h3
      have H4 := Lib.hid h4
      have H5 := Lib.hid h5
      have HT := Lib.hid hT
      obtain ⟨n, hn⟩ : ∃ n : Nat, n = t.length := ⟨_, rfl⟩
      rw [← hn] at H4 H5 hl h200 ⊢
      clear h1 h2 h3 h4 h5 hT hn hok e1 e2 e3
      go_enter Try.func3, Try.ntmps3
      go_wp2_with fail
      obtain ⟨w0, hW, hB0, hsz, c00, c01, c02⟩ := new3 w (.int .i64 s) (.int .i64 p) (.int .i64 b) 24
      rw [hW]
      clear hW
      have z0 : w.heap.size < w0.heap.size := by omega
      have tt0 := (HT.out.below hB0).more hB0.size
      have T0 := Lib.hid tt0
      clear tt0
      go_wp2_with fail
      refine (H1.out _).mono ?_
      rintro e w1 ⟨rfl, hb1⟩
      obtain ⟨z1, c10, c11, c12, tt1⟩ := keep3 hb1 z0 c00 c01 c02 T0.out (Nat.le_refl _)
      have T1 := Lib.hid tt1
      clear tt1
      go_wp2_with fail
      refine (H2.out _).mono ?_
      rintro e w2 ⟨rfl, hb2⟩
      obtain ⟨z2, c20, c21, c22, tt2⟩ := keep3 hb2 z1 c10 c11 c12 T1.out (Nat.le_refl _)
      have T2 := Lib.hid tt2
      clear tt2
      go_wp2_with fail
      refine (H3.out _).mono ?_
      rintro e w3 ⟨rfl, hb3⟩
      obtain ⟨z3, c30, c31, c32, tt3⟩ := keep3 hb3 z2 c20 c21 c22 T2.out (Nat.le_refl _)
      have T3 := Lib.hid tt3
      clear tt3
      go_wp2_with fail
      refine (H4.out _ T3.out).mono ?_
      rintro e w4 ⟨rfl, hb4⟩
      obtain ⟨z4, c40, c41, c42, tt4⟩ := keep3 hb4 z3 c30 c31 c32 T3.out (Nat.le_refl _)
      have T4 := Lib.hid tt4
      clear tt4
      go_wp2_with fail
      refine (H5.out _ T4.out).mono ?_
      rintro e w5 ⟨rfl, hb5⟩
      obtain ⟨z5, c50, c51, c52, tt5⟩ := keep3 hb5 z4 c40 c41 c42 T4.out (Nat.le_refl _)
      have T5 := Lib.hid tt5
      clear tt5
      go_wp2_with fail
      refine (HA.out _).mono ?_
      rintro e wa ⟨rfl, hba⟩
      go_wp2_with fail
      go_ret
      exact ⟨rfl, btr (btr (btr (btr (btr (btr (hB0) hb1 (Nat.le_refl _)) hb2 (Nat.le_refl _)) hb3 (Nat.le_refl _)) hb4 (Nat.le_refl _)) hb5 (Nat.le_refl _)) hba (Nat.le_refl _)⟩
    · obtain ⟨k2, k3, _, k0, k1, _, _, _⟩ := okC_bd hok
      have e1 : objsV ⟨s, p, b⟩ = p * 256 / s := by unfold objsV; rw [if_pos hok]
      have e2 : tailV ⟨s, p, b⟩ = p * 256 - p * 256 / s * s := by unfold tailV; rw [if_pos hok]
      have e3 : errV ⟨s, p, b⟩ = 0 := by unfold errV; rw [if_pos hok]
      have h6 := fun w => RObjects_any s p b w k0 k1 k2 k3
      have h7 := fun w => RTail_any s p b w k0 k1 k2 k3
      rw [e1, e3] at h1
      rw [e2, e3] at h2
      rw [hok] at h3
      generalize p * 256 - p * 256 / s * s = R at h2 h7
      generalize p * 256 / s = Q at h1 h6
      generalize okT t = B at h4 h5
      have H1 := Lib.hid h1
      have H2 := Lib.hid h2
      have H3 := Lib.hid h3
      have H4 := Lib.hid h4
      have H5 := Lib.hid h5
      have H6 := Lib.hid h6
      have H7 := Lib.hid h7
      have HT := Lib.hid hT
      obtain ⟨n, hn⟩ : ∃ n : Nat, n = t.length := ⟨_, rfl⟩
      rw [← hn] at H4 H5 hl h200 ⊢
      clear h1 h2 h3 h4 h5 h6 h7 hT hn hok e1 e2 e3
      go_enter Try.func3, Try.ntmps3
      go_wp2_with fail
      obtain ⟨w0, hW, hB0, hsz, c00, c01, c02⟩ := new3 w (.int .i64 s) (.int .i64 p) (.int .i64 b) 24
      rw [hW]
      clear hW
      have z0 : w.heap.size < w0.heap.size := by omega
      have tt0 := (HT.out.below hB0).more hB0.size
      have T0 := Lib.hid tt0
      clear tt0
      go_wp2_with fail
      refine (H1.out _).mono ?_
      rintro e w1 ⟨rfl, hb1⟩
      obtain ⟨z1, c10, c11, c12, tt1⟩ := keep3 hb1 z0 c00 c01 c02 T0.out (Nat.le_refl _)
      have T1 := Lib.hid tt1
      clear tt1
      go_wp2_with fail
      refine (H2.out _).mono ?_
      rintro e w2 ⟨rfl, hb2⟩
      obtain ⟨z2, c20, c21, c22, tt2⟩ := keep3 hb2 z1 c10 c11 c12 T1.out (Nat.le_refl _)
      have T2 := Lib.hid tt2
      clear tt2
      go_wp2_with fail
      refine (H3.out _).mono ?_
      rintro e w3 ⟨rfl, hb3⟩
      obtain ⟨z3, c30, c31, c32, tt3⟩ := keep3 hb3 z2 c20 c21 c22 T2.out (Nat.le_refl _)
      have T3 := Lib.hid tt3
      clear tt3
      go_wp2_with fail
      refine (H6.out _).mono ?_
      rintro e w4 ⟨rfl, hb4⟩
      obtain ⟨z4, c40, c41, c42, tt4⟩ := keep3 hb4 z3 c30 c31 c32 T3.out (Nat.le_refl _)
      have T4 := Lib.hid tt4
      clear tt4
      go_wp2_with fail
      refine (H7.out _).mono ?_
      rintro e w5 ⟨rfl, hb5⟩
      obtain ⟨z5, c50, c51, c52, tt5⟩ := keep3 hb5 z4 c40 c41 c42 T4.out (Nat.le_refl _)
      have T5 := Lib.hid tt5
      clear tt5
      go_wp2_with fail
      refine (H4.out _ T5.out).mono ?_
      rintro e w6 ⟨rfl, hb6⟩
      obtain ⟨z6, c60, c61, c62, tt6⟩ := keep3 hb6 z5 c50 c51 c52 T5.out (Nat.le_refl _)
      have T6 := Lib.hid tt6
      clear tt6
      go_wp2_with fail
      refine (H5.out _ T6.out).mono ?_
      rintro e w7 ⟨rfl, hb7⟩
      obtain ⟨z7, c70, c71, c72, tt7⟩ := keep3 hb7 z6 c60 c61 c62 T6.out (Nat.le_refl _)
      have T7 := Lib.hid tt7
      clear tt7
      go_wp2_with fail
      refine (HA.out _).mono ?_
      rintro e wa ⟨rfl, hba⟩
      go_wp2_with fail
      go_ret
      exact ⟨rfl, btr (btr (btr (btr (btr (btr (btr (btr (hB0) hb1 (Nat.le_refl _)) hb2 (Nat.le_refl _)) hb3 (Nat.le_refl _)) hb4 (Nat.le_refl _)) hb5 (Nat.le_refl _)) hb6 (Nat.le_refl _)) hb7 (Nat.le_refl _)) hba (Nat.le_refl _)⟩
  · clear hT
    go_enter Try.func3, Try.ntmps3
    go_wp2_with fail
    refine (HA.out _).mono ?_
    rintro e w4 ⟨rfl, hb4⟩
    go_wp2_with fail
    go_ret
    exact ⟨rfl, btr (bnew w _) hb4 (Nat.le_refl _)⟩

set_option maxRecDepth 100000 in
set_option maxHeartbeats 1000000 in
theorem dense_in (waste : Int) (w : World) (h2 : 2 ≤ waste) (h16 : waste ≤ 16) : Calls Try.prog 12 #[.int .i64 waste] w (Yes w) := by
  have HA := Lib.hid alive_any
  have HM := Lib.hid (Make_made waste h2 h16)
  have hg := made_good waste h2 h16
  have hle := mkT_le waste
  have hden := hg.dense
  have hok := hg.ok
  have hT2 := hg.two
  have hV := fun (A : Option Addr) (c : Nat) (W : World) (hW : TabAt W W.heap.size A (mkT waste)) => RValid_any A c (mkT waste) W (by omega) hW
  rw [hok] at hV
  unfold Made at HM
  generalize mkT waste = t at *
  clear hg
  obtain ⟨n, hn⟩ : ∃ n : Nat, n = t.length := ⟨_, rfl⟩
  rw [← hn] at hV HM hle hT2
  have HN := Lib.hid hn
  have HV := Lib.hid hV
  have HD := Lib.hid hden
  have HOK := Lib.hid hok
  clear hV hn hden hok
  go_enter Try.func12, Try.ntmps12
  go_wp2_with fail
  refine (HM.out _).mono ?_
  rintro e w1 ⟨A, c, rfl, ht1, hb1⟩
  have T1 := Lib.hid ht1
  clear ht1
  go_wp2_with fail
  go_loopw [5] (fun i wr => ∃ k : Nat, k < n ∧ i = .int .i64 k ∧ Below w1.heap.size w1 wr) (fun i _ => n - (intOf i).toNat)
  case atStart => exact ⟨0, by omega, rfl, Below.refl _ _⟩
  case round =>
    obtain ⟨k, hk, rfl, hB⟩ := hrel
    have hz := hB.size
    by_cases hlt : k + 1 < n
    · have l0 : k < t.length := by have := HN.out; omega
      have l1 : k + 1 < t.length := by have := HN.out; omega
      obtain ⟨⟨cs, cp, cb⟩, hc⟩ : ∃ c, t[k]? = some c := ⟨_, List.getElem?_eq_getElem l0⟩
      obtain ⟨⟨ds, dp, db⟩, hd⟩ : ∃ c, t[k + 1]? = some c := ⟨_, List.getElem?_eq_getElem l1⟩
      have gc : t.getD k default = ⟨cs, cp, cb⟩ := by rw [List.getD_eq_getElem?_getD, hc]; rfl
      have gd : t.getD (k + 1) default = ⟨ds, dp, db⟩ := by rw [List.getD_eq_getElem?_getD, hd]; rfl
      have o0 : okC ⟨cs, cp, cb⟩ = true := by
        have := okT_all HOK.out k l0
        unfold okAt at this
        rw [Bool.and_eq_true, gc] at this
        exact this.1
      have o1 : okC ⟨ds, dp, db⟩ = true := by
        have := okT_all HOK.out (k + 1) l1
        unfold okAt at this
        rw [Bool.and_eq_true, gd] at this
        exact this.1
      have hden := HD.out k l1
      rw [gc, gd] at hden
      dsimp only at hden
      have hO := Objects_any cs cp cb
      have hP := Objects_any ds dp db
      have e1 : objsV ⟨cs, cp, cb⟩ = cp * 256 / cs := by unfold objsV; rw [if_pos o0]
      have e2 : objsV ⟨ds, dp, db⟩ = dp * 256 / ds := by unfold objsV; rw [if_pos o1]
      rw [e1] at hO
      rw [e2] at hP
      generalize errV ⟨cs, cp, cb⟩ = E0 at hO
      generalize errV ⟨ds, dp, db⟩ = E1 at hP
      generalize cp * 256 / cs = X at hO hden
      generalize dp * 256 / ds = Y at hP hden
      obtain ⟨bk, o, rfl, hab, g1, g2, g3⟩ := (T1.out.below hB) k _ hc
      obtain ⟨bk', o', hA, _, f1, f2, f3⟩ := (T1.out.below hB) (k + 1) _ hd
      cases hA
      dsimp only at g1 g2 g3 f1 f2 f3
      have HO := Lib.hid hO
      have HP := Lib.hid hP
      clear hc hd gc gd o0 o1 hO hP e1 e2
      go_wp2_with fail
      refine (HO.out _).mono ?_
      rintro e w2 ⟨rfl, hb2⟩
      have hB2 := btr hB hb2 (Nat.le_refl _)
      have x1 := (hb2.cell (p := ⟨bk, o + (k + 1) * 3, none⟩) (Nat.lt_of_lt_of_le hab hz)).trans f1
      have x2 := (hb2.cell (p := ⟨bk, o + (k + 1) * 3 + 1, none⟩) (Nat.lt_of_lt_of_le hab hz)).trans f2
      have x3 := (hb2.cell (p := ⟨bk, o + (k + 1) * 3 + 2, none⟩) (Nat.lt_of_lt_of_le hab hz)).trans f3
      have y2 := (hb2.cell (p := ⟨bk, o + k * 3 + 1, none⟩) (Nat.lt_of_lt_of_le hab hz)).trans g2
      go_wp2_with fail
      refine (HP.out _).mono ?_
      rintro e w3 ⟨rfl, hb3⟩
      have hB3 := btr hB2 hb3 (Nat.le_refl _)
      have hz3 : bk < w2.heap.size := Nat.lt_of_lt_of_le hab hB2.size
      have u2 := (hb3.cell (p := ⟨bk, o + (k + 1) * 3 + 1, none⟩) hz3).trans x2
      have v2 := (hb3.cell (p := ⟨bk, o + k * 3 + 1, none⟩) hz3).trans y2
      go_wp2_with fail
      by_cases hpp : cp = dp
      · have hq : (cp == dp) = true := by simpa using hpp
        have hxy := hden hpp
        have hd : decide (X ≤ Y) = false := decide_eq_false (by omega)
        clear hden hpp
        go_quiet (fail)
        go_wp2_with fail
        go_roundw
        case rel => exact ⟨k + 1, by omega, by go_num, belowN hB3 _⟩
        case measure => simp [intOf]; omega
      · have hq : (cp == dp) = false := by simpa using hpp
        clear hden hpp
        go_quiet (fail)
        go_wp2_with fail
        go_roundw
        case rel => exact ⟨k + 1, by omega, by go_num, belowN hB3 _⟩
        case measure => simp [intOf]; omega
    · go_wp2_with fail
      refine (HV.out _ _ _ ((T1.out.below hB).more hB.size)).mono ?_
      rintro e w2 ⟨rfl, hb2⟩
      go_wp2_with fail
      refine (HA.out _).mono ?_
      rintro e w4 ⟨rfl, hb4⟩
      go_wp2_with fail
      go_ret
      exact ⟨rfl, btr (btr (hb1.trans (hB.mono hb1.size)) hb2 (Nat.le_refl _)) hb4 (Nat.le_refl _)⟩

set_option maxRecDepth 100000 in
set_option maxHeartbeats 400000 in
theorem dense_walk (waste : Int) (w : World) : Calls Try.prog 12 #[.int .i64 waste] w (Yes w) := by
  by_cases h : 2 ≤ waste ∧ waste ≤ 16
  · exact dense_in waste w h.1 h.2
  · have HA := Lib.hid alive_any
    have HM := Lib.hid (Make_no waste (by omega))
    clear h
    go_enter Try.func12, Try.ntmps12
    go_wp2_with fail
    refine (HM.out _).mono ?_
    rintro e w1 ⟨rfl, rfl⟩
    go_wp2_with fail
    refine (HA.out _).mono ?_
    rintro e w3 ⟨rfl, hb3⟩
    go_wp2_with fail
    go_ret
    exact ⟨rfl, hb3⟩

end Go.Proofs.Ytjloipljecjbaaa
