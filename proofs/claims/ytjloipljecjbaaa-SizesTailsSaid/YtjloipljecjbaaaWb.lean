/- The statement about what is made: what its call returns. -/
import Derived.Test.YtjloipljecjbaaaWa
namespace Go.Proofs.Ytjloipljecjbaaa
open Go.RowKit

set_option maxRecDepth 100000 in
set_option maxHeartbeats 1000000 in
theorem made_in (waste sz al r : Int) (w : World) (h2 : 2 ≤ waste) (h16 : waste ≤ 16) (a0 : 0 ≤ al) (a1 : al ≤ 255) (hr : al % 4 = r) (X : Int) (hX : wrap64 (2 ^ r.toNat) = X) (hX2 : alB X = true) (hX3 : 512 % X = 0) :
    Calls Try.prog 9 #[.int .i64 waste, .int .i64 sz, .int .u8 al] w (Yes w) := by
  have HA := Lib.hid alive_any
  have HM := Lib.hid (Make_made waste h2 h16)
  have hg := made_good waste h2 h16
  have hcl := good_cls hg sz X hX2 hX3
  obtain ⟨n, hn⟩ : ∃ n, n = (mkT waste).length := ⟨_, rfl⟩
  have hle := mkT_le waste
  have htwo := hg.two
  rw [← hn] at hle htwo
  have hC : ∀ A c w, TabAt w w.heap.size A (mkT waste) → Calls Try.prog 25 #[.slice A n c, .int .i64 sz, .int .i64 X] w fun e w' => e = .returned (.tuple #[.int .i64 (clsV (mkT waste) sz X), .int .i64 (clsE (mkT waste) sz X)]) ∧ Below w.heap.size w w' := fun A c w h => by
    rw [hn]; exact Class_any A c _ sz X w (by omega) h
  have hV : ∀ A c w, TabAt w w.heap.size A (mkT waste) → Calls Try.prog 18 #[.slice A n c] w fun e w' => e = .returned (.bool true) ∧ Below w.heap.size w w' := fun A c w h => by
    rw [hn, ← hg.ok]; exact Valid_any A c _ w (by omega) h
  have HV := Lib.hid hV
  have HN := Lib.hid hn
  have hE := clsE_ne (mkT waste) sz X
  generalize clsE (mkT waste) sz X = E at hC hcl hE
  generalize clsV (mkT waste) sz X = V at hC
  have HC := Lib.hid hC
  obtain ⟨m, hm⟩ : ∃ m, n = m + 1 := ⟨n - 1, by omega⟩
  subst hm
  have f0 : ∃ c, (mkT waste)[0]? = some c ∧ c.s = 8 := by
    have h0 : 0 < (mkT waste).length := by omega
    refine ⟨_, List.getElem?_eq_getElem h0, ?_⟩
    have := hg.first
    rw [List.getD_eq_getElem?_getD, List.getElem?_eq_getElem h0] at this
    exact this
  have f1 : ∃ c, (mkT waste)[m]? = some c ∧ c.s = 512 := by
    have h0 : m < (mkT waste).length := by omega
    refine ⟨_, List.getElem?_eq_getElem h0, ?_⟩
    have := hg.last
    unfold lastS at this
    rw [← hn, Nat.add_sub_cancel, List.getD_eq_getElem?_getD, List.getElem?_eq_getElem h0] at this
    exact this
  have F0 := Lib.hid f0
  have F1 := Lib.hid f1
  have HX := Lib.hid hX
  have HCL := Lib.hid hcl
  have HE := Lib.hid hE
  clear hV hn hC hg f0 f1 hX hX2 hX3 hcl hE
  go_enter Try.func9, Try.ntmps9
  go_wp2_with fail
  refine (HM.out _).mono ?_
  unfold Made
  rw [← HN.out]
  rintro e w1 ⟨A, c, rfl, ht1, hb1⟩
  go_wp2_with fail
  refine (HV.out _ _ _ ht1).mono ?_
  rintro e w2 ⟨rfl, hb2⟩
  have ht2 := (ht1.below hb2).more hb2.size
  obtain ⟨c0, hc0, hs0⟩ := F0.out
  obtain ⟨c1, hc1, hs1⟩ := F1.out
  obtain ⟨bk, o, rfl, hab, g1, _, _⟩ := ht2 0 _ hc0
  obtain ⟨bk', o', hA, hab', g1', _, _⟩ := ht2 m _ hc1
  cases hA
  rw [hs0] at g1
  rw [hs1] at g1'
  simp only [Nat.zero_mul, Nat.add_zero] at g1
  have HT2 := Lib.hid ht2
  clear ht1 ht2 hc0 hc1 hs0 hs1
  go_wp2_with fail
  rw [HX.out]
  refine (HC.out _ _ _ HT2.out).mono ?_
  rintro e w3 ⟨rfl, hb3⟩
  by_cases hs : 1 ≤ sz ∧ sz ≤ 512
  · have hE0 := HCL.out.2 hs
    obtain ⟨s1, s2⟩ := hs
    subst hE0
    go_wp2_with fail
    refine (HA.out _).mono ?_
    rintro e w4 ⟨rfl, hb4⟩
    go_wp2_with fail
    go_ret
    exact ⟨rfl, btr (btr (btr hb1 hb2 (Nat.le_refl _)) hb3 (Nat.le_refl _)) hb4 (Nat.le_refl _)⟩
  · have hE0 : (E == 0) = false := by
      have := HCL.out
      simp only [beq_eq_false_iff_ne]
      intro h
      exact hs (this.1 h)
    by_cases s1 : 1 ≤ sz
    · have s2 : 512 < sz := by omega
      have hd : decide (sz ≤ 512) = false := decide_eq_false (by omega)
      clear hs
      go_wp2_with fail
      refine (HA.out _).mono ?_
      rintro e w4 ⟨rfl, hb4⟩
      go_wp2_with fail
      go_ret
      exact ⟨rfl, btr (btr (btr hb1 hb2 (Nat.le_refl _)) hb3 (Nat.le_refl _)) hb4 (Nat.le_refl _)⟩
    · clear hs
      go_wp2_with fail
      refine (HA.out _).mono ?_
      rintro e w4 ⟨rfl, hb4⟩
      go_wp2_with fail
      go_ret
      exact ⟨rfl, btr (btr (btr hb1 hb2 (Nat.le_refl _)) hb3 (Nat.le_refl _)) hb4 (Nat.le_refl _)⟩

set_option maxRecDepth 100000 in
set_option maxHeartbeats 400000 in
theorem made_out (waste sz al : Int) (w : World) (h : ¬ (2 ≤ waste ∧ waste ≤ 16)) :
    Calls Try.prog 9 #[.int .i64 waste, .int .i64 sz, .int .u8 al] w (Yes w) := by
  have HA := Lib.hid alive_any
  have HM := Lib.hid (Make_no waste (by omega))
  by_cases h1 : waste < 2
  · clear h
    go_enter Try.func9, Try.ntmps9
    go_wp2_with fail
    refine (HM.out _).mono ?_
    rintro e w1 ⟨rfl, rfl⟩
    go_wp2_with fail
    refine (HA.out _).mono ?_
    rintro e w3 ⟨rfl, hb3⟩
    go_wp2_with fail
    go_ret
    exact ⟨rfl, hb3⟩
  · have h2 : 16 < waste := by omega
    clear h
    go_enter Try.func9, Try.ntmps9
    go_wp2_with fail
    refine (HM.out _).mono ?_
    rintro e w1 ⟨rfl, rfl⟩
    go_wp2_with fail
    refine (HA.out _).mono ?_
    rintro e w3 ⟨rfl, hb3⟩
    go_wp2_with fail
    go_ret
    exact ⟨rfl, hb3⟩

theorem made_walk (waste sz al : Int) (w : World) (a0 : 0 ≤ al) (a1 : al ≤ 255) : Calls Try.prog 9 #[.int .i64 waste, .int .i64 sz, .int .u8 al] w (Yes w) := by
  by_cases h : 2 ≤ waste ∧ waste ≤ 16
  · have hr : al % 4 = 0 ∨ al % 4 = 1 ∨ al % 4 = 2 ∨ al % 4 = 3 := by omega
    rcases hr with hr | hr | hr | hr
    · exact made_in waste sz al 0 w h.1 h.2 a0 a1 hr 1 (by decide +kernel) rfl rfl
    · exact made_in waste sz al 1 w h.1 h.2 a0 a1 hr 2 (by decide +kernel) rfl rfl
    · exact made_in waste sz al 2 w h.1 h.2 a0 a1 hr 4 (by decide +kernel) rfl rfl
    · exact made_in waste sz al 3 w h.1 h.2 a0 a1 hr 8 (by decide +kernel) rfl rfl
  · exact made_out waste sz al w h

set_option maxRecDepth 100000 in
set_option maxHeartbeats 1000000 in
theorem tails_in (waste at' : Int) (w : World) (h2 : 2 ≤ waste) (h16 : waste ≤ 16) (a0 : 0 ≤ at') (a1 : at' ≤ 255) :
    Calls Try.prog 11 #[.int .i64 waste, .int .u8 at'] w (Yes w) := by
  have HA := Lib.hid alive_any
  have HM := Lib.hid (Make_made waste h2 h16)
  have hg := made_good waste h2 h16
  obtain ⟨n, hn⟩ : ∃ n, n = (mkT waste).length := ⟨_, rfl⟩
  have hle := mkT_le waste
  have htwo := hg.two
  rw [← hn] at hle htwo
  obtain ⟨k, hk⟩ : ∃ k : Nat, at' % (n : Int) = (k : Int) := Int.eq_ofNat_of_zero_le (Int.emod_nonneg _ (by omega))
  have hkn : k < n := by
    have := Int.emod_lt_of_pos at' (show (0 : Int) < (n : Int) by omega)
    omega
  have hk0 : k < (mkT waste).length := by omega
  obtain ⟨⟨cs, cp, cb⟩, hc⟩ : ∃ c, (mkT waste)[k]? = some c := ⟨_, List.getElem?_eq_getElem hk0⟩
  have hgd : (mkT waste).getD k default = ⟨cs, cp, cb⟩ := by rw [List.getD_eq_getElem?_getD, hc]; rfl
  have hokc : okC ⟨cs, cp, cb⟩ = true := by
    have := okT_all hg.ok k hk0
    unfold okAt at this
    rw [Bool.and_eq_true, hgd] at this
    exact this.1
  have htl := hg.tails k hk0
  rw [hgd] at htl
  dsimp only at htl
  obtain ⟨c1, c2, c3, c4, c5, c6, c7, c8⟩ := okC_bd hokc
  obtain ⟨b1, b2, b3, b4⟩ := tail_bd c4 c5 c1 c2
  have hT := Tail_any cs cp cb
  have hO := Objects_any cs cp cb
  have e1 : tailV ⟨cs, cp, cb⟩ = cp * 256 - cp * 256 / cs * cs := by unfold tailV; rw [if_pos hokc]
  have e2 : errV ⟨cs, cp, cb⟩ = 0 := by unfold errV; rw [if_pos hokc]
  have e3 : objsV ⟨cs, cp, cb⟩ = cp * 256 / cs := by unfold objsV; rw [if_pos hokc]
  rw [e1, e2] at hT
  rw [e3, e2] at hO
  have hone : 1 ≤ cp * 256 / cs := by
    have := (Int.le_ediv_iff_mul_le (show 0 < cs by omega) : 1 ≤ cp * 256 / cs ↔ _)
    rw [this]
    omega
  have HT := Lib.hid hT
  have HO := Lib.hid hO
  have HN := Lib.hid hn
  have HC := Lib.hid hc
  generalize cp * 256 / cs = Q at HT HO b1 b2 b3 b4 hone htl
  obtain ⟨M, hM⟩ : ∃ M, M = Q * cs := ⟨_, rfl⟩
  have HMM := Lib.hid hM
  rw [← hM] at HT b3 b4 htl
  clear hT hO hn hc hg hgd hokc e1 e2 e3 hM
  go_enter Try.func11, Try.ntmps11
  go_wp2_with fail
  refine (HM.out _).mono ?_
  unfold Made
  rw [← HN.out]
  rintro e w1 ⟨A, c, rfl, ht1, hb1⟩
  obtain ⟨bk, o, rfl, hab, g1, g2, g3⟩ := ht1 k _ HC.out
  dsimp only at g1 g2 g3
  clear ht1
  have hq : Q * cs = M := HMM.out.symm
  have p0 : 0 ≤ waste * (cp * 256 - M) := Int.mul_nonneg (by omega) (by omega)
  have p1 : waste * (cp * 256 - M) ≤ 16384 := Int.le_trans (Int.mul_le_mul h16 (show _ ≤ (1024 : Int) by omega) (by omega) (by omega)) (by omega)
  by_cases h4 : cp = 4
  · have h4' : (cp == 4) = true := by simpa using h4
    clear h4 htl
    go_wp2_with fail
    refine (HT.out _).mono ?_
    rintro e w2 ⟨rfl, hb2⟩
    have d0 := hb2.cell (p := ⟨w1.heap.size, 0, none⟩) (by simp)
    have d1 := hb2.cell (p := ⟨w1.heap.size, 1, none⟩) (by simp)
    have d2 := hb2.cell (p := ⟨w1.heap.size, 2, none⟩) (by simp)
    have hz2 : w1.heap.size < w2.heap.size := by have := hb2.size; simp at this; omega
    go_wp2_with fail
    refine (HO.out _).mono ?_
    rintro e w3 ⟨rfl, hb3⟩
    have f0 := (hb3.cell (p := ⟨w1.heap.size, 0, none⟩) hz2).trans d0
    have f1 := (hb3.cell (p := ⟨w1.heap.size, 1, none⟩) hz2).trans d1
    go_wp2_with fail
    refine (HA.out _).mono ?_
    rintro e w4 ⟨rfl, hb4⟩
    go_wp2_with fail
    go_ret
    exact ⟨rfl, btr (btr (btr hb1 (btr (bnew w1 _) hb2 (Nat.le_refl _)) (Nat.le_refl _)) hb3 (Nat.le_refl _)) hb4 (Nat.le_refl _)⟩
  · have h4' : (cp == 4) = false := by simpa using h4
    have htl' : waste * (cp * 256 - M) ≤ cp * 256 := by omega
    clear h4 htl
    go_wp2_with fail
    refine (HT.out _).mono ?_
    rintro e w2 ⟨rfl, hb2⟩
    have d0 := hb2.cell (p := ⟨w1.heap.size, 0, none⟩) (by simp)
    have d1 := hb2.cell (p := ⟨w1.heap.size, 1, none⟩) (by simp)
    have d2 := hb2.cell (p := ⟨w1.heap.size, 2, none⟩) (by simp)
    have hz2 : w1.heap.size < w2.heap.size := by have := hb2.size; simp at this; omega
    go_wp2_with fail
    refine (HO.out _).mono ?_
    rintro e w3 ⟨rfl, hb3⟩
    have f0 := (hb3.cell (p := ⟨w1.heap.size, 0, none⟩) hz2).trans d0
    have f1 := (hb3.cell (p := ⟨w1.heap.size, 1, none⟩) hz2).trans d1
    go_wp2_with fail
    refine (HA.out _).mono ?_
    rintro e w4 ⟨rfl, hb4⟩
    go_wp2_with fail
    go_ret
    exact ⟨rfl, btr (btr (btr hb1 (btr (bnew w1 _) hb2 (Nat.le_refl _)) (Nat.le_refl _)) hb3 (Nat.le_refl _)) hb4 (Nat.le_refl _)⟩

set_option maxRecDepth 100000 in
set_option maxHeartbeats 400000 in
theorem tails_walk (waste at' : Int) (w : World) (a0 : 0 ≤ at') (a1 : at' ≤ 255) : Calls Try.prog 11 #[.int .i64 waste, .int .u8 at'] w (Yes w) := by
  by_cases h : 2 ≤ waste ∧ waste ≤ 16
  · exact tails_in waste at' w h.1 h.2 a0 a1
  · have HA := Lib.hid alive_any
    have HM := Lib.hid (Make_no waste (by omega))
    clear h
    go_enter Try.func11, Try.ntmps11
    go_wp2_with fail
    refine (HM.out _).mono ?_
    rintro e w1 ⟨rfl, rfl⟩
    go_wp2_with fail
    refine (HA.out _).mono ?_
    rintro e w3 ⟨rfl, hb3⟩
    go_wp2_with fail
    go_ret
    exact ⟨rfl, hb3⟩

end Go.Proofs.Ytjloipljecjbaaa
