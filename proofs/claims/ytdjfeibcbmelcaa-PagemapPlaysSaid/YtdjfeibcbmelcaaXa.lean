/- The statements about refusals and about Next: what their calls return. -/
import Derived.Test.YtdjfeibcbmelcaaFc
namespace Go.Proofs.Ytdjfeibcbmelcaa
open Go.RowKit

/-- True, and nothing that lay before has changed. -/
def Yes (w : World) (e : Ending) (w' : World) : Prop := e = .returned (.bool true) ∧ Below w.heap.size w w'
theorem nwlo {w w1 : World} : ∀ k, Nw w w1 k → w.heap.size ≤ k := fun _ hk => hk.1

/-- What is refused. -/
def Bad (x : Ac) : Prop := x.a < 0 ∨ (0 ≤ x.a ∧ x.b < 1) ∨ (1 ≤ x.b ∧ 1024 ≤ x.a) ∨ (0 ≤ x.a ∧ x.a < 1024 ∧ 1 ≤ x.b ∧ 1024 - x.a < x.b) ∨
  (0 ≤ x.a ∧ 1 ≤ x.b ∧ x.a < 1024 ∧ x.b ≤ 1024 - x.a ∧ x.k = 0 ∧ x.c < 1) ∨ (0 ≤ x.a ∧ 1 ≤ x.b ∧ x.a < 1024 ∧ x.b ≤ 1024 - x.a ∧ x.k = 0 ∧ 1 ≤ x.c ∧ 1073741824 < x.c)
theorem insB_iff (s n : Int) : insB s n = true ↔ 0 ≤ s ∧ 1 ≤ n ∧ n ≤ 1024 - s := by unfold insB; exact decide_eq_true_iff
theorem noB_iff (v : Int) : noB v = true ↔ 1 ≤ v ∧ v ≤ 1073741824 := by unfold noB; exact decide_eq_true_iff
theorem do_bad {M : Nat → Int} {x : Ac} (h : doE x ≠ 0) : doE x = 1 ∧ doM M x = M ∧ Bad x := by
  unfold doE at h ⊢
  unfold doM Bad
  by_cases h0 : x.k = 0
  · rw [if_pos h0] at h ⊢
    rw [if_pos h0]
    unfold setE at h ⊢
    unfold setD
    by_cases hi : insB x.a x.b = true ∧ noB x.c = true
    · rw [if_pos hi] at h; omega
    · rw [if_neg hi, if_neg hi]
      rw [insB_iff, noB_iff] at hi
      exact ⟨rfl, rfl, by omega⟩
  · rw [if_neg h0] at h ⊢
    rw [if_neg h0]
    by_cases h1 : x.k = 1
    · rw [if_pos h1] at h ⊢
      rw [if_pos h1]
      unfold clrE at h ⊢
      unfold clrD
      by_cases hi : insB x.a x.b = true
      · rw [if_pos hi] at h; omega
      · rw [if_neg hi, if_neg hi]
        rw [insB_iff] at hi
        exact ⟨rfl, rfl, by omega⟩
    · rw [if_neg h1] at h
      omega

set_option maxRecDepth 100000 in
set_option maxHeartbeats 2000000 in
theorem refuses_walk (A : Option Addr) (c : Nat) (l : List Ac) (x : Ac) (w : World) (hl : l.length ≤ 9223372036854775807) (hA : ActsAt w w.heap.size A l) (hx : AcR x) :
    Calls Try.prog 10 #[.slice A l.length c, .agg #[.int .i64 x.k, .int .i64 x.a, .int .i64 x.b, .int .i64 x.c]] w (Yes w) := by
  have HAL := Lib.hid alive_any
  have HMD := Lib.hid (fun w hA => made'_any A c l w hl hA)
  obtain ⟨L, hL⟩ : ∃ L, L = l.length := ⟨_, rfl⟩
  rw [← hL] at hl HMD ⊢
  have HG := Lib.hid (fun w => great_any A L c w hl)
  have HA := Lib.hid hA
  clear hA hL
  obtain ⟨W0, hW, hb0, hz, c0, c1, c2, c3⟩ := new4 w (.int .i64 x.k) (.int .i64 x.a) (.int .i64 x.b) (.int .i64 x.c) 30
  have HB0 := Lib.hid hb0
  have HX := Lib.hid hx
  clear hb0 hx
  by_cases h60 : 60 < L
  · rw [decide_eq_true h60] at HG
    go_enter Try.func10, Try.ntmps10
    go_wp2_with fail
    refine (HG.out _).mono ?_
    rintro e _ ⟨rfl, rfl⟩
    go_wp2_with fail
    refine (HAL.out _).mono ?_
    rintro e w1 ⟨rfl, hb1⟩
    go_wp2_with fail
    go_ret
    exact ⟨rfl, btr HB0.out hb1 (Nat.le_refl _)⟩
  · rw [decide_eq_false h60] at HG
    clear h60
    go_enter Try.func10, Try.ntmps10
    go_wp2_with fail
    refine (HG.out _).mono ?_
    rintro e _ ⟨rfl, rfl⟩
    go_wp2_with fail
    refine (HMD.out _ ((HA.out.below HB0.out).more HB0.out.size)).mono ?_
    rintro e w1 ⟨B, rfl, hb1, ht1⟩
    have HB1 := Lib.hid hb1
    have HT1 := Lib.hid ht1
    have HB01 := Lib.hid (btr HB0.out hb1 (Nat.le_refl _))
    clear hb1 ht1
    go_wp2_with fail
    refine (HMD.out _ ((HA.out.below HB01.out).more HB01.out.size)).mono ?_
    rintro e w2 ⟨C, rfl, hb2, ht2⟩
    have HB2 := Lib.hid hb2
    have HT2 := Lib.hid ht2
    have hb12 := btr HB1.out hb2 (Nat.le_refl _)
    have HB12 := Lib.hid hb12
    have d0 := (hb12.cell (p := ⟨w.heap.size, 0, none⟩) hz).trans c0
    have d1 := (hb12.cell (p := ⟨w.heap.size, 1, none⟩) hz).trans c1
    have d2 := (hb12.cell (p := ⟨w.heap.size, 2, none⟩) hz).trans c2
    have d3 := (hb12.cell (p := ⟨w.heap.size, 3, none⟩) hz).trans c3
    clear hb2 ht2 c0 c1 c2 c3 hb12 hW
    go_wp2_with fail
    refine (do_at x (HT1.out.below HB2.out) HX.out).mono ?_
    rintro e w3 ⟨rfl, hM⟩
    have HM := Lib.hid hM
    have hb3 : Below W0.heap.size W0 w3 := HB12.out.trans (hM.2.below HB12.out.size nwlo)
    have HB3 := Lib.hid hb3
    have e0 := (hb3.cell (p := ⟨w.heap.size, 0, none⟩) hz).trans ((HB12.out.cell (p := ⟨w.heap.size, 0, none⟩) hz).symm.trans d0)
    have e1 := (hb3.cell (p := ⟨w.heap.size, 1, none⟩) hz).trans ((HB12.out.cell (p := ⟨w.heap.size, 1, none⟩) hz).symm.trans d1)
    have e2 := (hb3.cell (p := ⟨w.heap.size, 2, none⟩) hz).trans ((HB12.out.cell (p := ⟨w.heap.size, 2, none⟩) hz).symm.trans d2)
    have e3 := (hb3.cell (p := ⟨w.heap.size, 3, none⟩) hz).trans ((HB12.out.cell (p := ⟨w.heap.size, 3, none⟩) hz).symm.trans d3)
    have HTC := Lib.hid (HT2.out.keep hM.2 (fun k hk hk2 => by have := hk.1; have := hk2.2; omega))
    clear hM hb3 d0 d1 d2 d3
    by_cases hE : doE x = 0
    · rw [hE]
      clear hE e0 e1 e2 e3
      go_wp2_with fail
      refine (HAL.out _).mono ?_
      rintro e w4 ⟨rfl, hb4⟩
      go_wp2_with fail
      go_ret
      exact ⟨rfl, btr HB0.out (btr HB3.out hb4 (Nat.le_refl _)) (Nat.le_refl _)⟩
    · obtain ⟨hE1, hD, hbad⟩ := do_bad (M := runM noM l) hE
      have hT3 := HM.out.1
      rw [hD] at hT3
      have hal := Same_any hT3 HTC.out
      rw [eqM_self] at hal
      have HALK := Lib.hid hal
      rw [hE1]
      clear hT3 hal hE hE1 hD
      obtain ⟨xk, xa, xb, xc⟩ := x
      obtain ⟨⟨k1, k2⟩, ⟨a1, a2⟩, ⟨b1, b2⟩, ⟨c1, c2⟩⟩ := HX.out
      unfold Bad at hbad
      dsimp only at hbad e0 e1 e2 e3 k1 k2 a1 a2 b1 b2 c1 c2
      rcases hbad with hbad | ⟨g1, hbad⟩ | ⟨g1, hbad⟩ | ⟨g1, g2, g3, hbad⟩ | ⟨g1, g2, g3, g4, rfl, hbad⟩ | ⟨g1, g2, g3, g4, rfl, g5, hbad⟩
      all_goals
        go_wp2_with fail
        refine HALK.out.mono ?_
        rintro e w4 ⟨rfl, hb4⟩
        have HB4 := Lib.hid (btr HB3.out hb4 (Nat.le_refl _))
        clear hb4
        go_wp2_with fail
        refine (HAL.out _).mono ?_
        rintro e w5 ⟨rfl, hb5⟩
        go_wp2_with fail
        go_ret
        exact ⟨rfl, btr HB0.out (btr HB4.out hb5 (Nat.le_refl _)) (Nat.le_refl _)⟩

end Go.Proofs.Ytdjfeibcbmelcaa
