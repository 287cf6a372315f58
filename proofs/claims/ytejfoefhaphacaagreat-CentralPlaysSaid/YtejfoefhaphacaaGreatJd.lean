/- The statement that sets a list beside the document's: whatever is called. -/
import Derived.Test.YtejfoefhaphacaaGreatJc
namespace Go.Proofs.YtejfoefhaphacaaGreat
open Go.RowKit Go.Sort Go.Shelf Go.Lib

set_option maxRecDepth 100000 in
set_option maxHeartbeats 8000000 in
theorem plays_walk (s p b : Int) (A : Option Addr) (cp : Nat) (l : List Ak) (w : World) (hl : l.length ≤ 9223372036854775807) (hA : ActsAt w w.heap.size A l) :
    Calls Tryz.prog 3 #[.agg #[.int .i64 s, .int .i64 p, .int .i64 b], .slice A l.length cp] w (Yes w) := by
  have HAL := Lib.hid alive_any
  obtain ⟨W2, hW0, hB2, hs0, x0, x1, x2⟩ := newA3 w (.int .i64 s) (.int .i64 p) (.int .i64 b) 23
  have HT0 := Lib.hid (fun W (hb : Below W2.heap.size W2 W) => And.intro ((hb.cell (p := ⟨w.heap.size, 0, none⟩) hs0).trans x0) (And.intro ((hb.cell (p := ⟨w.heap.size, 1, none⟩) hs0).trans x1) ((hb.cell (p := ⟨w.heap.size, 2, none⟩) hs0).trans x2)))
  have HG := Lib.hid (great_any A cp l W2 hl (hA.below hB2))
  have HN1 := Lib.hid (cNew_any s p b W2)
  have HN2 := Lib.hid (fun W => dNew_any s p b W)
  have HA := Lib.hid (fun W (hb : Below W2.heap.size W2 W) => hA.below (btr hB2 hb (Nat.le_refl _)))
  have HS2 := Lib.hid hB2.size
  have HB2 := Lib.hid hB2
  obtain ⟨L, hL⟩ : ∃ L, l.length = L := ⟨_, rfl⟩
  have HL := Lib.hid hL
  rw [hL] at hl HG ⊢
  clear hA hL hB2 hs0
  by_cases hg : grB l = true
  · rw [hg] at HG
    go_enter Tryz.func3, Tryz.ntmps3
    go_wp2_with fail
    refine HG.out.mono ?_
    rintro e _ ⟨rfl, rfl⟩
    go_wp2_with fail
    refine (HAL.out _).mono ?_
    rintro e w2 ⟨rfl, hb⟩
    have HF := Lib.hid (btr HB2.out hb (Nat.le_refl _))
    clear hb
    go_wp2_with fail
    go_ret
    exact ⟨rfl, HF.out⟩
  · have hg' : grB l = false := by simpa using hg
    rw [hg'] at HG
    have H60 := Lib.hid (grB_no hg').2
    clear hg hg'
    go_enter Tryz.func3, Tryz.ntmps3
    go_wp2_with fail
    refine HG.out.mono ?_
    rintro e _ ⟨rfl, rfl⟩
    go_wp2_with fail
    refine HN1.out.mono ?_
    rintro e w1 ⟨v1, rfl, ob1, hv1, hb1⟩
    have HO1 := Lib.hid (And.intro (OwnR.new ob1 hb1) hv1)
    obtain ⟨y0, y1, y2⟩ := HT0.out _ hb1
    clear ob1 hv1 hb1 HN1 x0 x1 x2
    go_wp2_with fail
    refine (HN2.out _).mono ?_
    rintro e w2 ⟨v2, rfl, ob2, hv2, hb2⟩
    have HT := Lib.hid (TwR.of HO1.out.1 (OwnR.new ob2 hb2))
    have HV := Lib.hid (And.intro HO1.out.2 hv2)
    clear ob2 hv2 hb2 HO1 y0 y1 y2
    generalize errV ⟨s, p, b⟩ = er at *
    obtain ⟨om, hom⟩ : ∃ om, newC ⟨s, p, b⟩ = om := ⟨_, rfl⟩
    rw [hom] at HT HV
    clear hom HN2 HT0
    cases om with
    | none =>
      obtain rfl := HV.out.1 rfl
      obtain rfl := HV.out.2 rfl
      clear HV
      go_wp2_with fail
      go_loopw [5, 7, 9] (fun va vb i wr => ∃ (k : Nat) (pa pb : Option Addr) (ok : Option Ce) (O1 O2 : Nat → Prop), k ≤ L ∧ i = .int .i64 k ∧ va = .pointer pa ∧ vb = .pointer pb ∧ TwR W2 wr (.pointer pa) (.pointer pb) ok ok O1 O2) (fun _ _ i _ => L - (intOf i).toNat)
      case atStart => exact ⟨0, _, _, _, _, _, by omega, rfl, rfl, rfl, HT.out⟩
      case round =>
        clear HT
        obtain ⟨k, pa, pb, ok, O1, O2, hk, rfl, rfl, rfl, hP⟩ := hrel
        have HP := Lib.hid hP
        by_cases hlt : k < L
        · obtain ⟨x, hx⟩ : ∃ x, l[k]? = some x := ⟨_, List.getElem?_eq_getElem (by have := HL.out; omega)⟩
          have HX := Lib.hid (fun W (hb : Below W2.heap.size W2 W) => (HA.out W hb) k x hx)
          have H6 := Lib.hid (H60.out k x hx)
          obtain ⟨bb, o, u, rfl, hB, g1, g2, g3, hv⟩ := HX.out _ hP.a.bel
          clear hP hx hv g2 g3
          by_cases h4 : x.k = 6
          · rw [h4] at g1
            clear h4
            go_wp2_with fail
            refine (cClone_any HP.out.a.ob).mono ?_
            rintro e w3 ⟨p3, rfl, ob3, _, hb3⟩
            have HO3 := Lib.hid (OwnR.new ob3 hb3)
            have HP3 := Lib.hid (HP.out.below hb3)
            clear ob3 hb3 g1
            go_wp2_with fail
            refine (dClone_any HP3.out.b.ob).mono ?_
            rintro e w4 ⟨p4, rfl, ob4, _, hb4⟩
            have HT4 := Lib.hid ((TwR.of HO3.out (OwnR.new ob4 hb4)).later HP.out.a.bel)
            clear ob4 hb4 HO3 HP3
            obtain ⟨bb', o', u', e', hB', g1, g2, g3, hv⟩ := HX.out _ HT4.out.a.bel
            cases e'
            have HPL := Lib.hid (play_any x HT4.out HS2.out hv H6.out)
            clear hv
            go_wp2_with fail
            refine HPL.out.mono ?_
            rintro e w5 ⟨rfl, O5, O6, hT5⟩
            have HT5 := Lib.hid hT5
            clear hT5 g1 g2 g3
            go_wp2_with fail
            go_roundw
            case rel => exact ⟨k + 1, _, _, _, _, _, by omega, by go_num, rfl, rfl, HT5.out⟩
            case measure => simp [intOf]; omega
          · have h4' : (x.k == 6) = false := by simpa using h4
            obtain ⟨bb', o', u', e', hB', g1', g2, g3, hv⟩ := HX.out _ HP.out.a.bel
            cases e'
            have HPL := Lib.hid (play_any x HP.out HS2.out hv H6.out)
            clear hv h4 g1'
            go_wp2_with fail
            refine HPL.out.mono ?_
            rintro e w5 ⟨rfl, O5, O6, hT5⟩
            have HT5 := Lib.hid hT5
            clear hT5 g1 g2 g3
            go_wp2_with fail
            go_roundw
            case rel => exact ⟨k + 1, _, _, _, _, _, by omega, by go_num, rfl, rfl, HT5.out⟩
            case measure => simp [intOf]; omega
        · clear hP
          go_wp2_with fail
          refine (Same_any HP.out.a.ob HP.out.b.ob).mono ?_
          rintro e w6 ⟨rfl, hb6⟩
          have HB := Lib.hid (btr HP.out.a.bel hb6 (Nat.le_refl _))
          clear hb6
          go_wp2_with fail
          refine (HAL.out _).mono ?_
          rintro e w7 ⟨rfl, hb⟩
          have HF := Lib.hid (btr HB2.out (btr HB.out hb (Nat.le_refl _)) (Nat.le_refl _))
          clear hb
          go_wp2_with fail
          go_ret
          exact ⟨rfl, HF.out⟩
    | some c =>
      obtain ⟨B1, hB1⟩ := lob_ptr HT.out.a.ob
      obtain ⟨B2, hB2⟩ := lob_ptr HT.out.b.ob
      cases hB1
      cases hB2
      clear HV
      go_wp2_with fail
      go_loopw [5, 7, 9] (fun va vb i wr => ∃ (k : Nat) (pa pb : Option Addr) (ok : Option Ce) (O1 O2 : Nat → Prop), k ≤ L ∧ i = .int .i64 k ∧ va = .pointer pa ∧ vb = .pointer pb ∧ TwR W2 wr (.pointer pa) (.pointer pb) ok ok O1 O2) (fun _ _ i _ => L - (intOf i).toNat)
      case atStart => exact ⟨0, _, _, _, _, _, by omega, rfl, rfl, rfl, HT.out⟩
      case round =>
        clear HT
        obtain ⟨k, pa, pb, ok, O1, O2, hk, rfl, rfl, rfl, hP⟩ := hrel
        have HP := Lib.hid hP
        by_cases hlt : k < L
        · obtain ⟨x, hx⟩ : ∃ x, l[k]? = some x := ⟨_, List.getElem?_eq_getElem (by have := HL.out; omega)⟩
          have HX := Lib.hid (fun W (hb : Below W2.heap.size W2 W) => (HA.out W hb) k x hx)
          have H6 := Lib.hid (H60.out k x hx)
          obtain ⟨bb, o, u, rfl, hB, g1, g2, g3, hv⟩ := HX.out _ hP.a.bel
          clear hP hx hv g2 g3
          by_cases h4 : x.k = 6
          · rw [h4] at g1
            clear h4
            go_wp2_with fail
            refine (cClone_any HP.out.a.ob).mono ?_
            rintro e w3 ⟨p3, rfl, ob3, _, hb3⟩
            have HO3 := Lib.hid (OwnR.new ob3 hb3)
            have HP3 := Lib.hid (HP.out.below hb3)
            clear ob3 hb3 g1
            go_wp2_with fail
            refine (dClone_any HP3.out.b.ob).mono ?_
            rintro e w4 ⟨p4, rfl, ob4, _, hb4⟩
            have HT4 := Lib.hid ((TwR.of HO3.out (OwnR.new ob4 hb4)).later HP.out.a.bel)
            clear ob4 hb4 HO3 HP3
            obtain ⟨bb', o', u', e', hB', g1, g2, g3, hv⟩ := HX.out _ HT4.out.a.bel
            cases e'
            have HPL := Lib.hid (play_any x HT4.out HS2.out hv H6.out)
            clear hv
            go_wp2_with fail
            refine HPL.out.mono ?_
            rintro e w5 ⟨rfl, O5, O6, hT5⟩
            have HT5 := Lib.hid hT5
            clear hT5 g1 g2 g3
            go_wp2_with fail
            go_roundw
            case rel => exact ⟨k + 1, _, _, _, _, _, by omega, by go_num, rfl, rfl, HT5.out⟩
            case measure => simp [intOf]; omega
          · have h4' : (x.k == 6) = false := by simpa using h4
            obtain ⟨bb', o', u', e', hB', g1', g2, g3, hv⟩ := HX.out _ HP.out.a.bel
            cases e'
            have HPL := Lib.hid (play_any x HP.out HS2.out hv H6.out)
            clear hv h4 g1'
            go_wp2_with fail
            refine HPL.out.mono ?_
            rintro e w5 ⟨rfl, O5, O6, hT5⟩
            have HT5 := Lib.hid hT5
            clear hT5 g1 g2 g3
            go_wp2_with fail
            go_roundw
            case rel => exact ⟨k + 1, _, _, _, _, _, by omega, by go_num, rfl, rfl, HT5.out⟩
            case measure => simp [intOf]; omega
        · clear hP
          go_wp2_with fail
          refine (Same_any HP.out.a.ob HP.out.b.ob).mono ?_
          rintro e w6 ⟨rfl, hb6⟩
          have HB := Lib.hid (btr HP.out.a.bel hb6 (Nat.le_refl _))
          clear hb6
          go_wp2_with fail
          refine (HAL.out _).mono ?_
          rintro e w7 ⟨rfl, hb⟩
          have HF := Lib.hid (btr HB2.out (btr HB.out hb (Nat.le_refl _)) (Nat.le_refl _))
          clear hb
          go_wp2_with fail
          go_ret
          exact ⟨rfl, HF.out⟩
end Go.Proofs.YtejfoefhaphacaaGreat
