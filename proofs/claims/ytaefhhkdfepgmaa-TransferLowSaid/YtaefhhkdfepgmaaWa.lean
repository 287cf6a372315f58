/- The statements that set a cache beside the document's: whatever is called, and one that nobody made. -/
import Derived.Test.YtaefhhkdfepgmaaFd
namespace Go.Proofs.Ytaefhhkdfepgmaa
open Go.RowKit Go.Lib

theorem Two.later {ra rb : Bool} {w00 w0 w : World} {a b : Value} {oa ob : Option Tc} {O1 O2 : Nat → Prop} (h : Two ra rb w0 w a b oa ob O1 O2) (hb : Below w00.heap.size w00 w0) : Two ra rb w00 w a b oa ob O1 O2 := ⟨h.a.later hb, h.b.later hb, h.d⟩

set_option maxRecDepth 100000 in
set_option maxHeartbeats 8000000 in
theorem plays_walk (b r : Int) (A : Option Addr) (cp : Nat) (l : List Ak) (w : World) (hl : l.length ≤ 9223372036854775807) (hA : ActsAt w w.heap.size A l) :
    Calls Try.prog 3 #[.int .i64 b, .int .i64 r, .slice A l.length cp] w (Yes w) := by
  have HAL := Lib.hid alive_any
  have HG := Lib.hid (great_any A cp l w hl hA)
  have HN1 := Lib.hid (cNew_any b r w)
  have HN2 := Lib.hid (fun W => dNew_any b r W)
  have HA := Lib.hid hA
  obtain ⟨L, hL⟩ : ∃ L, l.length = L := ⟨_, rfl⟩
  have HL := Lib.hid hL
  rw [hL] at hl HG ⊢
  clear hA hL
  by_cases hg : grB l = true
  · rw [hg] at HG
    go_enter Try.func3, Try.ntmps3
    go_wp2_with fail
    refine HG.out.mono ?_
    rintro e _ ⟨rfl, rfl⟩
    go_wp2_with fail
    refine (HAL.out _).mono ?_
    rintro e w2 ⟨rfl, hb⟩
    have HF := Lib.hid hb
    clear hb
    go_wp2_with fail
    go_ret
    exact ⟨rfl, HF.out⟩
  · have hg' : grB l = false := by simpa using hg
    rw [hg'] at HG
    have H60 := Lib.hid (grB_no hg').2
    clear hg hg'
    go_enter Try.func3, Try.ntmps3
    go_wp2_with fail
    refine HG.out.mono ?_
    rintro e _ ⟨rfl, rfl⟩
    go_wp2_with fail
    refine HN1.out.mono ?_
    rintro e w1 ⟨v1, rfl, ob1, hv1, hb1⟩
    have HO1 := Lib.hid (And.intro (Own.new ob1 hb1) hv1)
    clear ob1 hv1 hb1 HN1
    go_wp2_with fail
    refine (HN2.out _).mono ?_
    rintro e w2 ⟨v2, rfl, ob2, hv2, hb2⟩
    have HT := Lib.hid (Two.of HO1.out.1 (Own.new ob2 hb2))
    have HV := Lib.hid (And.intro HO1.out.2 hv2)
    clear ob2 hv2 hb2 HO1
    generalize newE b r = er at *
    obtain ⟨om, hom⟩ : ∃ om, newT b r = om := ⟨_, rfl⟩
    rw [hom] at HT HV
    clear hom HN2
    cases om with
    | none =>
      obtain rfl := HV.out.1.1 rfl
      obtain rfl := HV.out.2.1 rfl
      go_wp2_with fail
      clear HV
      go_loopw [7, 9, 11] (fun va vb i wr => ∃ (k : Nat) (pa pb : Option Addr) (ok : Option Tc) (O1 O2 : Nat → Prop), k ≤ L ∧ i = .int .i64 k ∧ va = .pointer pa ∧ vb = .pointer pb ∧ Two false true w wr (.pointer pa) (.pointer pb) ok ok O1 O2) (fun _ _ i _ => L - (intOf i).toNat)
      case atStart => exact ⟨0, _, _, _, _, _, by omega, rfl, rfl, rfl, HT.out⟩
      case round =>
        clear HT
        obtain ⟨k, pa, pb, ok, O1, O2, hk, rfl, rfl, rfl, hP⟩ := hrel
        have HP := Lib.hid hP
        by_cases hlt : k < L
        · obtain ⟨x, hx⟩ : ∃ x, l[k]? = some x := ⟨_, List.getElem?_eq_getElem (by have := HL.out; omega)⟩
          have HX := Lib.hid (fun W (hb : Below w.heap.size w W) => (HA.out.below hb) k x hx)
          have H6 := Lib.hid (H60.out k x hx)
          obtain ⟨bb, o, u, rfl, hB, g1, g2, hv⟩ := HX.out _ hP.a.bel
          clear hP hx hv g2
          by_cases h4 : x.k = 4
          · have HK4 := Lib.hid h4
            rw [h4] at g1
            clear h4
            go_wp2_with fail
            refine (cClone_any HP.out.a.ob).mono ?_
            rintro e w3 ⟨p3, rfl, ob3, _, hb3⟩
            have HO3 := Lib.hid (Own.new ob3 hb3)
            have HP3 := Lib.hid (HP.out.below hb3)
            clear ob3 hb3 g1
            go_wp2_with fail
            refine (dClone_any HP3.out.b.ob).mono ?_
            rintro e w4 ⟨p4, rfl, ob4, _, hb4⟩
            have HT4 := Lib.hid ((Two.of HO3.out (Own.new ob4 hb4)).later HP.out.a.bel)
            clear ob4 hb4 HO3 HP3
            obtain ⟨bb', o', u', e', hB', g1, g2, hv⟩ := HX.out _ HT4.out.a.bel
            cases e'
            have HPL := Lib.hid (play_any x HT4.out (Nat.le_refl _) hv H6.out)
            clear hv
            go_wp2_with fail
            refine HPL.out.mono ?_
            rintro e w5 ⟨rfl, O5, O6, hT5⟩
            have HT5 := Lib.hid hT5
            clear hT5 g1 g2
            go_wp2_with fail
            refine (Same_any HT5.out.a.ob HT5.out.b.ob).mono ?_
            rintro e w6 ⟨rfl, hb6⟩
            have HT6 := Lib.hid (HT5.out.below hb6)
            clear hb6
            go_wp2_with fail
            go_roundw
            case rel => exact ⟨k + 1, _, _, _, _, _, by omega, by go_num, rfl, rfl, HT6.out⟩
            case measure => simp [intOf]; omega
          · have h4' : (x.k == 4) = false := by simpa using h4
            obtain ⟨bb', o', u', e', hB', g1', g2, hv⟩ := HX.out _ HP.out.a.bel
            cases e'
            have HPL := Lib.hid (play_any x HP.out (Nat.le_refl _) hv H6.out)
            clear hv h4 g1'
            go_wp2_with fail
            refine HPL.out.mono ?_
            rintro e w5 ⟨rfl, O5, O6, hT5⟩
            have HT5 := Lib.hid hT5
            clear hT5 g1 g2
            go_wp2_with fail
            refine (Same_any HT5.out.a.ob HT5.out.b.ob).mono ?_
            rintro e w6 ⟨rfl, hb6⟩
            have HT6 := Lib.hid (HT5.out.below hb6)
            clear hb6
            go_wp2_with fail
            go_roundw
            case rel => exact ⟨k + 1, _, _, _, _, _, by omega, by go_num, rfl, rfl, HT6.out⟩
            case measure => simp [intOf]; omega
        · clear hP
          go_wp2_with fail
          refine (Same_any HP.out.a.ob HP.out.b.ob).mono ?_
          rintro e w6 ⟨rfl, hb6⟩
          have HB := Lib.hid (btr HP.out.a.bel hb6 (Nat.le_refl _))
          clear hb6
          go_wp2_with fail
          refine (HAL.out _).mono ?_
          rintro e w7 ⟨rfl, hb⟩
          have HF := Lib.hid (btr HB.out hb (Nat.le_refl _))
          clear hb
          go_wp2_with fail
          go_ret
          exact ⟨rfl, HF.out⟩
    | some c =>
      obtain ⟨B1, hB1⟩ := HT.out.a.ob.ptr
      obtain ⟨B2, hB2⟩ := HT.out.b.ob.ptr
      cases hB1
      cases hB2
      clear HV
      go_wp2_with fail
      go_loopw [7, 9, 11] (fun va vb i wr => ∃ (k : Nat) (pa pb : Option Addr) (ok : Option Tc) (O1 O2 : Nat → Prop), k ≤ L ∧ i = .int .i64 k ∧ va = .pointer pa ∧ vb = .pointer pb ∧ Two false true w wr (.pointer pa) (.pointer pb) ok ok O1 O2) (fun _ _ i _ => L - (intOf i).toNat)
      case atStart => exact ⟨0, _, _, _, _, _, by omega, rfl, rfl, rfl, HT.out⟩
      case round =>
        clear HT
        obtain ⟨k, pa, pb, ok, O1, O2, hk, rfl, rfl, rfl, hP⟩ := hrel
        have HP := Lib.hid hP
        by_cases hlt : k < L
        · obtain ⟨x, hx⟩ : ∃ x, l[k]? = some x := ⟨_, List.getElem?_eq_getElem (by have := HL.out; omega)⟩
          have HX := Lib.hid (fun W (hb : Below w.heap.size w W) => (HA.out.below hb) k x hx)
          have H6 := Lib.hid (H60.out k x hx)
          obtain ⟨bb, o, u, rfl, hB, g1, g2, hv⟩ := HX.out _ hP.a.bel
          clear hP hx hv g2
          by_cases h4 : x.k = 4
          · have HK4 := Lib.hid h4
            rw [h4] at g1
            clear h4
            go_wp2_with fail
            refine (cClone_any HP.out.a.ob).mono ?_
            rintro e w3 ⟨p3, rfl, ob3, _, hb3⟩
            have HO3 := Lib.hid (Own.new ob3 hb3)
            have HP3 := Lib.hid (HP.out.below hb3)
            clear ob3 hb3 g1
            go_wp2_with fail
            refine (dClone_any HP3.out.b.ob).mono ?_
            rintro e w4 ⟨p4, rfl, ob4, _, hb4⟩
            have HT4 := Lib.hid ((Two.of HO3.out (Own.new ob4 hb4)).later HP.out.a.bel)
            clear ob4 hb4 HO3 HP3
            obtain ⟨bb', o', u', e', hB', g1, g2, hv⟩ := HX.out _ HT4.out.a.bel
            cases e'
            have HPL := Lib.hid (play_any x HT4.out (Nat.le_refl _) hv H6.out)
            clear hv
            go_wp2_with fail
            refine HPL.out.mono ?_
            rintro e w5 ⟨rfl, O5, O6, hT5⟩
            have HT5 := Lib.hid hT5
            clear hT5 g1 g2
            go_wp2_with fail
            refine (Same_any HT5.out.a.ob HT5.out.b.ob).mono ?_
            rintro e w6 ⟨rfl, hb6⟩
            have HT6 := Lib.hid (HT5.out.below hb6)
            clear hb6
            go_wp2_with fail
            go_roundw
            case rel => exact ⟨k + 1, _, _, _, _, _, by omega, by go_num, rfl, rfl, HT6.out⟩
            case measure => simp [intOf]; omega
          · have h4' : (x.k == 4) = false := by simpa using h4
            obtain ⟨bb', o', u', e', hB', g1', g2, hv⟩ := HX.out _ HP.out.a.bel
            cases e'
            have HPL := Lib.hid (play_any x HP.out (Nat.le_refl _) hv H6.out)
            clear hv h4 g1'
            go_wp2_with fail
            refine HPL.out.mono ?_
            rintro e w5 ⟨rfl, O5, O6, hT5⟩
            have HT5 := Lib.hid hT5
            clear hT5 g1 g2
            go_wp2_with fail
            refine (Same_any HT5.out.a.ob HT5.out.b.ob).mono ?_
            rintro e w6 ⟨rfl, hb6⟩
            have HT6 := Lib.hid (HT5.out.below hb6)
            clear hb6
            go_wp2_with fail
            go_roundw
            case rel => exact ⟨k + 1, _, _, _, _, _, by omega, by go_num, rfl, rfl, HT6.out⟩
            case measure => simp [intOf]; omega
        · clear hP
          go_wp2_with fail
          refine (Same_any HP.out.a.ob HP.out.b.ob).mono ?_
          rintro e w6 ⟨rfl, hb6⟩
          have HB := Lib.hid (btr HP.out.a.bel hb6 (Nat.le_refl _))
          clear hb6
          go_wp2_with fail
          refine (HAL.out _).mono ?_
          rintro e w7 ⟨rfl, hb⟩
          have HF := Lib.hid (btr HB.out hb (Nat.le_refl _))
          clear hb
          go_wp2_with fail
          go_ret
          exact ⟨rfl, HF.out⟩
end Go.Proofs.Ytaefhhkdfepgmaa
