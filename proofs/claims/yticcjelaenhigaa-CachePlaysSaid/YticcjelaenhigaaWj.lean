/- The statement that sets a cache beside the document's: whatever is called. -/
import Derived.Test.YticcjelaenhigaaWk
import Derived.Test.YticcjelaenhigaaRn
import Derived.Test.YticcjelaenhigaaRo
namespace Go.Proofs.Yticcjelaenhigaa
open Go.RowKit Go.Lib

set_option maxRecDepth 100000 in
set_option maxHeartbeats 8000000 in
theorem plays_walk (A0 : Option Addr) (c0 : Nat) (t : List Cs) (g : Int) (A : Option Addr) (cp : Nat) (l : List Ak) (w : World) (ht : t.length ≤ 9223372036854775807) (hT : TabAt w w.heap.size A0 t) (hl : l.length ≤ 9223372036854775807) (hA : ActsAt w w.heap.size A l) :
    Calls Try.prog 3 #[.slice A0 t.length c0, .int .i64 g, .slice A l.length cp] w (Yes w) := by
  have HAL := Lib.hid alive_any
  have HG := Lib.hid (great_any A cp l w hl hA)
  have HN1 := Lib.hid (cNew_any A0 c0 t g w ht hT)
  have HN2 := Lib.hid (fun W (hb : Below w.heap.size w W) => dNew_any A0 c0 t g W ht ((hT.below hb).more hb.size))
  have HA := Lib.hid hA
  obtain ⟨L, hL⟩ : ∃ L, l.length = L := ⟨_, rfl⟩
  have HL := Lib.hid hL
  obtain ⟨tn, htn⟩ : ∃ tn, t.length = tn := ⟨_, rfl⟩
  have HTN := Lib.hid htn
  rw [hL] at hl HG ⊢
  rw [htn] at HN1 HN2 ⊢
  clear hA hL hT ht htn
  by_cases hg : grB l = true
  · rw [hg] at HG
    go_enter Try.func3, Try.ntmps3
    go_wp2_with fail
    refine HG.out.mono ?_
    rintro e _ ⟨rfl, rfl⟩
    go_wp2_with fail
    refine (HAL.out _).mono ?_
    rintro e w2 ⟨rfl, hb⟩
    have HF := Lib.hid hb
    clear hb
    go_wp2_with fail
    go_ret
    exact ⟨rfl, HF.out⟩
  · have hg' : grB l = false := by simpa using hg
    rw [hg'] at HG
    clear hg hg'
    by_cases h100 : 100 < tn
    · have d1 : decide ((100 : Int) < (tn : Int)) = true := decide_eq_true (by omega)
      clear h100
      go_enter Try.func3, Try.ntmps3
      go_wp2_with fail
      refine HG.out.mono ?_
      rintro e _ ⟨rfl, rfl⟩
      go_wp2_with fail
      refine (HAL.out _).mono ?_
      rintro e w2 ⟨rfl, hb⟩
      have HF := Lib.hid hb
      clear hb
      go_wp2_with fail
      go_ret
      exact ⟨rfl, HF.out⟩
    · have d1 : decide ((100 : Int) < (tn : Int)) = false := decide_eq_false (by omega)
      have H100 := Lib.hid (show tn ≤ 100 from by omega)
      clear h100
      go_enter Try.func3, Try.ntmps3
      go_wp2_with fail
      refine HG.out.mono ?_
      rintro e _ ⟨rfl, rfl⟩
      go_wp2_with fail
      refine HN1.out.mono ?_
      rintro e w1 ⟨v1, rfl, ob1, hv1, hb1⟩
      have HO1 := Lib.hid (And.intro (Own.new ob1 hb1) hv1)
      clear ob1 hv1 HN1
      have HB1 := Lib.hid hb1
      clear hb1
      go_wp2_with fail
      refine (HN2.out _ HB1.out).mono ?_
      rintro e w2 ⟨v2, rfl, ob2, hv2, hb2⟩
      have HT := Lib.hid (Two.of HO1.out.1 (Own.new ob2 hb2))
      have HV := Lib.hid (And.intro HO1.out.2 hv2)
      clear ob2 hv2 hb2 HO1
      generalize newE t g = er at *
      obtain ⟨om, hom⟩ : ∃ om, newT t g = om := ⟨_, rfl⟩
      rw [hom] at HT HV
      clear hom HN2
      cases om with
      | none =>
        obtain rfl := HV.out.1.1 rfl
        obtain rfl := HV.out.2.1 rfl
        go_wp2_with fail
        clear HV
        go_loopw [7, 9, 11] (fun va vb i wr => ∃ (k : Nat) (pa pb : Option Addr) (ok : Option Tc) (O1 O2 : Nat → Prop), k ≤ L ∧ i = .int .i64 k ∧ va = .pointer pa ∧ vb = .pointer pb ∧ Two false true w wr (.pointer pa) (.pointer pb) ok ok O1 O2) (fun _ _ i _ => L - (intOf i).toNat)
        case atStart => exact ⟨0, _, _, _, _, _, by omega, rfl, rfl, rfl, HT.out⟩
        case round =>
          clear HT
          obtain ⟨k, pa, pb, ok, O1, O2, hk, rfl, rfl, rfl, hP⟩ := hrel
          have HP := Lib.hid hP
          by_cases hlt : k < L
          · obtain ⟨x, hx⟩ : ∃ x, l[k]? = some x := ⟨_, List.getElem?_eq_getElem (by have := HL.out; omega)⟩
            have HX := Lib.hid (fun W (hb : Below w.heap.size w W) => (HA.out.below hb) k x hx)
            obtain ⟨bb, o, u, rfl, hB, g1, g2, g3, g4, hv⟩ := HX.out _ hP.a.bel
            clear hP hx hv
            by_cases h6 : x.k = 6
            · have HK6 := Lib.hid h6
              rw [h6] at g1
              clear h6
              go_wp2_with fail
              refine (cClone_any HP.out.a.ob).mono ?_
              rintro e w3 ⟨p3, rfl, ob3, _, hb3⟩
              have HO3 := Lib.hid (Own.new ob3 hb3)
              have HP3 := Lib.hid (HP.out.below hb3)
              clear ob3 hb3 g1 g2 g3 g4
              go_wp2_with fail
              refine (dClone_any HP3.out.b.ob).mono ?_
              rintro e w4 ⟨p4, rfl, ob4, _, hb4⟩
              have HT4 := Lib.hid ((Two.of HO3.out (Own.new ob4 hb4)).later HP.out.a.bel)
              clear ob4 hb4 HO3 HP3
              obtain ⟨bb', o', u', e', hB', g1, g2, g3, g4, hv⟩ := HX.out _ HT4.out.a.bel
              cases e'
              have HPL := Lib.hid (play_any x HT4.out (Nat.le_refl _) hv)
              clear hv
              go_wp2_with fail
              refine HPL.out.mono ?_
              rintro e w5 ⟨rfl, O5, O6, hT5⟩
              have HT5 := Lib.hid hT5
              clear hT5 g1 g2 g3 g4
              go_wp2_with fail
              go_roundw
              case rel => exact ⟨k + 1, _, _, _, _, _, by omega, by go_num, rfl, rfl, HT5.out⟩
              case measure => simp [intOf]; omega
            · have h6' : (x.k == 6) = false := by simpa using h6
              obtain ⟨bb', o', u', e', hB', g1', g2', g3', g4', hv⟩ := HX.out _ HP.out.a.bel
              cases e'
              have HPL := Lib.hid (play_any x HP.out (Nat.le_refl _) hv)
              clear hv h6 g2 g3 g4 g1
              go_wp2_with fail
              refine HPL.out.mono ?_
              rintro e w5 ⟨rfl, O5, O6, hT5⟩
              have HT5 := Lib.hid hT5
              clear hT5
              go_wp2_with fail
              go_roundw
              case rel => exact ⟨k + 1, _, _, _, _, _, by omega, by go_num, rfl, rfl, HT5.out⟩
              case measure => simp [intOf]; omega
          · clear hP
            have h100 := H100.out
            go_wp2_with fail
            refine (Same_any tn h100 HP.out.a.ob HP.out.b.ob).mono ?_
            rintro e w6 ⟨rfl, hb6⟩
            have HB := Lib.hid (btr HP.out.a.bel hb6 (Nat.le_refl _))
            clear hb6
            go_wp2_with fail
            refine (HAL.out _).mono ?_
            rintro e w7 ⟨rfl, hb⟩
            have HF := Lib.hid (btr HB.out hb (Nat.le_refl _))
            clear hb
            go_wp2_with fail
            go_ret
            exact ⟨rfl, HF.out⟩
      | some c =>
        obtain ⟨B1, hB1⟩ := HT.out.a.ob.ptr
        obtain ⟨B2, hB2⟩ := HT.out.b.ob.ptr
        cases hB1
        cases hB2
        clear HV
        go_wp2_with fail
        go_loopw [7, 9, 11] (fun va vb i wr => ∃ (k : Nat) (pa pb : Option Addr) (ok : Option Tc) (O1 O2 : Nat → Prop), k ≤ L ∧ i = .int .i64 k ∧ va = .pointer pa ∧ vb = .pointer pb ∧ Two false true w wr (.pointer pa) (.pointer pb) ok ok O1 O2) (fun _ _ i _ => L - (intOf i).toNat)
        case atStart => exact ⟨0, _, _, _, _, _, by omega, rfl, rfl, rfl, HT.out⟩
        case round =>
          clear HT
          obtain ⟨k, pa, pb, ok, O1, O2, hk, rfl, rfl, rfl, hP⟩ := hrel
          have HP := Lib.hid hP
          by_cases hlt : k < L
          · obtain ⟨x, hx⟩ : ∃ x, l[k]? = some x := ⟨_, List.getElem?_eq_getElem (by have := HL.out; omega)⟩
            have HX := Lib.hid (fun W (hb : Below w.heap.size w W) => (HA.out.below hb) k x hx)
            obtain ⟨bb, o, u, rfl, hB, g1, g2, g3, g4, hv⟩ := HX.out _ hP.a.bel
            clear hP hx hv
            by_cases h6 : x.k = 6
            · have HK6 := Lib.hid h6
              rw [h6] at g1
              clear h6
              go_wp2_with fail
              refine (cClone_any HP.out.a.ob).mono ?_
              rintro e w3 ⟨p3, rfl, ob3, _, hb3⟩
              have HO3 := Lib.hid (Own.new ob3 hb3)
              have HP3 := Lib.hid (HP.out.below hb3)
              clear ob3 hb3 g1 g2 g3 g4
              go_wp2_with fail
              refine (dClone_any HP3.out.b.ob).mono ?_
              rintro e w4 ⟨p4, rfl, ob4, _, hb4⟩
              have HT4 := Lib.hid ((Two.of HO3.out (Own.new ob4 hb4)).later HP.out.a.bel)
              clear ob4 hb4 HO3 HP3
              obtain ⟨bb', o', u', e', hB', g1, g2, g3, g4, hv⟩ := HX.out _ HT4.out.a.bel
              cases e'
              have HPL := Lib.hid (play_any x HT4.out (Nat.le_refl _) hv)
              clear hv
              go_wp2_with fail
              refine HPL.out.mono ?_
              rintro e w5 ⟨rfl, O5, O6, hT5⟩
              have HT5 := Lib.hid hT5
              clear hT5 g1 g2 g3 g4
              go_wp2_with fail
              go_roundw
              case rel => exact ⟨k + 1, _, _, _, _, _, by omega, by go_num, rfl, rfl, HT5.out⟩
              case measure => simp [intOf]; omega
            · have h6' : (x.k == 6) = false := by simpa using h6
              obtain ⟨bb', o', u', e', hB', g1', g2', g3', g4', hv⟩ := HX.out _ HP.out.a.bel
              cases e'
              have HPL := Lib.hid (play_any x HP.out (Nat.le_refl _) hv)
              clear hv h6 g2 g3 g4 g1
              go_wp2_with fail
              refine HPL.out.mono ?_
              rintro e w5 ⟨rfl, O5, O6, hT5⟩
              have HT5 := Lib.hid hT5
              clear hT5
              go_wp2_with fail
              go_roundw
              case rel => exact ⟨k + 1, _, _, _, _, _, by omega, by go_num, rfl, rfl, HT5.out⟩
              case measure => simp [intOf]; omega
          · clear hP
            have h100 := H100.out
            go_wp2_with fail
            refine (Same_any tn h100 HP.out.a.ob HP.out.b.ob).mono ?_
            rintro e w6 ⟨rfl, hb6⟩
            have HB := Lib.hid (btr HP.out.a.bel hb6 (Nat.le_refl _))
            clear hb6
            go_wp2_with fail
            refine (HAL.out _).mono ?_
            rintro e w7 ⟨rfl, hb⟩
            have HF := Lib.hid (btr HB.out hb (Nat.le_refl _))
            clear hb
            go_wp2_with fail
            go_ret
            exact ⟨rfl, HF.out⟩
end Go.Proofs.Yticcjelaenhigaa
