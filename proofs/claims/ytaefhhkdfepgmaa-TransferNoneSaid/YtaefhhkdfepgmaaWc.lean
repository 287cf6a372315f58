/- The statement about clones. -/
import Derived.Test.YtaefhhkdfepgmaaWb
namespace Go.Proofs.Ytaefhhkdfepgmaa
open Go.RowKit Go.Lib

set_option maxRecDepth 100000 in
set_option maxHeartbeats 8000000 in
theorem clones_walk (b r : Int) (A : Option Addr) (cp : Nat) (l : List Ak) (A2 : Option Addr) (cp2 : Nat) (l2 : List Ak) (side : Bool) (w : World) (hl : l.length ≤ 9223372036854775807) (hA : ActsAt w w.heap.size A l) (hl2 : l2.length ≤ 9223372036854775807) (hA2 : ActsAt w w.heap.size A2 l2) :
    Calls Try.prog 8 #[.int .i64 b, .int .i64 r, .slice A l.length cp, .slice A2 l2.length cp2, .bool side] w (Yes w) := by
  have HAL := Lib.hid alive_any
  have HG1 := Lib.hid (great_any A cp l w hl hA)
  have HG2 := Lib.hid (great_any A2 cp2 l2 w hl2 hA2)
  have HMD := Lib.hid (fun W (hb : Below w.heap.size w W) h1 h60 => made_law b r A cp l W h1 h60 hb.size (hA.below hb))
  have HA2 := Lib.hid hA2
  obtain ⟨L, hL⟩ : ∃ L, l.length = L := ⟨_, rfl⟩
  obtain ⟨L2, hL2⟩ : ∃ L2, l2.length = L2 := ⟨_, rfl⟩
  have HL2 := Lib.hid hL2
  rw [hL] at hl HG1 HMD ⊢
  rw [hL2] at hl2 HG2 ⊢
  have HL := Lib.hid hL
  clear hA hA2 hL hL2
  by_cases hg : grB l = true
  · rw [hg] at HG1
    go_enter Try.func8, Try.ntmps8
    go_wp2_with fail
    refine HG1.out.mono ?_
    rintro e _ ⟨rfl, rfl⟩
    go_wp2_with fail
    refine (HAL.out _).mono ?_
    rintro e w2 ⟨rfl, hb⟩
    have HF := Lib.hid hb
    clear hb
    go_wp2_with fail
    go_ret
    exact ⟨rfl, HF.out⟩
  have hg' : grB l = false := by simpa using hg
  rw [hg'] at HG1
  have H60 := Lib.hid (And.intro (show L ≤ 60 by have := (grB_no hg').1; rw [← HL.out]; exact this) (grB_no hg').2)
  clear hg hg'
  by_cases hg2 : grB l2 = true
  · rw [hg2] at HG2
    go_enter Try.func8, Try.ntmps8
    go_wp2_with fail
    refine HG1.out.mono ?_
    rintro e _ ⟨rfl, rfl⟩
    go_wp2_with fail
    refine HG2.out.mono ?_
    rintro e _ ⟨rfl, rfl⟩
    go_wp2_with fail
    refine (HAL.out _).mono ?_
    rintro e w2 ⟨rfl, hb⟩
    have HF := Lib.hid hb
    clear hb
    go_wp2_with fail
    go_ret
    exact ⟨rfl, HF.out⟩
  have hg2' : grB l2 = false := by simpa using hg2
  rw [hg2'] at HG2
  have H602 := Lib.hid (grB_no hg2').2
  clear hg2 hg2'
  have HM1 := Lib.hid (HMD.out w (Below.refl _ _) H60.out.1 H60.out.2)
  obtain ⟨om, hom⟩ : ∃ om, madeO b r l = om := ⟨_, rfl⟩
  rw [hom] at HM1 HMD
  clear hom
  cases om with
  | none =>
    go_enter Try.func8, Try.ntmps8
    go_wp2_with fail
    refine HG1.out.mono ?_
    rintro e _ ⟨rfl, rfl⟩
    go_wp2_with fail
    refine HG2.out.mono ?_
    rintro e _ ⟨rfl, rfl⟩
    go_wp2_with fail
    refine HM1.out.mono ?_
    intro e w3 hm
    obtain ⟨rfl, hb3⟩ := hm.no
    have HB3 := Lib.hid hb3
    clear hm hb3
    go_wp2_with fail
    refine (HMD.out w3 HB3.out H60.out.1 H60.out.2).mono ?_
    intro e w4 hm
    obtain ⟨rfl, hb4⟩ := hm.no
    have HB4 := Lib.hid (btr HB3.out hb4 (Nat.le_refl _))
    clear hm hb4
    go_wp2_with fail
    refine (HAL.out _).mono ?_
    rintro e w5 ⟨rfl, hb⟩
    have HF := Lib.hid (btr HB4.out hb (Nat.le_refl _))
    clear hb
    go_wp2_with fail
    go_ret
    exact ⟨rfl, HF.out⟩
  | some c =>
    go_enter Try.func8, Try.ntmps8
    go_wp2_with fail
    refine HG1.out.mono ?_
    rintro e _ ⟨rfl, rfl⟩
    go_wp2_with fail
    refine HG2.out.mono ?_
    rintro e _ ⟨rfl, rfl⟩
    go_wp2_with fail
    refine HM1.out.mono ?_
    intro e w3 hm
    obtain ⟨B1, O1, rfl, ho1⟩ := hm.yes
    have HO1 := Lib.hid ho1
    clear hm ho1
    go_wp2_with fail
    refine (HMD.out w3 HO1.out.bel H60.out.1 H60.out.2).mono ?_
    intro e w4 hm
    obtain ⟨B2, O2, rfl, ho2⟩ := hm.yes
    have HTW := Lib.hid (Two.of HO1.out ho2)
    clear hm ho2 HO1
    go_wp2_with fail
    refine (cClone_any HTW.out.a.ob).mono ?_
    rintro e w5 ⟨v3, rfl, hob3, hv3, hb5⟩
    obtain ⟨B3, hB3⟩ := hob3.ptr
    injection hB3 with hB3
    subst hB3
    have HT1 := Lib.hid (HTW.out.below hb5)
    have ho3 : Own false w w5 (.pointer (some ⟨B3, 0, none⟩)) (some c) (Nw w4 w5) := (Own.new hob3 hb5).later HTW.out.a.bel
    have HT3 := Lib.hid (show Two false false w w5 _ _ _ _ _ _ from ⟨HT1.out.a, ho3, fun k h1 h2 => by have := HTW.out.a.ob.lt k h1; have := h2.1; omega⟩)
    have HT4 := Lib.hid (show Two false false w w5 _ _ _ _ _ _ from ⟨HT1.out.b, ho3, fun k h1 h2 => by have := HTW.out.b.ob.lt k h1; have := h2.1; omega⟩)
    clear hob3 hv3 hb5 ho3
    cases side with
    | true =>
        go_wp2_with fail
        go_loopw [14] (fun i wr => ∃ k : Nat, k ≤ L2 ∧ i = .int .i64 k ∧ ∃ ox O1 O2 O3, Two false false w wr (.pointer (some ⟨B1, 0, none⟩)) (.pointer (some ⟨B2, 0, none⟩)) ox (some c) O1 O2 ∧ Two false false w wr (.pointer (some ⟨B1, 0, none⟩)) (.pointer (some ⟨B3, 0, none⟩)) ox (some c) O1 O3) (fun i _ => L2 - (intOf i).toNat)
        case atStart => exact ⟨0, by omega, rfl, _, _, _, _, HT1.out, HT3.out⟩
        case round =>
          obtain ⟨k, hk, rfl, ox, O1, O2, O3, hP, hQ⟩ := hrel
          have HP := Lib.hid hP
          have HQ := Lib.hid hQ
          by_cases hlt : k < L2
          · obtain ⟨x, hx⟩ : ∃ x, l2[k]? = some x := ⟨_, List.getElem?_eq_getElem (by have := HL2.out; omega)⟩
            obtain ⟨bb, o, u, rfl, hB, g1, g2, hv⟩ := (HA2.out.below hP.a.bel) k x hx
            have HD := Lib.hid (do_any x hP.a.ob hP.a.bel.size hv (H602.out k x hx))
            clear hP hQ hx hv
            go_wp2_with fail
            refine HD.out.mono ?_
            rintro e w6 ⟨rfl, hM⟩
            have HP6 := Lib.hid (HP.out.left hM (fun _ h => h))
            have HQ6 := Lib.hid (HQ.out.left hM (fun _ h => h))
            clear hM g1 g2
            go_wp2_with fail
            go_roundw
            case rel => exact ⟨k + 1, by omega, by go_num, _, _, _, _, HP6.out, HQ6.out⟩
            case measure => simp [intOf]; omega
          · have L1 := Lib.hid (cLen_any hQ.b.ob)
            have L2' := Lib.hid (cLen_any hP.b.ob)
            have W1 := Lib.hid (cLow_any hQ.b.ob)
            have W2 := Lib.hid (cLow_any hP.b.ob)
            have B1 := Lib.hid (cObjects_any hQ.b.ob)
            have B2 := Lib.hid (fun W (hb : Below wr.heap.size wr W) => cObjects_any (hP.b.ob.below hb))
            have HBF := Lib.hid hP.a.bel
            have HI := Lib.hid (fun (A A' : Option Addr) (c1 c' : Nat) (W : World) (P P' : Nat → Prop) (hT : IAt P W A (objT (some c))) (hT' : IAt P' W A' (objT (some c))) => Ints_any A A' c1 c' (objT (some c)) W (by have := hP.b.ob.objs; omega) hT hT')
            generalize lenT (some c) = ln at *
            generalize lowT (some c) = lw at *
            clear hP hQ HP HQ
            go_wp2_with fail
            refine (L1.out).mono ?_
            rintro e _ ⟨rfl, rfl⟩
            go_wp2_with fail
            refine (L2'.out).mono ?_
            rintro e _ ⟨rfl, rfl⟩
            go_wp2_with fail
            refine (W1.out).mono ?_
            rintro e _ ⟨rfl, rfl⟩
            go_wp2_with fail
            refine (W2.out).mono ?_
            rintro e _ ⟨rfl, rfl⟩
            go_wp2_with fail
            refine (B1.out).mono ?_
            rintro e w6 ⟨A6, c6, rfl, hi, hb⟩
            have P1 := Lib.hid (And.intro hi hb)
            clear hi hb
            go_wp2_with fail
            refine (B2.out _ P1.out.2).mono ?_
            rintro e w7 ⟨A7, c7, rfl, hi, hb⟩
            have P2 := Lib.hid (And.intro hi hb)
            have P3 := Lib.hid (P1.out.1.below hb)
            clear hi hb
            go_wp2_with fail
            refine (HI.out _ _ _ _ _ _ _ P3.out P2.out.1).mono ?_
            rintro e w8 ⟨rfl, hb⟩
            have HF := Lib.hid (btr (btr (btr HBF.out P1.out.2 (Nat.le_refl _)) P2.out.2 (Nat.le_refl _)) hb (Nat.le_refl _))
            clear hb
            go_wp2_with fail
            refine (HAL.out _).mono ?_
            rintro e w9 ⟨rfl, hb⟩
            have HF2 := Lib.hid (btr HF.out hb (Nat.le_refl _))
            clear hb
            go_wp2_with fail
            go_ret
            exact ⟨rfl, HF2.out⟩
    | false =>
        go_wp2_with fail
        go_loopw [14] (fun i wr => ∃ k : Nat, k ≤ L2 ∧ i = .int .i64 k ∧ ∃ ox O1 O2 O3, Two false false w wr (.pointer (some ⟨B3, 0, none⟩)) (.pointer (some ⟨B1, 0, none⟩)) ox (some c) O1 O2 ∧ Two false false w wr (.pointer (some ⟨B3, 0, none⟩)) (.pointer (some ⟨B2, 0, none⟩)) ox (some c) O1 O3) (fun i _ => L2 - (intOf i).toNat)
        case atStart => exact ⟨0, by omega, rfl, _, _, _, _, HT3.out.swap, HT4.out.swap⟩
        case round =>
          obtain ⟨k, hk, rfl, ox, O1, O2, O3, hP, hQ⟩ := hrel
          have HP := Lib.hid hP
          have HQ := Lib.hid hQ
          by_cases hlt : k < L2
          · obtain ⟨x, hx⟩ : ∃ x, l2[k]? = some x := ⟨_, List.getElem?_eq_getElem (by have := HL2.out; omega)⟩
            obtain ⟨bb, o, u, rfl, hB, g1, g2, hv⟩ := (HA2.out.below hP.a.bel) k x hx
            have HD := Lib.hid (do_any x hP.a.ob hP.a.bel.size hv (H602.out k x hx))
            clear hP hQ hx hv
            go_wp2_with fail
            refine HD.out.mono ?_
            rintro e w6 ⟨rfl, hM⟩
            have HP6 := Lib.hid (HP.out.left hM (fun _ h => h))
            have HQ6 := Lib.hid (HQ.out.left hM (fun _ h => h))
            clear hM g1 g2
            go_wp2_with fail
            go_roundw
            case rel => exact ⟨k + 1, by omega, by go_num, _, _, _, _, HP6.out, HQ6.out⟩
            case measure => simp [intOf]; omega
          · have L1 := Lib.hid (cLen_any hP.b.ob)
            have L2' := Lib.hid (cLen_any hQ.b.ob)
            have W1 := Lib.hid (cLow_any hP.b.ob)
            have W2 := Lib.hid (cLow_any hQ.b.ob)
            have B1 := Lib.hid (cObjects_any hP.b.ob)
            have B2 := Lib.hid (fun W (hb : Below wr.heap.size wr W) => cObjects_any (hQ.b.ob.below hb))
            have HBF := Lib.hid hP.a.bel
            have HI := Lib.hid (fun (A A' : Option Addr) (c1 c' : Nat) (W : World) (P P' : Nat → Prop) (hT : IAt P W A (objT (some c))) (hT' : IAt P' W A' (objT (some c))) => Ints_any A A' c1 c' (objT (some c)) W (by have := hP.b.ob.objs; omega) hT hT')
            generalize lenT (some c) = ln at *
            generalize lowT (some c) = lw at *
            clear hP hQ HP HQ
            go_wp2_with fail
            refine (L1.out).mono ?_
            rintro e _ ⟨rfl, rfl⟩
            go_wp2_with fail
            refine (L2'.out).mono ?_
            rintro e _ ⟨rfl, rfl⟩
            go_wp2_with fail
            refine (W1.out).mono ?_
            rintro e _ ⟨rfl, rfl⟩
            go_wp2_with fail
            refine (W2.out).mono ?_
            rintro e _ ⟨rfl, rfl⟩
            go_wp2_with fail
            refine (B1.out).mono ?_
            rintro e w6 ⟨A6, c6, rfl, hi, hb⟩
            have P1 := Lib.hid (And.intro hi hb)
            clear hi hb
            go_wp2_with fail
            refine (B2.out _ P1.out.2).mono ?_
            rintro e w7 ⟨A7, c7, rfl, hi, hb⟩
            have P2 := Lib.hid (And.intro hi hb)
            have P3 := Lib.hid (P1.out.1.below hb)
            clear hi hb
            go_wp2_with fail
            refine (HI.out _ _ _ _ _ _ _ P3.out P2.out.1).mono ?_
            rintro e w8 ⟨rfl, hb⟩
            have HF := Lib.hid (btr (btr (btr HBF.out P1.out.2 (Nat.le_refl _)) P2.out.2 (Nat.le_refl _)) hb (Nat.le_refl _))
            clear hb
            go_wp2_with fail
            refine (HAL.out _).mono ?_
            rintro e w9 ⟨rfl, hb⟩
            have HF2 := Lib.hid (btr HF.out hb (Nat.le_refl _))
            clear hb
            go_wp2_with fail
            go_ret
            exact ⟨rfl, HF2.out⟩

end Go.Proofs.Ytaefhhkdfepgmaa
