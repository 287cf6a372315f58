/- The statement: a clone and the cache do not change each other. -/
import Derived.Test.YticcjelaenhigaaWb
namespace Go.Proofs.Yticcjelaenhigaa
open Go.RowKit Go.Lib

set_option maxRecDepth 100000 in
set_option maxHeartbeats 16000000 in
theorem clones_walk (A0 : Option Addr) (c0 : Nat) (t : List Cs) (g : Int) (A : Option Addr) (cp : Nat) (l : List Ak) (A2 : Option Addr) (cp2 : Nat) (l2 : List Ak) (side : Bool) (w : World) (ht : t.length ≤ 9223372036854775807) (hT : TabAt w w.heap.size A0 t) (hl : l.length ≤ 9223372036854775807) (hA : ActsAt w w.heap.size A l) (hl2 : l2.length ≤ 9223372036854775807) (hA2 : ActsAt w w.heap.size A2 l2) :
    Calls Try.prog 13 #[.slice A0 t.length c0, .int .i64 g, .slice A l.length cp, .slice A2 l2.length cp2, .bool side] w (Yes w) := by
  have HAL := Lib.hid alive_any
  have HG1 := Lib.hid (great_any A cp l w hl hA)
  have HG2 := Lib.hid (great_any A2 cp2 l2 w hl2 hA2)
  have HMD := Lib.hid (fun W (hb : Below w.heap.size w W) h60 => made_law A0 c0 t g A cp l W ht ((hT.below hb).more hb.size) h60 hb.size (hA.below hb))
  have HA2 := Lib.hid hA2
  have HMK := Lib.hid (fun c (h : madeO t g l = some c) => And.intro (made_kin h).2.2.len (okT_len (made_kin h).1))
  obtain ⟨om, hom⟩ : ∃ om, madeO t g l = om := ⟨_, rfl⟩
  rw [hom] at HMD HMK
  have H60 := Lib.hid (fun h : grB l = false => (grB_no h).1)
  obtain ⟨L2, hL2⟩ : ∃ L2, l2.length = L2 := ⟨_, rfl⟩
  have HL2 := Lib.hid hL2
  rw [hL2] at hl2 HG2 ⊢
  generalize t.length = tn at *
  generalize l.length = ln at *
  clear hA hA2 hL2 hom hT
  by_cases hg : grB l = true
  · rw [hg] at HG1
    go_enter Try.func13, Try.ntmps13
    go_wp2_with fail
    refine HG1.out.mono ?_
    rintro e _ ⟨rfl, rfl⟩
    go_wp2_with fail
    refine (HAL.out _).mono ?_
    rintro e w2 ⟨rfl, hb⟩
    have HF := Lib.hid hb
    clear hb
    go_wp2_with fail
    go_ret
    exact ⟨rfl, HF.out⟩
  have hg' : grB l = false := by simpa using hg
  rw [hg'] at HG1
  have HM60 := H60.out hg'
  clear hg hg' H60
  by_cases hg2 : grB l2 = true
  · rw [hg2] at HG2
    go_enter Try.func13, Try.ntmps13
    go_wp2_with fail
    refine HG1.out.mono ?_
    rintro e _ ⟨rfl, rfl⟩
    go_wp2_with fail
    refine HG2.out.mono ?_
    rintro e _ ⟨rfl, rfl⟩
    go_wp2_with fail
    refine (HAL.out _).mono ?_
    rintro e w2 ⟨rfl, hb⟩
    have HF := Lib.hid hb
    clear hb
    go_wp2_with fail
    go_ret
    exact ⟨rfl, HF.out⟩
  have hg2' : grB l2 = false := by simpa using hg2
  rw [hg2'] at HG2
  clear hg2 hg2'
  cases om with
  | none =>
    go_enter Try.func13, Try.ntmps13
    go_wp2_with fail
    refine HG1.out.mono ?_
    rintro e _ ⟨rfl, rfl⟩
    go_wp2_with fail
    refine HG2.out.mono ?_
    rintro e _ ⟨rfl, rfl⟩
    go_wp2_with fail
    refine (HMD.out _ (Below.refl _ _) HM60).mono ?_
    intro e w3 hp
    obtain ⟨rfl, hb3⟩ := hp.no
    have HB3 := Lib.hid hb3
    clear hp hb3
    go_wp2_with fail
    refine (HMD.out _ HB3.out HM60).mono ?_
    intro e w4 hp
    obtain ⟨rfl, hb4⟩ := hp.no
    have HB4 := Lib.hid (btr HB3.out hb4 (Nat.le_refl _))
    clear hp hb4
    go_wp2_with fail
    refine (HAL.out _).mono ?_
    rintro e w9 ⟨rfl, hb⟩
    have HF := Lib.hid (btr HB4.out hb (Nat.le_refl _))
    clear hb
    go_wp2_with fail
    go_ret
    exact ⟨rfl, HF.out⟩
  | some c =>
    obtain ⟨hln, ht40⟩ := HMK.out c rfl
    clear HMK
    go_enter Try.func13, Try.ntmps13
    go_wp2_with fail
    refine HG1.out.mono ?_
    rintro e _ ⟨rfl, rfl⟩
    go_wp2_with fail
    refine HG2.out.mono ?_
    rintro e _ ⟨rfl, rfl⟩
    go_wp2_with fail
    refine (HMD.out _ (Below.refl _ _) HM60).mono ?_
    intro e w3 hp
    obtain ⟨B1, O1, rfl, ho1⟩ := hp.yes
    have HO1 := Lib.hid ho1
    clear hp ho1
    go_wp2_with fail
    refine (HMD.out _ HO1.out.bel HM60).mono ?_
    intro e w4 hp
    obtain ⟨B2, O2, rfl, ho2⟩ := hp.yes
    have HTW := Lib.hid (Two.of HO1.out ho2)
    clear hp ho2 HO1
    go_wp2_with fail
    refine (cClone_any HTW.out.a.ob).mono ?_
    rintro e w5 ⟨v3, rfl, hob3, hv3, hb5⟩
    obtain ⟨B3, hB3⟩ := hob3.ptr
    injection hB3 with hB3
    subst hB3
    have HT1 := Lib.hid (HTW.out.below hb5)
    have ho3 : Own false w w5 (.pointer (some ⟨B3, 0, none⟩)) (some c) (Nw w4 w5) := (Own.new hob3 hb5).later HTW.out.a.bel
    have HT3 := Lib.hid (show Two false false w w5 _ _ _ _ _ _ from ⟨HT1.out.a, ho3, fun k h1 h2 => by have := HTW.out.a.ob.lt k h1; have := h2.1; omega⟩)
    have HT4 := Lib.hid (show Two false false w w5 _ _ _ _ _ _ from ⟨HT1.out.b, ho3, fun k h1 h2 => by have := HTW.out.b.ob.lt k h1; have := h2.1; omega⟩)
    clear hob3 hv3 hb5 ho3 HTW HMD
    cases side with
    | true =>
      go_wp2_with fail
      go_loopw [15] (fun i wr => ∃ k : Nat, k ≤ L2 ∧ i = .int .i64 k ∧ ∃ ox OM OU OC, Two false false w wr (.pointer (some ⟨B1, 0, none⟩)) (.pointer (some ⟨B2, 0, none⟩)) ox (some c) OM OU ∧ Two false false w wr (.pointer (some ⟨B1, 0, none⟩)) (.pointer (some ⟨B3, 0, none⟩)) ox (some c) OM OC) (fun i _ => L2 - (intOf i).toNat)
      case atStart => exact ⟨0, by omega, rfl, _, _, _, _, HT1.out, HT3.out⟩
      case round =>
        clear HT1 HT3 HT4
        obtain ⟨k, hk, rfl, ox, OM, OU, OC, hP, hQ⟩ := hrel
        have HP := Lib.hid hP
        have HQ := Lib.hid hQ
        by_cases hlt : k < L2
        · obtain ⟨x, hx⟩ : ∃ x, l2[k]? = some x := ⟨_, List.getElem?_eq_getElem (by have := HL2.out; omega)⟩
          obtain ⟨bb, o, u, rfl, hB, g1, g2, g3, g4, hv⟩ := (HA2.out.below hP.a.bel) k x hx
          have HD := Lib.hid (do_any x hP.a.ob (N0 := w.heap.size) hP.a.bel.size hP.a.nw hv)
          clear hP hQ hx hv
          go_wp2_with fail
          refine HD.out.mono ?_
          rintro e w6 ⟨A9, c9, rfl, O', m1, m2, m3, _⟩
          have HP6 := Lib.hid (HP.out.left m1 m2 m3)
          have HQ6 := Lib.hid (HQ.out.left m1 m2 m3)
          clear m1 m2 m3 g1 g2 g3 g4
          go_wp2_with fail
          go_roundw
          case rel => exact ⟨k + 1, by omega, by go_num, _, _, _, _, HP6.out, HQ6.out⟩
          case measure => simp [intOf]; omega
        · have HC := Lib.hid hQ.b
          have HU := Lib.hid hP.b
          clear hP hQ HP HQ
          go_wp2_with fail
          go_loopw [16] (fun i wr2 => ∃ k : Nat, k ≤ tn ∧ i = .int .i64 k ∧ Below wr.heap.size wr wr2) (fun i _ => tn - (intOf i).toNat)
          case atStart => exact ⟨0, by omega, rfl, Below.refl _ _⟩
          case round =>
            obtain ⟨k2, hk2, rfl, hB⟩ := hrel
            have HC2 := Lib.hid (HC.out.below hB)
            have HU2 := Lib.hid (HU.out.below hB)
            have HB9 := Lib.hid hB
            clear hB
            by_cases hlt2 : k2 < tn
            · obtain ⟨kq, hkq⟩ : ∃ kq, c.K[k2]? = some kq := ⟨_, List.getElem?_eq_getElem (by rw [hln]; exact hlt2)⟩
              have hin : InR (k2 : Int) := InR.nat (by omega)
              have HCA := Lib.hid (fun (w' : World) (h : Below wr.heap.size wr w') => show Calls Try.prog 23 #[.pointer (some ⟨B3, 0, none⟩), .int .i64 k2] w' (ObjP w' kq.l) from by
                have := cObjects_any (HC2.out.below h).ob hin
                rw [objT_at hkq] at this
                exact this)
              have HCB := Lib.hid (fun (w' : World) (h : Below wr.heap.size wr w') => show Calls Try.prog 23 #[.pointer (some ⟨B2, 0, none⟩), .int .i64 k2] w' (ObjP w' kq.l) from by
                have := cObjects_any (HU2.out.below h).ob hin
                rw [objT_at hkq] at this
                exact this)
              have HLA := Lib.hid (fun (w' : World) (h : Below wr.heap.size wr w') => show Calls Try.prog 31 #[.pointer (some ⟨B3, 0, none⟩), .int .i64 k2] w' (fun e w'' => e = .returned (.int .i64 kq.lo) ∧ w' = w'') from by
                have := cLow_any (HC2.out.below h).ob hin
                rw [lowT_at hkq] at this
                exact this)
              have HLB := Lib.hid (fun (w' : World) (h : Below wr.heap.size wr w') => show Calls Try.prog 31 #[.pointer (some ⟨B2, 0, none⟩), .int .i64 k2] w' (fun e w'' => e = .returned (.int .i64 kq.lo) ∧ w' = w'') from by
                have := cLow_any (HU2.out.below h).ob hin
                rw [lowT_at hkq] at this
                exact this)
              have HMA := Lib.hid (fun (w' : World) (h : Below wr.heap.size wr w') => show Calls Try.prog 29 #[.pointer (some ⟨B3, 0, none⟩), .int .i64 k2] w' (fun e w'' => e = .returned (.int .i64 kq.lim) ∧ w' = w'') from by
                have := cLimit_any (HC2.out.below h).ob hin
                rw [limT_at hkq] at this
                exact this)
              have HMB := Lib.hid (fun (w' : World) (h : Below wr.heap.size wr w') => show Calls Try.prog 29 #[.pointer (some ⟨B2, 0, none⟩), .int .i64 k2] w' (fun e w'' => e = .returned (.int .i64 kq.lim) ∧ w' = w'') from by
                have := cLimit_any (HU2.out.below h).ob hin
                rw [limT_at hkq] at this
                exact this)
              have hql := (HU2.out.ob.wf.k kq (List.mem_of_getElem? hkq)).len
              have HCI := Lib.hid (fun (P P' : Nat → Prop) (w' : World) (A6 A7 : Option Addr) (c6 c7 : Nat) (h6 : IAt P w' A6 kq.l) (h7 : IAt P' w' A7 kq.l) => show Calls Try.prog 25 #[.slice A6 kq.l.length c6, .slice A7 kq.l.length c7] w' (Yes w') from Ints_any A6 A7 c6 c7 kq.l w' (by omega) h6 h7)
              unfold ObjP at HCA HCB
              clear hkq hin
              generalize kq.lo = lo at *
              generalize kq.l.length = ll at *
              generalize kq.lim = m2 at *
              go_wp2_with fail
              refine (HCA.out _ (Below.refl _ _)).mono ?_
              rintro e w6 ⟨A6, c6, rfl, hi6, hb6⟩
              have H6 := Lib.hid (And.intro hi6 hb6)
              clear hi6 hb6
              go_wp2_with fail
              refine (HCB.out _ H6.out.2).mono ?_
              rintro e w7 ⟨A7, c7, rfl, hi7, hb7⟩
              have H7 := Lib.hid (And.intro hi7 (And.intro (H6.out.1.below hb7) (btr H6.out.2 hb7 (Nat.le_refl _))))
              clear hi7 hb7
              go_wp2_with fail
              refine (HCI.out _ _ _ _ _ _ _ H7.out.2.1 H7.out.1).mono ?_
              rintro e w8 ⟨rfl, hb8⟩
              have H8 := Lib.hid (btr H7.out.2.2 hb8 (Nat.le_refl _))
              clear hb8
              go_wp2_with fail
              refine (HLA.out _ H8.out).mono ?_
              rintro e _ ⟨rfl, rfl⟩
              go_wp2_with fail
              refine (HLB.out _ H8.out).mono ?_
              rintro e _ ⟨rfl, rfl⟩
              go_wp2_with fail
              refine (HMA.out _ H8.out).mono ?_
              rintro e _ ⟨rfl, rfl⟩
              go_wp2_with fail
              refine (HMB.out _ H8.out).mono ?_
              rintro e _ ⟨rfl, rfl⟩
              go_wp2_with fail
              go_roundw
              case rel => exact ⟨k2 + 1, by omega, by go_num, btr HB9.out H8.out (Nat.le_refl _)⟩
              case measure => simp [intOf]; omega
            · have hY1 := cBytes_any HC2.out.ob
              have HY2 := Lib.hid (fun (w' : World) (h : Below wr.heap.size wr w') => cBytes_any (HU2.out.below h).ob)
              have HV1 := Lib.hid (fun (w' : World) (h : Below wr.heap.size wr w') => cOver_any (HC2.out.below h).ob)
              have HV2 := Lib.hid (fun (w' : World) (h : Below wr.heap.size wr w') => cOver_any (HU2.out.below h).ob)
              have HY1 := Lib.hid hY1
              clear hY1
              generalize byT (some c) = by1 at *
              generalize ovT (some c) = ov1 at *
              go_wp2_with fail
              refine HY1.out.mono ?_
              rintro e w6 ⟨rfl, hb⟩
              have H6 := Lib.hid hb
              clear hb
              go_wp2_with fail
              refine (HY2.out _ H6.out).mono ?_
              rintro e w7 ⟨rfl, hb⟩
              have H7 := Lib.hid (btr H6.out hb (Nat.le_refl _))
              clear hb
              go_wp2_with fail
              refine (HV1.out _ H7.out).mono ?_
              rintro e w8 ⟨rfl, hb⟩
              have H8 := Lib.hid (btr H7.out hb (Nat.le_refl _))
              clear hb
              go_wp2_with fail
              refine (HV2.out _ H8.out).mono ?_
              rintro e w8 ⟨rfl, hb⟩
              have H9 := Lib.hid (btr HC2.out.bel (btr H8.out hb (Nat.le_refl _)) (Nat.le_refl _))
              clear hb
              cases ov1
              all_goals
                go_wp2_with fail
                refine (HAL.out _).mono ?_
                rintro e w9 ⟨rfl, hb⟩
                have HF := Lib.hid (btr H9.out hb (Nat.le_refl _))
                clear hb
                go_wp2_with fail
                go_ret
                exact ⟨rfl, HF.out⟩
    | false =>
      go_wp2_with fail
      go_loopw [15] (fun i wr => ∃ k : Nat, k ≤ L2 ∧ i = .int .i64 k ∧ ∃ ox OM OU OC, Two false false w wr (.pointer (some ⟨B3, 0, none⟩)) (.pointer (some ⟨B2, 0, none⟩)) ox (some c) OM OU ∧ Two false false w wr (.pointer (some ⟨B3, 0, none⟩)) (.pointer (some ⟨B1, 0, none⟩)) ox (some c) OM OC) (fun i _ => L2 - (intOf i).toNat)
      case atStart => exact ⟨0, by omega, rfl, _, _, _, _, HT4.out.swap, HT3.out.swap⟩
      case round =>
        clear HT1 HT3 HT4
        obtain ⟨k, hk, rfl, ox, OM, OU, OC, hP, hQ⟩ := hrel
        have HP := Lib.hid hP
        have HQ := Lib.hid hQ
        by_cases hlt : k < L2
        · obtain ⟨x, hx⟩ : ∃ x, l2[k]? = some x := ⟨_, List.getElem?_eq_getElem (by have := HL2.out; omega)⟩
          obtain ⟨bb, o, u, rfl, hB, g1, g2, g3, g4, hv⟩ := (HA2.out.below hP.a.bel) k x hx
          have HD := Lib.hid (do_any x hP.a.ob (N0 := w.heap.size) hP.a.bel.size hP.a.nw hv)
          clear hP hQ hx hv
          go_wp2_with fail
          refine HD.out.mono ?_
          rintro e w6 ⟨A9, c9, rfl, O', m1, m2, m3, _⟩
          have HP6 := Lib.hid (HP.out.left m1 m2 m3)
          have HQ6 := Lib.hid (HQ.out.left m1 m2 m3)
          clear m1 m2 m3 g1 g2 g3 g4
          go_wp2_with fail
          go_roundw
          case rel => exact ⟨k + 1, by omega, by go_num, _, _, _, _, HP6.out, HQ6.out⟩
          case measure => simp [intOf]; omega
        · have HC := Lib.hid hQ.b
          have HU := Lib.hid hP.b
          clear hP hQ HP HQ
          go_wp2_with fail
          go_loopw [16] (fun i wr2 => ∃ k : Nat, k ≤ tn ∧ i = .int .i64 k ∧ Below wr.heap.size wr wr2) (fun i _ => tn - (intOf i).toNat)
          case atStart => exact ⟨0, by omega, rfl, Below.refl _ _⟩
          case round =>
            obtain ⟨k2, hk2, rfl, hB⟩ := hrel
            have HC2 := Lib.hid (HC.out.below hB)
            have HU2 := Lib.hid (HU.out.below hB)
            have HB9 := Lib.hid hB
            clear hB
            by_cases hlt2 : k2 < tn
            · obtain ⟨kq, hkq⟩ : ∃ kq, c.K[k2]? = some kq := ⟨_, List.getElem?_eq_getElem (by rw [hln]; exact hlt2)⟩
              have hin : InR (k2 : Int) := InR.nat (by omega)
              have HCA := Lib.hid (fun (w' : World) (h : Below wr.heap.size wr w') => show Calls Try.prog 23 #[.pointer (some ⟨B1, 0, none⟩), .int .i64 k2] w' (ObjP w' kq.l) from by
                have := cObjects_any (HC2.out.below h).ob hin
                rw [objT_at hkq] at this
                exact this)
              have HCB := Lib.hid (fun (w' : World) (h : Below wr.heap.size wr w') => show Calls Try.prog 23 #[.pointer (some ⟨B2, 0, none⟩), .int .i64 k2] w' (ObjP w' kq.l) from by
                have := cObjects_any (HU2.out.below h).ob hin
                rw [objT_at hkq] at this
                exact this)
              have HLA := Lib.hid (fun (w' : World) (h : Below wr.heap.size wr w') => show Calls Try.prog 31 #[.pointer (some ⟨B1, 0, none⟩), .int .i64 k2] w' (fun e w'' => e = .returned (.int .i64 kq.lo) ∧ w' = w'') from by
                have := cLow_any (HC2.out.below h).ob hin
                rw [lowT_at hkq] at this
                exact this)
              have HLB := Lib.hid (fun (w' : World) (h : Below wr.heap.size wr w') => show Calls Try.prog 31 #[.pointer (some ⟨B2, 0, none⟩), .int .i64 k2] w' (fun e w'' => e = .returned (.int .i64 kq.lo) ∧ w' = w'') from by
                have := cLow_any (HU2.out.below h).ob hin
                rw [lowT_at hkq] at this
                exact this)
              have HMA := Lib.hid (fun (w' : World) (h : Below wr.heap.size wr w') => show Calls Try.prog 29 #[.pointer (some ⟨B1, 0, none⟩), .int .i64 k2] w' (fun e w'' => e = .returned (.int .i64 kq.lim) ∧ w' = w'') from by
                have := cLimit_any (HC2.out.below h).ob hin
                rw [limT_at hkq] at this
                exact this)
              have HMB := Lib.hid (fun (w' : World) (h : Below wr.heap.size wr w') => show Calls Try.prog 29 #[.pointer (some ⟨B2, 0, none⟩), .int .i64 k2] w' (fun e w'' => e = .returned (.int .i64 kq.lim) ∧ w' = w'') from by
                have := cLimit_any (HU2.out.below h).ob hin
                rw [limT_at hkq] at this
                exact this)
              have hql := (HU2.out.ob.wf.k kq (List.mem_of_getElem? hkq)).len
              have HCI := Lib.hid (fun (P P' : Nat → Prop) (w' : World) (A6 A7 : Option Addr) (c6 c7 : Nat) (h6 : IAt P w' A6 kq.l) (h7 : IAt P' w' A7 kq.l) => show Calls Try.prog 25 #[.slice A6 kq.l.length c6, .slice A7 kq.l.length c7] w' (Yes w') from Ints_any A6 A7 c6 c7 kq.l w' (by omega) h6 h7)
              unfold ObjP at HCA HCB
              clear hkq hin
              generalize kq.lo = lo at *
              generalize kq.l.length = ll at *
              generalize kq.lim = m2 at *
              go_wp2_with fail
              refine (HCA.out _ (Below.refl _ _)).mono ?_
              rintro e w6 ⟨A6, c6, rfl, hi6, hb6⟩
              have H6 := Lib.hid (And.intro hi6 hb6)
              clear hi6 hb6
              go_wp2_with fail
              refine (HCB.out _ H6.out.2).mono ?_
              rintro e w7 ⟨A7, c7, rfl, hi7, hb7⟩
              have H7 := Lib.hid (And.intro hi7 (And.intro (H6.out.1.below hb7) (btr H6.out.2 hb7 (Nat.le_refl _))))
              clear hi7 hb7
              go_wp2_with fail
              refine (HCI.out _ _ _ _ _ _ _ H7.out.2.1 H7.out.1).mono ?_
              rintro e w8 ⟨rfl, hb8⟩
              have H8 := Lib.hid (btr H7.out.2.2 hb8 (Nat.le_refl _))
              clear hb8
              go_wp2_with fail
              refine (HLA.out _ H8.out).mono ?_
              rintro e _ ⟨rfl, rfl⟩
              go_wp2_with fail
              refine (HLB.out _ H8.out).mono ?_
              rintro e _ ⟨rfl, rfl⟩
              go_wp2_with fail
              refine (HMA.out _ H8.out).mono ?_
              rintro e _ ⟨rfl, rfl⟩
              go_wp2_with fail
              refine (HMB.out _ H8.out).mono ?_
              rintro e _ ⟨rfl, rfl⟩
              go_wp2_with fail
              go_roundw
              case rel => exact ⟨k2 + 1, by omega, by go_num, btr HB9.out H8.out (Nat.le_refl _)⟩
              case measure => simp [intOf]; omega
            · have hY1 := cBytes_any HC2.out.ob
              have HY2 := Lib.hid (fun (w' : World) (h : Below wr.heap.size wr w') => cBytes_any (HU2.out.below h).ob)
              have HV1 := Lib.hid (fun (w' : World) (h : Below wr.heap.size wr w') => cOver_any (HC2.out.below h).ob)
              have HV2 := Lib.hid (fun (w' : World) (h : Below wr.heap.size wr w') => cOver_any (HU2.out.below h).ob)
              have HY1 := Lib.hid hY1
              clear hY1
              generalize byT (some c) = by1 at *
              generalize ovT (some c) = ov1 at *
              go_wp2_with fail
              refine HY1.out.mono ?_
              rintro e w6 ⟨rfl, hb⟩
              have H6 := Lib.hid hb
              clear hb
              go_wp2_with fail
              refine (HY2.out _ H6.out).mono ?_
              rintro e w7 ⟨rfl, hb⟩
              have H7 := Lib.hid (btr H6.out hb (Nat.le_refl _))
              clear hb
              go_wp2_with fail
              refine (HV1.out _ H7.out).mono ?_
              rintro e w8 ⟨rfl, hb⟩
              have H8 := Lib.hid (btr H7.out hb (Nat.le_refl _))
              clear hb
              go_wp2_with fail
              refine (HV2.out _ H8.out).mono ?_
              rintro e w8 ⟨rfl, hb⟩
              have H9 := Lib.hid (btr HC2.out.bel (btr H8.out hb (Nat.le_refl _)) (Nat.le_refl _))
              clear hb
              cases ov1
              all_goals
                go_wp2_with fail
                refine (HAL.out _).mono ?_
                rintro e w9 ⟨rfl, hb⟩
                have HF := Lib.hid (btr H9.out hb (Nat.le_refl _))
                clear hb
                go_wp2_with fail
                go_ret
                exact ⟨rfl, HF.out⟩
end Go.Proofs.Yticcjelaenhigaa
