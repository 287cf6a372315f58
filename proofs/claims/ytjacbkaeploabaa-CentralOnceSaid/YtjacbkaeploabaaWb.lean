/- The statement about clones. -/
import Derived.Test.YtjacbkaeploabaaWa
namespace Go.Proofs.Ytjacbkaeploabaa
open Go.RowKit Go.Shelf

theorem Two.swap {w0 w : World} {a b : Value} {o1 o2 : Option Ce} {O1 O2 : Nat → Prop} (h : Two w0 w a b o1 o2 O1 O2) : Two w0 w b a o2 o1 O2 O1 := ⟨h.b, h.a, fun k x y => h.d k y x⟩

set_option maxRecDepth 100000 in
set_option maxHeartbeats 4000000 in
theorem clones_walk (s p b : Int) (A : Option Addr) (cp : Nat) (l : List Ak) (A2 : Option Addr) (cp2 : Nat) (l2 : List Ak) (side : Bool) (w : World) (hl : l.length ≤ 9223372036854775807) (hA : ActsAt w w.heap.size A l) (hl2 : l2.length ≤ 9223372036854775807) (hA2 : ActsAt w w.heap.size A2 l2) :
    Calls Try.prog 10 #[.agg #[.int .i64 s, .int .i64 p, .int .i64 b], .slice A l.length cp, .slice A2 l2.length cp2, .bool side] w (Yes w) := by
  have HAL := Lib.hid alive_any
  obtain ⟨W2, hW0, hB2, hs0, x0, x1, x2⟩ := fresh3 w (.int .i64 s) (.int .i64 p) (.int .i64 b) 23
  have T0 : Tri W2 w.heap.size (.int .i64 s) (.int .i64 p) (.int .i64 b) := Tri.mk (by omega) x0 x1 x2
  have HT0 := Lib.hid (fun W (hb : Below W2.heap.size W2 W) => T0.below hb T0.lt)
  have HG1 := Lib.hid (great_any A cp l W2 hl (hA.below hB2))
  have HG2 := Lib.hid (great_any A2 cp2 l2 W2 hl2 (hA2.below hB2))
  have HMD := Lib.hid (fun W (hb : Below w.heap.size w W) h60 => made_law s p b A cp l W hl h60 hb.size (hA.below hb))
  have HA2 := Lib.hid hA2
  have HB2 := Lib.hid hB2
  obtain ⟨L, hL⟩ : ∃ L, l.length = L := ⟨_, rfl⟩
  obtain ⟨L2, hL2⟩ : ∃ L2, l2.length = L2 := ⟨_, rfl⟩
  have HL2 := Lib.hid hL2
  rw [hL] at hl HG1 HMD ⊢
  rw [hL2] at hl2 HG2 ⊢
  clear T0 hA hA2 hs0 hB2 hL hL2
  by_cases hg : grB l = true
  · rw [hg] at HG1
    go_enter Try.func10, Try.ntmps10
    go_wp2_with fail
    refine HG1.out.mono ?_
    rintro e _ ⟨rfl, rfl⟩
    go_wp2_with fail
    refine (HAL.out _).mono ?_
    rintro e w2 ⟨rfl, hb⟩
    have HF := Lib.hid (btr HB2.out hb (Nat.le_refl _))
    clear hb
    go_wp2_with fail
    go_ret
    exact ⟨rfl, HF.out⟩
  · have hg' : grB l = false := by simpa using hg
    rw [hg'] at HG1
    have H60 := Lib.hid (grB_no hg').2
    clear hg hg'
    by_cases hg2 : grB l2 = true
    · rw [hg2] at HG2
      go_enter Try.func10, Try.ntmps10
      go_wp2_with fail
      refine HG1.out.mono ?_
      rintro e _ ⟨rfl, rfl⟩
      go_wp2_with fail
      refine HG2.out.mono ?_
      rintro e _ ⟨rfl, rfl⟩
      go_wp2_with fail
      refine (HAL.out _).mono ?_
      rintro e w2 ⟨rfl, hb⟩
      have HF := Lib.hid (btr HB2.out hb (Nat.le_refl _))
      clear hb
      go_wp2_with fail
      go_ret
      exact ⟨rfl, HF.out⟩
    · have hg2' : grB l2 = false := by simpa using hg2
      rw [hg2'] at HG2
      have H602 := Lib.hid (grB_no hg2').2
      clear hg2 hg2'
      go_enter Try.func10, Try.ntmps10
      go_wp2_with fail
      refine HG1.out.mono ?_
      rintro e _ ⟨rfl, rfl⟩
      go_wp2_with fail
      refine HG2.out.mono ?_
      rintro e _ ⟨rfl, rfl⟩
      clear x0 x1 x2
      obtain ⟨_, t0, t1, t2⟩ := HT0.out _ (Below.refl _ _)
      go_wp2_with fail
      obtain ⟨om, hom⟩ : ∃ om, runO (newC ⟨s, p, b⟩) l = om := ⟨_, rfl⟩
      rw [hom] at HMD
      have HC := Lib.hid (fun W (hb : Below W2.heap.size W2 W) => show W.cell? ⟨w.heap.size, 0, none⟩ = some (.int .i64 s) ∧ W.cell? ⟨w.heap.size, 1, none⟩ = some (.int .i64 p) ∧ W.cell? ⟨w.heap.size, 2, none⟩ = some (.int .i64 b) from by
        obtain ⟨_, t0, t1, t2⟩ := HT0.out W hb
        exact ⟨t0, t1, t2⟩)
      cases om with
      | none =>
        go_region_held3 (fun w' => w'.cell? ⟨w.heap.size, 0, none⟩ = some (.int .i64 s) ∧ w'.cell? ⟨w.heap.size, 1, none⟩ = some (.int .i64 p) ∧ w'.cell? ⟨w.heap.size, 2, none⟩ = some (.int .i64 b))
          (first | exact HC.out _ (Below.refl _ _) | exact HC.out _ (belowN (Below.refl _ _) _) | exact HC.out _ hb4 | exact HC.out _ hb3)
          (first
          | (go_at_call 13; refine (HMD.out _ (btr HB2.out hb3 (Nat.le_refl _)) H60.out).mono ?_; intro e w4 hm2; obtain ⟨rfl, hb4'⟩ := hm2.no; have hb4 := btr hb3 hb4' (Nat.le_refl _); clear hm2 hb4')
          | (go_at_call 13; refine (HMD.out _ (belowN HB2.out _) H60.out).mono ?_; intro e w3 hm1; obtain ⟨rfl, hb3'⟩ := hm1.no; have hb3 := btr (belowN (Below.refl W2.heap.size W2) _) hb3' (Nat.le_refl _); clear hm1 hb3'))
        have HB4 := Lib.hid (btr HB2.out hb4 (Nat.le_refl _))
        clear hb3 hb4 t0 t1 t2
        go_wp2_with fail
        refine (HAL.out _).mono ?_
        rintro e w2 ⟨rfl, hb⟩
        have HF := Lib.hid (btr HB4.out hb (Nat.le_refl _))
        clear hb
        go_wp2_with fail
        go_ret
        exact ⟨rfl, HF.out⟩
      | some c =>
        go_region_held3 (fun w' => w'.cell? ⟨w.heap.size, 0, none⟩ = some (.int .i64 s) ∧ w'.cell? ⟨w.heap.size, 1, none⟩ = some (.int .i64 p) ∧ w'.cell? ⟨w.heap.size, 2, none⟩ = some (.int .i64 b))
          (first | exact HC.out _ (Below.refl _ _) | exact HC.out _ (belowN (Below.refl _ _) _) | exact HC.out _ hb4 | exact HC.out _ hb3)
          (first
          | (go_at_call 13; refine (HMD.out _ (btr HB2.out hb3 (Nat.le_refl _)) H60.out).mono ?_; intro e w4 hm2; obtain ⟨B2, rfl, ho2⟩ := hm2.yes; have hb4 := btr hb3 ho2.2 (Nat.le_refl _); clear hm2)
          | (go_at_call 13; refine (HMD.out _ (belowN HB2.out _) H60.out).mono ?_; intro e w3 hm1; obtain ⟨B1, rfl, ho1⟩ := hm1.yes; have hb3 := btr (belowN (Below.refl W2.heap.size W2) _) ho1.2 (Nat.le_refl _); clear hm1))
        have h2 := Two.of (ho1.later (belowN (Below.refl W2.heap.size W2) _)) ho2
        have HTW := Lib.hid h2
        clear ho1 ho2 h2 t0 t1 t2 hb3 hb4
        go_wp2_with fail
        refine (cClone_any HTW.out.a.ob).mono ?_
        rintro e w5 ⟨v3, rfl, hob3, hv3, hb5⟩
        obtain ⟨B3, hB3⟩ := lob_ptr hob3
        injection hB3 with hB3
        subst hB3
        have HT1 := Lib.hid (HTW.out.below hb5)
        have ho3 : Own2 W2 w5 (.pointer (some ⟨B3, 0, none⟩)) (some c) (Nw w4 w5) := ⟨hob3, fun k hk => Nat.le_trans HTW.out.a.bel.size hk.1, btr HTW.out.a.bel hb5 (Nat.le_refl _)⟩
        have HT3 := Lib.hid (show Two W2 w5 _ _ _ _ _ _ from ⟨HT1.out.a, ho3, fun k h1 h2 => by have := HTW.out.a.ob.lt k h1; have := h2.1; omega⟩)
        have HT4 := Lib.hid (show Two W2 w5 _ _ _ _ _ _ from ⟨HT1.out.b, ho3, fun k h1 h2 => by have := HTW.out.b.ob.lt k h1; have := h2.1; omega⟩)
        clear hob3 hv3 hb5 ho3
        cases side with
        | true =>
          go_wp2_with fail
          go_loopw [12] (fun i wr => ∃ k : Nat, k ≤ L2 ∧ i = .int .i64 k ∧ ∃ ox O1 O2 O3, Two W2 wr (.pointer (some ⟨B1, 0, none⟩)) (.pointer (some ⟨B2, 0, none⟩)) ox (some c) O1 O2 ∧ Two W2 wr (.pointer (some ⟨B1, 0, none⟩)) (.pointer (some ⟨B3, 0, none⟩)) ox (some c) O1 O3) (fun i _ => L2 - (intOf i).toNat)
          case atStart => exact ⟨0, by omega, rfl, _, _, _, _, HT1.out, HT3.out⟩
          case round =>
            obtain ⟨k, hk, rfl, ox, O1, O2, O3, hP, hQ⟩ := hrel
            have HP := Lib.hid hP
            have HQ := Lib.hid hQ
            by_cases hlt : k < L2
            · obtain ⟨x, hx⟩ : ∃ x, l2[k]? = some x := ⟨_, List.getElem?_eq_getElem (by have := HL2.out; omega)⟩
              have hbw := btr HB2.out hP.a.bel (Nat.le_refl _)
              obtain ⟨bb, o, u, rfl, hB, g1, g2, g3, hv⟩ := (HA2.out.below hbw) k x hx
              have HD := Lib.hid (hP.a.call x HB2.out.size hv (H602.out k x hx))
              clear hP hQ hx hv hbw
              go_wp2_with fail
              refine HD.out.mono ?_
              rintro e w6 ⟨rfl, O6, ho6, hs6⟩
              have HP6 := Lib.hid (HP.out.left ho6 hs6)
              have HQ6 := Lib.hid (HQ.out.left ho6 hs6)
              clear ho6 hs6
              go_wp2_with fail
              go_roundw
              case rel => exact ⟨k + 1, by omega, by go_num, _, _, _, _, HP6.out, HQ6.out⟩
              case measure => simp [intOf]; omega
            · have HAK := Lib.hid (alike_any hQ.b.ob hP.b.ob)
              have HBF := Lib.hid (btr HB2.out hP.a.bel (Nat.le_refl _))
              clear hP hQ HP HQ
              go_wp2_with fail
              refine HAK.out.mono ?_
              rintro e w6 ⟨rfl, hb⟩
              have HF := Lib.hid (btr HBF.out hb (Nat.le_refl _))
              clear hb
              go_wp2_with fail
              refine (HAL.out _).mono ?_
              rintro e w7 ⟨rfl, hb⟩
              have HF2 := Lib.hid (btr HF.out hb (Nat.le_refl _))
              clear hb
              go_wp2_with fail
              go_ret
              exact ⟨rfl, HF2.out⟩
        | false =>
          go_wp2_with fail
          go_loopw [12] (fun i wr => ∃ k : Nat, k ≤ L2 ∧ i = .int .i64 k ∧ ∃ ox O1 O2 O3, Two W2 wr (.pointer (some ⟨B3, 0, none⟩)) (.pointer (some ⟨B1, 0, none⟩)) ox (some c) O1 O2 ∧ Two W2 wr (.pointer (some ⟨B3, 0, none⟩)) (.pointer (some ⟨B2, 0, none⟩)) ox (some c) O1 O3) (fun i _ => L2 - (intOf i).toNat)
          case atStart => exact ⟨0, by omega, rfl, _, _, _, _, HT3.out.swap, HT4.out.swap⟩
          case round =>
            obtain ⟨k, hk, rfl, ox, O1, O2, O3, hP, hQ⟩ := hrel
            have HP := Lib.hid hP
            have HQ := Lib.hid hQ
            by_cases hlt : k < L2
            · obtain ⟨x, hx⟩ : ∃ x, l2[k]? = some x := ⟨_, List.getElem?_eq_getElem (by have := HL2.out; omega)⟩
              have hbw := btr HB2.out hP.a.bel (Nat.le_refl _)
              obtain ⟨bb, o, u, rfl, hB, g1, g2, g3, hv⟩ := (HA2.out.below hbw) k x hx
              have HD := Lib.hid (hP.a.call x HB2.out.size hv (H602.out k x hx))
              clear hP hQ hx hv hbw
              go_wp2_with fail
              refine HD.out.mono ?_
              rintro e w6 ⟨rfl, O6, ho6, hs6⟩
              have HP6 := Lib.hid (HP.out.left ho6 hs6)
              have HQ6 := Lib.hid (HQ.out.left ho6 hs6)
              clear ho6 hs6
              go_wp2_with fail
              go_roundw
              case rel => exact ⟨k + 1, by omega, by go_num, _, _, _, _, HP6.out, HQ6.out⟩
              case measure => simp [intOf]; omega
            · have HAK := Lib.hid (alike_any hP.b.ob hQ.b.ob)
              have HBF := Lib.hid (btr HB2.out hP.a.bel (Nat.le_refl _))
              clear hP hQ HP HQ
              go_wp2_with fail
              refine HAK.out.mono ?_
              rintro e w6 ⟨rfl, hb⟩
              have HF := Lib.hid (btr HBF.out hb (Nat.le_refl _))
              clear hb
              go_wp2_with fail
              refine (HAL.out _).mono ?_
              rintro e w7 ⟨rfl, hb⟩
              have HF2 := Lib.hid (btr HF.out hb (Nat.le_refl _))
              clear hb
              go_wp2_with fail
              go_ret
              exact ⟨rfl, HF2.out⟩

end Go.Proofs.Ytjacbkaeploabaa
