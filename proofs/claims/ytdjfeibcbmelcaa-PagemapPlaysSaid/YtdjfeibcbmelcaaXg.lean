/- The statement about maps that are the same: what its call returns. -/
import Derived.Test.YtdjfeibcbmelcaaLp
import Derived.Test.YtdjfeibcbmelcaaRc
namespace Go.Proofs.Ytdjfeibcbmelcaa
open Go.RowKit

theorem eqM_comm (l k : List Mk) : eqM l k = eqM k l := by
  by_cases h : l = k
  · rw [h]
  · rw [eqM_false h, eqM_false (fun e => h e.symm)]

set_option maxRecDepth 100000 in
set_option maxHeartbeats 4000000 in
theorem sames_walk (A A' : Option Addr) (c c' : Nat) (l l' : List Ac) (w : World) (hl : l.length ≤ 9223372036854775807) (hl' : l'.length ≤ 9223372036854775807) (hA : ActsAt w w.heap.size A l) (hA' : ActsAt w w.heap.size A' l') :
    Calls Try.prog 5 #[.slice A l.length c, .slice A' l'.length c'] w (Yes w) := by
  have HAL := Lib.hid alive_any
  have HNEW := Lib.hid New_any
  have HRNEW := Lib.hid rnew_any
  obtain ⟨L, hL⟩ : ∃ L, L = l.length := ⟨_, rfl⟩
  obtain ⟨L', hL'⟩ : ∃ L', L' = l'.length := ⟨_, rfl⟩
  have HL := Lib.hid hL
  have HL' := Lib.hid hL'
  rw [← hL] at hl ⊢
  rw [← hL'] at hl' ⊢
  have HG := Lib.hid (fun w => great_any A L c w hl)
  have HG' := Lib.hid (fun w => great_any A' L' c' w hl')
  have HA := Lib.hid hA
  have HA' := Lib.hid hA'
  clear hA hA' hL hL'
  by_cases h60 : 60 < L
  · rw [decide_eq_true h60] at HG
    go_enter Try.func5, Try.ntmps5
    go_wp2_with fail
    refine (HG.out _).mono ?_
    rintro e _ ⟨rfl, rfl⟩
    go_wp2_with fail
    refine (HAL.out _).mono ?_
    rintro e w1 ⟨rfl, hb1⟩
    go_wp2_with fail
    go_ret
    exact ⟨rfl, hb1⟩
  · rw [decide_eq_false h60] at HG
    clear h60
    by_cases h60' : 60 < L'
    · rw [decide_eq_true h60'] at HG'
      go_enter Try.func5, Try.ntmps5
      go_wp2_with fail
      refine (HG.out _).mono ?_
      rintro e _ ⟨rfl, rfl⟩
      go_wp2_with fail
      refine (HG'.out _).mono ?_
      rintro e _ ⟨rfl, rfl⟩
      go_wp2_with fail
      refine (HAL.out _).mono ?_
      rintro e w1 ⟨rfl, hb1⟩
      go_wp2_with fail
      go_ret
      exact ⟨rfl, hb1⟩
    · rw [decide_eq_false h60'] at HG'
      clear h60'
      go_enter Try.func5, Try.ntmps5
      go_wp2_with fail
      refine (HG.out _).mono ?_
      rintro e _ ⟨rfl, rfl⟩
      go_wp2_with fail
      refine (HG'.out _).mono ?_
      rintro e _ ⟨rfl, rfl⟩
      go_wp2_with fail
      refine (HNEW.out _).mono ?_
      rintro e w1 ⟨B, rfl, hb1, ht1⟩
      have HB1 := Lib.hid hb1
      have HT1 := Lib.hid ht1
      clear hb1 ht1
      go_wp2_with fail
      refine (HNEW.out _).mono ?_
      rintro e w2 ⟨B', rfl, hb2, ht2⟩
      have HB2 := Lib.hid hb2
      have HT2 := Lib.hid ht2
      clear hb2 ht2
      go_wp2_with fail
      refine (HRNEW.out _).mono ?_
      rintro e w3 ⟨R, rfl, hb3, hr3⟩
      have HB3 := Lib.hid hb3
      have HR3 := Lib.hid hr3
      clear hb3 hr3
      go_wp2_with fail
      refine (HRNEW.out _).mono ?_
      rintro e w4 ⟨R', rfl, hb4, hr4⟩
      have HTa := Lib.hid (((HT1.out.below HB2.out).below HB3.out).below hb4)
      have HTb := Lib.hid ((HT2.out.below HB3.out).below hb4)
      have HRa := Lib.hid (HR3.out.below hb4)
      have HRb := Lib.hid hr4
      have HLOW := Lib.hid (And.intro HB1.out.size (And.intro HB2.out.size (And.intro HB3.out.size hb4.size)))
      have HBW := Lib.hid (btr (btr (btr HB1.out HB2.out (Nat.le_refl _)) HB3.out (Nat.le_refl _)) hb4 (Nat.le_refl _))
      clear hb4 hr4 HT1 HT2 HR3 HB1 HB2 HB3
      go_wp2_with fail
      go_loopw [9] (fun i wr => ∃ k : Nat, k ≤ L ∧ i = .int .i64 k ∧ Pl w4 (Nw w w1) (Nw w2 w3) B R (runM noM (l.take k)) wr) (fun i _ => L - (intOf i).toNat)
      case atStart => exact ⟨0, by omega, rfl, Pl.same HTa.out HRa.out (Below.refl _ _)⟩
      case round =>
        obtain ⟨k, hk, rfl, hP⟩ := hrel
        have HP := Lib.hid hP
        have hbl : Below w.heap.size w wr := HBW.out.trans (hP.k.below HBW.out.size (fun k h => by have := HLOW.out; rcases h with h | h <;> (have := h.1; omega)))
        have HBL := Lib.hid hbl
        by_cases hlt : k < L
        · obtain ⟨x, hx⟩ : ∃ x, l[k]? = some x := ⟨_, List.getElem?_eq_getElem (by have := HL.out; omega)⟩
          have hAt := (HA.out.below hbl) k x hx
          obtain ⟨hr, b, o, rfl, hB, g1, g2, g3, g4⟩ := hAt
          have HD := Lib.hid (play_at x hP.t hP.r (Pl.dis (fun k a b => by have := HLOW.out; have := a.1; have := a.2; have := b.1; have := b.2; omega) (fun k a => by have := HLOW.out; have := a.2; omega) hP) hr)
          have hX := runM_take (M := noM) hx
          generalize hMk : runM noM (l.take k) = Mk at hX HP HD ⊢
          have HX := Lib.hid hX
          clear hP hx hX hMk hbl hr hB
          go_wp2_with fail
          refine HD.out.mono ?_
          rintro e w5 ⟨rfl, hP2⟩
          have HP2 := Lib.hid (HP.out.trans hP2)
          clear hP2
          go_wp2_with fail
          go_roundw
          case rel => exact ⟨k + 1, by omega, by go_num, by rw [HX.out]; exact HP2.out⟩
          case measure => simp [intOf]; omega
        · generalize runM noM (l.take k) = M9 at HP
          clear hP hbl
          go_wp2_with fail
          have HT0 := Lib.hid HP.out.t
          have HR0 := Lib.hid HP.out.r
          have HT1 := Lib.hid (HTb.out.keep HP.out.k (fun k a b => by have := HLOW.out; rcases b with b | b <;> (have := a.1; have := a.2; have := b.1; have := b.2; omega)))
          have HR1 := Lib.hid (HRb.out.keep HP.out.k (fun k a b => by have := HLOW.out; rcases b with b | b <;> (have := a.1; have := a.2; have := b.1; have := b.2; omega)))
          have HL5 := Lib.hid HP.out.k.size
          clear HP
          generalize wr = W5 at *
          have HB5 := Lib.hid HBL.out
          clear HBL hlt hk
          go_loopw [10] (fun i wr => ∃ k : Nat, k ≤ L' ∧ i = .int .i64 k ∧ Pl W5 (Nw w1 w2) (Nw w3 w4) B' R' (runM noM (l'.take k)) wr) (fun i _ => L' - (intOf i).toNat)
          case atStart => exact ⟨0, by omega, rfl, Pl.same HT1.out HR1.out (Below.refl _ _)⟩
          case round =>
            obtain ⟨k, hk, rfl, hP⟩ := hrel
            have HP := Lib.hid hP
            have hbl : Below w.heap.size w wr := HB5.out.trans (hP.k.below HB5.out.size (fun k h => by have := HLOW.out; have := HL5.out; rcases h with h | h <;> (have := h.1; omega)))
            have HBL := Lib.hid hbl
            by_cases hlt : k < L'
            · obtain ⟨x, hx⟩ : ∃ x, l'[k]? = some x := ⟨_, List.getElem?_eq_getElem (by have := HL'.out; omega)⟩
              have hAt := (HA'.out.below hbl) k x hx
              obtain ⟨hr, b, o, rfl, hB, g1, g2, g3, g4⟩ := hAt
              have HD := Lib.hid (play_at x hP.t hP.r (Pl.dis (fun k a b => by have := HLOW.out; have := HL5.out; have := a.1; have := a.2; have := b.1; have := b.2; omega) (fun k a => by have := HLOW.out; have := HL5.out; have := a.2; omega) hP) hr)
              have hX := runM_take (M := noM) hx
              generalize hMk : runM noM (l'.take k) = Mk at hX HP HD ⊢
              have HX := Lib.hid hX
              clear hP hx hX hMk hbl hr hB
              go_wp2_with fail
              refine HD.out.mono ?_
              rintro e w5 ⟨rfl, hP2⟩
              have HP2 := Lib.hid (HP.out.trans hP2)
              clear hP2
              go_wp2_with fail
              go_roundw
              case rel => exact ⟨k + 1, by omega, by go_num, by rw [HX.out]; exact HP2.out⟩
              case measure => simp [intOf]; omega
            · generalize runM noM (l'.take k) = M10 at HP
              clear hP hbl
              go_wp2_with fail
              have hT0 := HT0.out.keep HP.out.k (fun k a b => by have := HLOW.out; have := HL5.out; rcases a with a | a <;> rcases b with b | b <;> (have := a.1; have := a.2; have := b.1; have := b.2; omega))
              have hR0 := HR0.out.keep HP.out.k (fun k a b => by have := HLOW.out; have := HL5.out; rcases b with b | b <;> (have := a.1; have := a.2; have := b.1; have := b.2; omega))
              have HS := Lib.hid (fun W (hb : Below wr.heap.size wr W) => Same_any (hT0.below hb) (HP.out.t.below hb))
              have HS' := Lib.hid (fun W (hb : Below wr.heap.size wr W) => Same_any (HP.out.t.below hb) (hT0.below hb))
              have HMA := Lib.hid (fun W (hb : Below wr.heap.size wr W) => rmarks_any (hR0.below hb))
              have HMB := Lib.hid (fun W (hb : Below wr.heap.size wr W) => rmarks_any (HP.out.r.below hb))
              have HCL := Lib.hid (fun W (hb : Below wr.heap.size wr W) => Clone_any (hT0.below hb))
              have HSC := Lib.hid (fun W W' C (hb : Below wr.heap.size wr W) (hb2 : Below W.heap.size W W') (hC : Tr W' (Nw W W') C M9) => Same_any ((hT0.below hb).below hb2) hC)
              rw [eqM_self] at HSC
              have hlen := marks_len M9
              have hlen' := marks_len M10
              clear hT0 hR0
              generalize marksM M9 = K at HS HS' HMA hlen
              generalize marksM M10 = K' at HS HS' HMB hlen'
              rw [eqM_comm K' K] at HS'
              have HEQ := Lib.hid (eqM_self K)
              obtain ⟨n, hn⟩ : ∃ n, K.length = n := ⟨_, rfl⟩
              obtain ⟨n', hn'⟩ : ∃ n', K'.length = n' := ⟨_, rfl⟩
              have HN := Lib.hid hn
              have HN' := Lib.hid hn'
              have HLEN := Lib.hid hlen
              clear hn hn' hlen hlen'
              refine (HS.out _ (Below.refl _ _)).mono ?_
              rintro e w6 ⟨rfl, hb6⟩
              have HB6 := Lib.hid hb6
              clear hb6
              go_wp2_with fail
              refine (HMA.out _ HB6.out).mono ?_
              rintro e w7 ⟨A7, c7, rfl, hm7, hb7⟩
              have HB7 := Lib.hid (btr HB6.out hb7 (Nat.le_refl _))
              have HM7 := Lib.hid hm7
              clear hm7 hb7
              rw [HN.out]
              go_wp2_with fail
              refine (HMB.out _ HB7.out).mono ?_
              rintro e w8 ⟨A8, c8, rfl, hm8, hb8⟩
              have hE := eq26_any A7 A8 c7 c8 _ _ K K' w8 (by have := HLEN.out; omega) (HM7.out.below hb8) hm8
              rw [HN.out, HN'.out] at hE
              have HE := Lib.hid hE
              have HB8 := Lib.hid (btr HB7.out hb8 (Nat.le_refl _))
              clear hm8 hb8 hE
              rw [HN'.out]
              generalize eqM K K' = y at HS HS' HE ⊢
              go_wp2_with fail
              refine HE.out.mono ?_
              rintro e w9 ⟨rfl, hb9⟩
              have HB9 := Lib.hid (btr HB8.out hb9 (Nat.le_refl _))
              clear hb9
              go_wp2_with fail
              refine (HCL.out _ HB9.out).mono ?_
              rintro e w10 ⟨C, rfl, hb10, ht10⟩
              have HB10 := Lib.hid (btr HB9.out hb10 (Nat.le_refl _))
              have HSC2 := Lib.hid (HSC.out _ _ _ HB9.out hb10 ht10)
              clear hb10 ht10
              go_wp2_with fail
              refine HSC2.out.mono ?_
              rintro e w11 ⟨rfl, hb11⟩
              have HB11 := Lib.hid (btr HB10.out hb11 (Nat.le_refl _))
              clear hb11
              go_wp2_with fail
              refine (HS'.out _ HB11.out).mono ?_
              rintro e w12 ⟨rfl, hb12⟩
              have HB12 := Lib.hid (btr HB11.out hb12 (Nat.le_refl _))
              clear hb12
              go_wp2_with fail
              refine (HS.out _ HB12.out).mono ?_
              rintro e w13 ⟨rfl, hb13⟩
              have HB13 := Lib.hid (btr HB12.out hb13 (Nat.le_refl _))
              clear hb13
              go_wp2_with fail
              refine (HAL.out _).mono ?_
              rintro e w14 ⟨rfl, hb14⟩
              go_wp2_with fail
              go_ret
              exact ⟨rfl, btr (btr HBL.out HB13.out (Nat.le_refl _)) hb14 (Nat.le_refl _)⟩

end Go.Proofs.Ytdjfeibcbmelcaa
