/- The statement about clones: what its call returns. -/
import Derived.Test.YtdjfeibcbmelcaaLp
import Derived.Test.YtdjfeibcbmelcaaXa
import Derived.Test.YtdjfeibcbmelcaaFb
import Derived.Test.YtdjfeibcbmelcaaFc
namespace Go.Proofs.Ytdjfeibcbmelcaa
open Go.RowKit

set_option maxRecDepth 100000 in
set_option maxHeartbeats 4000000 in
theorem clones_walk (A A' : Option Addr) (c c' : Nat) (l l' : List Ac) (s : Bool) (w : World) (hl : l.length ≤ 9223372036854775807) (hl' : l'.length ≤ 9223372036854775807) (hA : ActsAt w w.heap.size A l) (hA' : ActsAt w w.heap.size A' l') :
    Calls Try.prog 11 #[.slice A l.length c, .slice A' l'.length c', .bool s] w (Yes w) := by
  have HAL := Lib.hid alive_any
  have HMD := Lib.hid (fun w => made'_any A c l w hl)
  obtain ⟨L, hL⟩ : ∃ L, L = l.length := ⟨_, rfl⟩
  obtain ⟨L', hL'⟩ : ∃ L', L' = l'.length := ⟨_, rfl⟩
  have HL' := Lib.hid hL'
  rw [← hL] at hl HMD ⊢
  rw [← hL'] at hl' ⊢
  have HG := Lib.hid (fun w => great_any A L c w hl)
  have HG' := Lib.hid (fun w => great_any A' L' c' w hl')
  have HA := Lib.hid hA
  have HA' := Lib.hid hA'
  clear hA hA' hL hL'
  by_cases h60 : 60 < L
  · rw [decide_eq_true h60] at HG
    go_enter Try.func11, Try.ntmps11
    go_wp2_with fail
    refine (HG.out _).mono ?_
    rintro e _ ⟨rfl, rfl⟩
    go_wp2_with fail
    refine (HAL.out _).mono ?_
    rintro e w1 ⟨rfl, hb1⟩
    go_wp2_with fail
    go_ret
    exact ⟨rfl, hb1⟩
  · rw [decide_eq_false h60] at HG
    clear h60
    by_cases h60' : 60 < L'
    · rw [decide_eq_true h60'] at HG'
      go_enter Try.func11, Try.ntmps11
      go_wp2_with fail
      refine (HG.out _).mono ?_
      rintro e _ ⟨rfl, rfl⟩
      go_wp2_with fail
      refine (HG'.out _).mono ?_
      rintro e _ ⟨rfl, rfl⟩
      go_wp2_with fail
      refine (HAL.out _).mono ?_
      rintro e w1 ⟨rfl, hb1⟩
      go_wp2_with fail
      go_ret
      exact ⟨rfl, hb1⟩
    · rw [decide_eq_false h60'] at HG'
      clear h60'
      go_enter Try.func11, Try.ntmps11
      go_wp2_with fail
      refine (HG.out _).mono ?_
      rintro e _ ⟨rfl, rfl⟩
      go_wp2_with fail
      refine (HG'.out _).mono ?_
      rintro e _ ⟨rfl, rfl⟩
      go_wp2_with fail
      refine (HMD.out _ HA.out).mono ?_
      rintro e w1 ⟨B, rfl, hb1, ht1⟩
      have HB1 := Lib.hid hb1
      have hA1 := (HA.out.below hb1).more hb1.size
      have HMD1 := Lib.hid (HMD.out w1 hA1)
      generalize runM noM l = M at ht1 HMD1
      have HT1a := Lib.hid ht1
      clear hb1 ht1 hA1 HMD
      go_wp2_with fail
      refine HMD1.out.mono ?_
      rintro e w2 ⟨B2, rfl, hb2, ht2⟩
      have HB2 := Lib.hid hb2
      have HT2a := Lib.hid ht2
      have ht12 := HT1a.out.below hb2
      have HCL := Lib.hid (Clone_any ht12)
      clear hb2 ht2 ht12
      go_wp2_with fail
      refine HCL.out.mono ?_
      rintro e w3 ⟨C, rfl, hb3, ht3⟩
      have HT1 := Lib.hid ((HT1a.out.below HB2.out).below hb3)
      have HT2 := Lib.hid (HT2a.out.below hb3)
      have HT3 := Lib.hid ht3
      have HLOW := Lib.hid (And.intro HB1.out.size (And.intro HB2.out.size hb3.size))
      have HBW := Lib.hid (btr (btr HB1.out HB2.out (Nat.le_refl _)) hb3 (Nat.le_refl _))
      clear hb3 ht3
      cases s
      · go_wp2_with fail
        go_loopw [10] (fun i wr => ∃ k : Nat, k ≤ L' ∧ i = .int .i64 k ∧ Mut w3 (Nw w2 w3) C (runM M (l'.take k)) wr) (fun i _ => L' - (intOf i).toNat)
        case atStart => exact ⟨0, by omega, rfl, Mut.same HT3.out (Below.refl _ _)⟩
        case round =>
          obtain ⟨k, hk, rfl, hM⟩ := hrel
          have HM := Lib.hid hM
          have hbl := hM.bel HBW.out (fun k hk => by have := hk.1; have := HLOW.out; omega)
          have HBL := Lib.hid hbl
          by_cases hlt : k < L'
          · obtain ⟨x, hx⟩ : ∃ x, l'[k]? = some x := ⟨_, List.getElem?_eq_getElem (by have := HL'.out; omega)⟩
            have hAt := (HA'.out.below hbl) k x hx
            obtain ⟨hr, b, o, rfl, hB, g1, g2, g3, g4⟩ := hAt
            have HD := Lib.hid (do_at x hM.1 hr)
            have hX := runM_take (M := M) hx
            generalize hMk : runM M (l'.take k) = Mk at hX HM HD ⊢
            have HX := Lib.hid hX
            clear hM hx hX hMk hbl hr hB
            go_wp2_with fail
            refine HD.out.mono ?_
            rintro e w4 ⟨rfl, hM2⟩
            have HM2 := Lib.hid (HM.out.trans hM2)
            clear hM2
            go_wp2_with fail
            go_roundw
            case rel => exact ⟨k + 1, by omega, by go_num, by rw [HX.out]; exact HM2.out⟩
            case measure => simp [intOf]; omega
          · have hO := HT1.out.keep hM.2 (fun k a b => by have := a.1; have := a.2; have := b.1; have := b.2; have := HLOW.out; omega)
            have hO2 := HT2.out.keep hM.2 (fun k a b => by have := a.1; have := a.2; have := b.1; have := b.2; have := HLOW.out; omega)
            have hS := Same_any hO hO2
            rw [eqM_self] at hS
            have HS := Lib.hid hS
            have HO := Lib.hid hO
            have HO2 := Lib.hid hO2
            have hlen := marks_len M
            clear hM hbl hO hO2 hS
            go_wp2_with fail
            refine HS.out.mono ?_
            rintro e w5 ⟨rfl, hb5⟩
            have HB5 := Lib.hid hb5
            have HM5 := Lib.hid (Marks_any (HO.out.below hb5))
            have HP5 := Lib.hid (HO2.out.below hb5)
            generalize hK : marksM M = K at HM5 hlen
            have HKM := Lib.hid hK
            obtain ⟨n, hn⟩ : ∃ n, K.length = n := ⟨_, rfl⟩
            have HN := Lib.hid hn
            rw [hn] at hlen
            have HLEN := Lib.hid hlen
            clear hb5 hK hn hlen
            go_wp2_with fail
            refine HM5.out.mono ?_
            rintro e w6 ⟨A6, c6, rfl, hm6, hb6⟩
            have HB6 := Lib.hid hb6
            have hM6 := Marks_any (HP5.out.below hb6)
            rw [HKM.out] at hM6
            have HM6 := Lib.hid hM6
            have HK6 := Lib.hid hm6
            clear hm6 hb6 hM6
            rw [HN.out]
            go_wp2_with fail
            refine HM6.out.mono ?_
            rintro e w7 ⟨A7, c7, rfl, hm7, hb7⟩
            have hE := eq26_any A6 A7 c6 c7 _ _ K K w7 (by have := HN.out; have := HLEN.out; omega) (HK6.out.below hb7) hm7
            rw [eqM_self, HN.out] at hE
            have HE := Lib.hid hE
            have HB7 := Lib.hid hb7
            clear hm7 hb7 hE
            rw [HN.out]
            go_wp2_with fail
            refine HE.out.mono ?_
            rintro e w8 ⟨rfl, hb8⟩
            have HB8 := Lib.hid hb8
            clear hb8
            go_wp2_with fail
            refine (HAL.out _).mono ?_
            rintro e w9 ⟨rfl, hb9⟩
            go_wp2_with fail
            go_ret
            exact ⟨rfl, btr (btr (btr (btr (btr HBL.out HB5.out (Nat.le_refl _)) HB6.out (Nat.le_refl _)) HB7.out (Nat.le_refl _)) HB8.out (Nat.le_refl _)) hb9 (Nat.le_refl _)⟩
      · go_wp2_with fail
        go_loopw [10] (fun i wr => ∃ k : Nat, k ≤ L' ∧ i = .int .i64 k ∧ Mut w3 (Nw w w1) B (runM M (l'.take k)) wr) (fun i _ => L' - (intOf i).toNat)
        case atStart => exact ⟨0, by omega, rfl, Mut.same HT1.out (Below.refl _ _)⟩
        case round =>
          obtain ⟨k, hk, rfl, hM⟩ := hrel
          have HM := Lib.hid hM
          have hbl := hM.bel HBW.out (fun k hk => hk.1)
          have HBL := Lib.hid hbl
          by_cases hlt : k < L'
          · obtain ⟨x, hx⟩ : ∃ x, l'[k]? = some x := ⟨_, List.getElem?_eq_getElem (by have := HL'.out; omega)⟩
            have hAt := (HA'.out.below hbl) k x hx
            obtain ⟨hr, b, o, rfl, hB, g1, g2, g3, g4⟩ := hAt
            have HD := Lib.hid (do_at x hM.1 hr)
            have hX := runM_take (M := M) hx
            generalize hMk : runM M (l'.take k) = Mk at hX HM HD ⊢
            have HX := Lib.hid hX
            clear hM hx hX hMk hbl hr hB
            go_wp2_with fail
            refine HD.out.mono ?_
            rintro e w4 ⟨rfl, hM2⟩
            have HM2 := Lib.hid (HM.out.trans hM2)
            clear hM2
            go_wp2_with fail
            go_roundw
            case rel => exact ⟨k + 1, by omega, by go_num, by rw [HX.out]; exact HM2.out⟩
            case measure => simp [intOf]; omega
          · have hO := HT3.out.keep hM.2 (fun k a b => by have := a.1; have := a.2; have := b.1; have := b.2; have := HLOW.out; omega)
            have hO2 := HT2.out.keep hM.2 (fun k a b => by have := a.1; have := a.2; have := b.1; have := b.2; have := HLOW.out; omega)
            have hS := Same_any hO hO2
            rw [eqM_self] at hS
            have HS := Lib.hid hS
            have HO := Lib.hid hO
            have HO2 := Lib.hid hO2
            have hlen := marks_len M
            clear hM hbl hO hO2 hS
            go_wp2_with fail
            refine HS.out.mono ?_
            rintro e w5 ⟨rfl, hb5⟩
            have HB5 := Lib.hid hb5
            have HM5 := Lib.hid (Marks_any (HO.out.below hb5))
            have HP5 := Lib.hid (HO2.out.below hb5)
            generalize hK : marksM M = K at HM5 hlen
            have HKM := Lib.hid hK
            obtain ⟨n, hn⟩ : ∃ n, K.length = n := ⟨_, rfl⟩
            have HN := Lib.hid hn
            rw [hn] at hlen
            have HLEN := Lib.hid hlen
            clear hb5 hK hn hlen
            go_wp2_with fail
            refine HM5.out.mono ?_
            rintro e w6 ⟨A6, c6, rfl, hm6, hb6⟩
            have HB6 := Lib.hid hb6
            have hM6 := Marks_any (HP5.out.below hb6)
            rw [HKM.out] at hM6
            have HM6 := Lib.hid hM6
            have HK6 := Lib.hid hm6
            clear hm6 hb6 hM6
            rw [HN.out]
            go_wp2_with fail
            refine HM6.out.mono ?_
            rintro e w7 ⟨A7, c7, rfl, hm7, hb7⟩
            have hE := eq26_any A6 A7 c6 c7 _ _ K K w7 (by have := HN.out; have := HLEN.out; omega) (HK6.out.below hb7) hm7
            rw [eqM_self, HN.out] at hE
            have HE := Lib.hid hE
            have HB7 := Lib.hid hb7
            clear hm7 hb7 hE
            rw [HN.out]
            go_wp2_with fail
            refine HE.out.mono ?_
            rintro e w8 ⟨rfl, hb8⟩
            have HB8 := Lib.hid hb8
            clear hb8
            go_wp2_with fail
            refine (HAL.out _).mono ?_
            rintro e w9 ⟨rfl, hb9⟩
            go_wp2_with fail
            go_ret
            exact ⟨rfl, btr (btr (btr (btr (btr HBL.out HB5.out (Nat.le_refl _)) HB6.out (Nat.le_refl _)) HB7.out (Nat.le_refl _)) HB8.out (Nat.le_refl _)) hb9 (Nat.le_refl _)⟩

end Go.Proofs.Ytdjfeibcbmelcaa
