/- The statement about marks: what its call returns. -/
import Derived.Test.YtdjfeibcbmelcaaMd
import Derived.StillTailTactics
namespace Go.Proofs.Ytdjfeibcbmelcaa
open Go.RowKit

theorem mk_wm {M : Nat → Int} (hw : WM M) {l : List Mk} (h : MkI M l) {m : Mk} (hm : m ∈ l) : 1 ≤ m.n ∧ m.s + m.n ≤ 1024 ∧ 1 ≤ m.v ∧ m.v ≤ 1073741824 := by
  obtain ⟨h1, h2, h3⟩ := h.one m hm
  obtain ⟨h4, h5⟩ := h3 m.s ⟨Nat.le_refl _, by omega⟩
  have := hw m.s
  rw [h4] at this
  omega

set_option maxRecDepth 100000 in
set_option maxHeartbeats 1000000 in
theorem marks_walk (A : Option Addr) (c : Nat) (l : List Ac) (w : World) (hll : l.length ≤ 9223372036854775807) (hA : ActsAt w w.heap.size A l) :
    Calls Try.prog 7 #[.slice A l.length c] w (Yes w) := by
  have HAL := Lib.hid alive_any
  have HNEW := Lib.hid New_any
  have HMD := Lib.hid (fun w hA => made'_any A c l w hll hA)
  obtain ⟨L, hL⟩ : ∃ L, L = l.length := ⟨_, rfl⟩
  rw [← hL] at hll HMD ⊢
  have HG := Lib.hid (fun w => great_any A L c w hll)
  have HA := Lib.hid hA
  clear hA hL
  by_cases h60 : 60 < L
  · rw [decide_eq_true h60] at HG
    go_enter Try.func7, Try.ntmps7
    go_wp2_with fail
    refine (HG.out _).mono ?_
    rintro e _ ⟨rfl, rfl⟩
    go_wp2_with fail
    refine (HAL.out _).mono ?_
    rintro e w1 ⟨rfl, hb1⟩
    go_wp2_with fail
    go_ret
    exact ⟨rfl, hb1⟩
  · rw [decide_eq_false h60] at HG
    clear h60
    go_enter Try.func7, Try.ntmps7
    go_wp2_with fail
    refine (HG.out _).mono ?_
    rintro e _ ⟨rfl, rfl⟩
    go_wp2_with fail
    refine (HMD.out _ HA.out).mono ?_
    rintro e w1 ⟨B, rfl, hb1, ht1⟩
    have HB1 := Lib.hid hb1
    generalize runM noM l = M at ht1
    have HT1 := Lib.hid ht1
    clear hb1 ht1
    go_wp2_with fail
    refine (HNEW.out _).mono ?_
    rintro e w2 ⟨C, rfl, hb2, ht2⟩
    have HB2 := Lib.hid hb2
    have HT2 := Lib.hid ht2
    have HT12 := Lib.hid (HT1.out.below hb2)
    clear hb2 ht2
    go_wp2_with fail
    refine (Marks_any HT12.out).mono ?_
    rintro e w3 ⟨A3, c3, rfl, hm3, hb3⟩
    have HB3 := Lib.hid hb3
    have HM3 := Lib.hid hm3
    have HT3 := Lib.hid (HT12.out.below hb3)
    have HN3 := Lib.hid (HT2.out.below hb3)
    have HI := Lib.hid (mkI M)
    have hlen := marks_len M
    have HW := Lib.hid (fun (m : Mk) (hm : m ∈ marksM M) => mk_wm HT1.out.wf (mkI M) hm)
    have HSL := Lib.hid (show sumN (marksM M) ≤ 1024 by rw [(mkI M).sum]; exact hl_len _ _ _)
    generalize hK : marksM M = K at hm3 HM3 hlen HI HW HSL ⊢
    have HKM := Lib.hid hK
    obtain ⟨n, hn⟩ : ∃ n, K.length = n := ⟨_, rfl⟩
    have HN := Lib.hid hn
    rw [hn] at hlen ⊢
    have LOW := Lib.hid (And.intro HB1.out.size (And.intro HB2.out.size HB3.out.size))
    clear hm3 hb3 hK hn
    go_wp2_with fail
    go_loopw [6, 7] (fun su i wr => ∃ j : Nat, j ≤ n ∧ i = .int .i64 j ∧ su = .int .i64 (sumN (K.take j)) ∧ Mut w3 (Nw w1 w2) C (covN M K j) wr) (fun _ i _ => n - (intOf i).toNat)
    case atStart => exact ⟨0, by omega, rfl, rfl, by rw [covN_zero]; exact Mut.same HN3.out (Below.refl _ _)⟩
    case round =>
      obtain ⟨j, hj, rfl, rfl, hM⟩ := hrel
      have HM := Lib.hid hM
      have hmk := HM3.out.keep hM.2 (fun k hk ho => by have := ho.2; omega)
      have HMK := Lib.hid hmk
      by_cases hlt : j < n
      · obtain ⟨m, hm⟩ : ∃ m, K[j]? = some m := ⟨_, List.getElem?_eq_getElem (by have := HN.out; omega)⟩
        obtain ⟨g, rfl, hg1, hg2, g1, g2, g3⟩ := hmk j m hm
        obtain ⟨r1, r2, r3, r4⟩ := HW.out m (List.mem_of_getElem? hm)
        have hst := covN_step HI.out hm
        have hsu := sumN_take hm
        have hsl := sumN_take_le K (j + 1)
        have hsl2 := HSL.out
        have hE : setE m.s m.n m.v = 0 := if_pos ⟨(insB_iff _ _).2 ⟨by omega, by omega, by omega⟩, (noB_iff _).2 ⟨r3, r4⟩⟩
        have hD : setD (covN M K j) m.s m.n m.v = covN M K (j + 1) := by
          rw [← hst]
          unfold setD
          rw [if_pos ⟨(insB_iff _ _).2 ⟨by omega, by omega, by omega⟩, (noB_iff _).2 ⟨r3, r4⟩⟩, Int.toNat_natCast, Int.toNat_natCast]
        have HED := Lib.hid (And.intro hE hD)
        have HMEM := Lib.hid hm
        have HSU := Lib.hid hsu
        have hprev : j = 0 ∨ ∃ (i : Nat) (q : Mk), j = i + 1 ∧ K[i]? = some q ∧ Nx q m := by
          rcases Nat.eq_zero_or_pos j with h | h
          · exact .inl h
          · obtain ⟨q, hq⟩ : ∃ q, K[j - 1]? = some q := ⟨_, List.getElem?_eq_getElem (by have := HN.out; omega)⟩
            exact .inr ⟨j - 1, q, by omega, hq, HI.out.chain (j - 1) q m hq (by rw [show j - 1 + 1 = j from by omega]; exact hm)⟩
        obtain ⟨ms, mn, mv⟩ := m
        dsimp only at g1 g2 g3 r1 r2 r3 r4 hsu HSU HED
        rw [hsu] at hsl
        generalize hsm : sumN (K.take j) = sm at hsl HSU ⊢
        clear hm hst hsu hE hD hM hsm
        have hmx : Try.prog.follows .mixedOrders = true := by kernel_rfl
        have ESU := Lib.hid (w64 ((sm : Int) + (mn : Int)) (by omega))
        have d1 : decide ((mn : Int) < 1) = false := decide_eq_false (by omega)
        have d2 : decide (mn < 1) = false := decide_eq_false (by omega)
        have d3 : decide (mn = 0) = false := decide_eq_false (by omega)
        have d4 : decide (mv < 1) = false := decide_eq_false (by omega)
        have d5 : (mn == 0) = false := by simp only [beq_eq_false_iff_ne]; omega
        rcases hprev with hj0 | ⟨i, q, hji, hq, hnx1, hnx2⟩
        · have t1 : decide ((0 : Int) < (j : Int)) = false := decide_eq_false (by omega)
          have t2 : decide (0 < j) = false := decide_eq_false (by omega)
          have HJ0 := Lib.hid hj0
          clear hj0 r1 r3
          go_wp2_with fail
          refine wp_region_quiet_lit (by kernel_rfl) (by kernel_rfl) ?_
          simp only [List.append_eq, List.cons_append, List.nil_append]
          repeat (go_big_quiet_step (fail))
          refine wpQuiet_nil ?_
          intro _ hw'
          obtain ⟨nq, hw''⟩ := hw'
          subst hw''
          have hby : Below wr.heap.size wr (wr.drewN nq) := belowN (Below.refl _ _) nq
          have y1 := (hby.cell (p := ⟨g, j * 3, none⟩) hg2).trans g1
          have y2 := (hby.cell (p := ⟨g, j * 3 + 1, none⟩) hg2).trans g2
          have y3 := (hby.cell (p := ⟨g, j * 3 + 2, none⟩) hg2).trans g3
          have HMy := Lib.hid (HM.out.then hby)
          clear g1 g2 g3
          generalize wr.drewN nq = wy at y1 y2 y3 HMy hby ⊢
          go_wp2_with fail
          go_still_tail 16, hmx
          change wpList _ _ _ _ _ wy.drew
          have z2 : wy.drew.cell? ⟨g, j * 3 + 1, none⟩ = _ := y2
          have HMz := Lib.hid (HMy.out.then (belowN (Below.refl _ _) 1))
          change Hid (Mut w3 (Nw w1 w2) C (covN M K j) wy.drew) at HMz
          generalize wy.drew = wz at z2 HMz ⊢
          have hS := Set_any ms mn mv HMz.out.1 ⟨by omega, by omega⟩
          rw [HED.out.1, HED.out.2] at hS
          go_wp2_with fail
          refine hS.mono ?_
          rintro e w5 ⟨rfl, hM5⟩
          have hM35 := HMz.out.trans hM5
          have g2' := ((HM3.out.keep hM35.2 (fun k hk ho => by have := ho.2; have := LOW.out; omega)) j ⟨ms, mn, mv⟩ HMEM.out)
          obtain ⟨g', hgg, _, _, _, z5, _⟩ := g2'
          cases hgg
          have HM5 := Lib.hid hM35
          obtain ⟨s1, s2⟩ := ESU.out
          clear hS hM5 hM35
          go_wp2_with fail
          go_roundw
          case rel => exact ⟨j + 1, by omega, by go_num, by rw [HSU.out]; go_num, HM5.out⟩
          case measure => simp [intOf]; omega
        · obtain ⟨g', hgg, _, _, p1, p2, p3⟩ := hmk i q hq
          cases hgg
          obtain ⟨v1, v2, v3, v4⟩ := HW.out q (List.mem_of_getElem? hq)
          obtain ⟨qs, qn, qv⟩ := q
          dsimp only at p1 p2 p3 v1 v2 v3 v4 hnx1 hnx2
          obtain ⟨qe, hqe⟩ : ∃ qe, qs + qn = qe := ⟨_, rfl⟩
          rw [hqe] at hnx1 hnx2
          have hsum : (qs : Int) + (qn : Int) = (qe : Int) := by omega
          have hjm : (j : Int) - 1 = (i : Int) := by omega
          have EQ := Lib.hid (w64 (qe : Int) (by omega))
          have EI := Lib.hid (w64 (i : Int) (by omega))
          have t1 : decide ((0 : Int) < (j : Int)) = true := decide_eq_true (by omega)
          have t2 : decide (0 < j) = true := decide_eq_true (by omega)
          have t3 : decide ((ms : Int) < (qe : Int)) = false := decide_eq_false (by omega)
          have t4 : decide (ms < qe) = false := decide_eq_false (by omega)
          have hin : i < n := by omega
          have HMK2 := Lib.hid hji
          by_cases hem : qe = ms
          · have t5 : ((qe : Int) == (ms : Int)) = true := by rw [hem]; simp
            have t6 : (qv == mv) = false := by simp only [beq_eq_false_iff_ne]; exact hnx2 hem
            obtain ⟨s1, s2⟩ := EQ.out
            obtain ⟨s3, s4⟩ := EI.out
            have HEM := Lib.hid hem
            clear hem hnx2 hnx1 hji hqe hq r1 r3 v1 v2 v3 v4
            go_wp2_with fail
            refine wp_region_quiet_lit (by kernel_rfl) (by kernel_rfl) ?_
            simp only [List.append_eq, List.cons_append, List.nil_append]
            repeat (go_big_quiet_step (fail))
            refine wpQuiet_nil ?_
            intro _ hw'
            obtain ⟨nq, hw''⟩ := hw'
            subst hw''
            have hby : Below wr.heap.size wr (wr.drewN nq) := belowN (Below.refl _ _) nq
            have y1 := (hby.cell (p := ⟨g, j * 3, none⟩) hg2).trans g1
            have y2 := (hby.cell (p := ⟨g, j * 3 + 1, none⟩) hg2).trans g2
            have y3 := (hby.cell (p := ⟨g, j * 3 + 2, none⟩) hg2).trans g3
            have HMy := Lib.hid (HM.out.then hby)
            clear g1 g2 g3 p1 p2 p3 s1 s2 s3 s4 hsum hjm
            generalize wr.drewN nq = wy at y1 y2 y3 HMy hby ⊢
            go_wp2_with fail
            go_still_tail 16, hmx
            change wpList _ _ _ _ _ wy.drew
            have z2 : wy.drew.cell? ⟨g, j * 3 + 1, none⟩ = _ := y2
            have HMz := Lib.hid (HMy.out.then (belowN (Below.refl _ _) 1))
            change Hid (Mut w3 (Nw w1 w2) C (covN M K j) wy.drew) at HMz
            generalize wy.drew = wz at z2 HMz ⊢
            have hS := Set_any ms mn mv HMz.out.1 ⟨by omega, by omega⟩
            rw [HED.out.1, HED.out.2] at hS
            go_wp2_with fail
            refine hS.mono ?_
            rintro e w5 ⟨rfl, hM5⟩
            have hM35 := HMz.out.trans hM5
            have g2' := ((HM3.out.keep hM35.2 (fun k hk ho => by have := ho.2; have := LOW.out; omega)) j ⟨ms, mn, mv⟩ HMEM.out)
            obtain ⟨g', hgg, _, _, _, z5, _⟩ := g2'
            cases hgg
            have HM5 := Lib.hid hM35
            obtain ⟨s1, s2⟩ := ESU.out
            clear hS hM5 hM35
            go_wp2_with fail
            go_roundw
            case rel => exact ⟨j + 1, by omega, by go_num, by rw [HSU.out]; go_num, HM5.out⟩
            case measure => simp [intOf]; omega
          · have t5 : ((qe : Int) == (ms : Int)) = false := by simp only [beq_eq_false_iff_ne]; omega
            obtain ⟨s1, s2⟩ := EQ.out
            obtain ⟨s3, s4⟩ := EI.out
            clear hem hnx2 hnx1 hji hqe hq r1 r3 v1 v2 v3 v4
            go_wp2_with fail
            refine wp_region_quiet_lit (by kernel_rfl) (by kernel_rfl) ?_
            simp only [List.append_eq, List.cons_append, List.nil_append]
            repeat (go_big_quiet_step (fail))
            refine wpQuiet_nil ?_
            intro _ hw'
            obtain ⟨nq, hw''⟩ := hw'
            subst hw''
            have hby : Below wr.heap.size wr (wr.drewN nq) := belowN (Below.refl _ _) nq
            have y1 := (hby.cell (p := ⟨g, j * 3, none⟩) hg2).trans g1
            have y2 := (hby.cell (p := ⟨g, j * 3 + 1, none⟩) hg2).trans g2
            have y3 := (hby.cell (p := ⟨g, j * 3 + 2, none⟩) hg2).trans g3
            have HMy := Lib.hid (HM.out.then hby)
            clear g1 g2 g3 p1 p2 p3 s1 s2 s3 s4 hsum hjm
            generalize wr.drewN nq = wy at y1 y2 y3 HMy hby ⊢
            go_wp2_with fail
            go_still_tail 16, hmx
            change wpList _ _ _ _ _ wy.drew
            have z2 : wy.drew.cell? ⟨g, j * 3 + 1, none⟩ = _ := y2
            have HMz := Lib.hid (HMy.out.then (belowN (Below.refl _ _) 1))
            change Hid (Mut w3 (Nw w1 w2) C (covN M K j) wy.drew) at HMz
            generalize wy.drew = wz at z2 HMz ⊢
            have hS := Set_any ms mn mv HMz.out.1 ⟨by omega, by omega⟩
            rw [HED.out.1, HED.out.2] at hS
            go_wp2_with fail
            refine hS.mono ?_
            rintro e w5 ⟨rfl, hM5⟩
            have hM35 := HMz.out.trans hM5
            have g2' := ((HM3.out.keep hM35.2 (fun k hk ho => by have := ho.2; have := LOW.out; omega)) j ⟨ms, mn, mv⟩ HMEM.out)
            obtain ⟨g', hgg, _, _, _, z5, _⟩ := g2'
            cases hgg
            have HM5 := Lib.hid hM35
            obtain ⟨s1, s2⟩ := ESU.out
            clear hS hM5 hM35
            go_wp2_with fail
            go_roundw
            case rel => exact ⟨j + 1, by omega, by go_num, by rw [HSU.out]; go_num, HM5.out⟩
            case measure => simp [intOf]; omega
      · have hj2 : j = K.length := by have := HN.out; omega
        have HCV := Lib.hid (covN_end HI.out)
        rw [show K.take j = K by rw [hj2, List.take_length], HI.out.sum]
        rw [show covN M K j = covN M K K.length by rw [hj2]] at HM
        have HMT := Lib.hid (HT3.out.keep HM.out.2 (fun k hk ho => by have := hk.2; have := ho.1; omega))
        have HNT := Lib.hid HM.out.1
        have BEL := Lib.hid (show Below w.heap.size w wr from (btr (btr HB1.out HB2.out (Nat.le_refl _)) HB3.out (Nat.le_refl _)).trans (HM.out.2.below (by have := LOW.out; omega) (fun k hk => by have := hk.1; have := LOW.out; omega)))
        clear hM hmk hj2 HM
        go_wp2_with fail
        go_loopw [6, 8] (fun su i wx => ∃ k : Nat, k ≤ 1024 ∧ i = .int .i64 k ∧ wr = wx ∧ su = .int .i64 (((hl (nz M) 0 1024).length : Int) - ((hl (nz M) 0 k).length : Int))) (fun _ i _ => 1024 - (intOf i).toNat)
        case atStart => exact ⟨0, by omega, rfl, rfl, by rw [hl_end (c := nz M) (k := 0) (n := 0) (by omega)]; simp⟩
        case round =>
          obtain ⟨k, hk, rfl, rfl, rfl⟩ := hrel
          have hle := hl_len (nz M) 0 1024
          have hle2 := hl_len (nz M) 0 k
          by_cases hlt : k < 1024
          · have HGET := Lib.hid (Get_any (k : Int) HMT.out ⟨by omega, by omega⟩)
            rw [getV_in rfl hlt] at HGET
            have hsn := len_snoc (nz M) k
            by_cases hm : M k = 0
            · rw [hm] at HGET
              rw [if_neg (by rw [nz_false hm]; decide), Nat.add_zero] at hsn
              have HSN := Lib.hid hsn
              clear hm hsn
              generalize (hl (nz M) 0 k).length = a at HSN hle2 ⊢
              generalize (hl (nz M) 0 1024).length = b at hle ⊢
              go_wp2_with fail
              refine HGET.out.mono ?_
              rintro e _ ⟨rfl, rfl⟩
              go_wp2_with fail
              go_roundw
              case rel => exact ⟨k + 1, by omega, by go_num, trivial, by rw [HSN.out, Nat.add_zero]⟩
              case measure => simp [intOf]; omega
            · rw [if_pos (nz_true hm)] at hsn
              have HSN := Lib.hid hsn
              generalize M k = x at HGET hm
              have q : (x == 0) = false := by simpa using hm
              have q' : (x != 0) = true := by simpa using hm
              clear hm hsn
              generalize (hl (nz M) 0 k).length = a at HSN hle2 ⊢
              generalize (hl (nz M) 0 1024).length = b at hle ⊢
              have E1 := Lib.hid (w64 ((b : Int) - (a : Int) - 1) (by omega))
              obtain ⟨s1, s2⟩ := E1.out
              go_wp2_with fail
              refine HGET.out.mono ?_
              rintro e _ ⟨rfl, rfl⟩
              go_wp2_with fail
              go_roundw
              case rel => exact ⟨k + 1, by omega, by go_num, trivial, by rw [HSN.out]; go_num⟩
              case measure => simp [intOf]; omega
          · have hk2 : k = 1024 := by omega
            have hz : ((hl (nz M) 0 1024).length : Int) - ((hl (nz M) 0 k).length : Int) = 0 := by rw [hk2]; omega
            rw [hz]
            have hmm : marksM (covN M K K.length) = K := by rw [marksM_congr HCV.out, HKM.out]
            have HSAME := Lib.hid (Same_any HMT.out HNT.out)
            rw [hmm, HKM.out, eqM_self] at HSAME
            have HMM := Lib.hid hmm
            clear hz hk2 hmm hle hle2
            go_wp2_with fail
            refine HSAME.out.mono ?_
            rintro e w6 ⟨rfl, hb6⟩
            have HB6 := Lib.hid hb6
            have hM7 := Marks_any (HNT.out.below hb6)
            rw [HMM.out] at hM7
            have HM7 := Lib.hid hM7
            have HK6 := Lib.hid (HMK.out.below hb6)
            clear hb6 hM7
            go_wp2_with fail
            refine HM7.out.mono ?_
            rintro e w7 ⟨A7, c7, rfl, hm7, hb7⟩
            have hE := eq26_any A7 A3 c7 c3 _ _ K K w7 (by have := HN.out; omega) hm7 (HK6.out.below hb7)
            rw [eqM_self, HN.out] at hE
            have HE := Lib.hid hE
            have HB7 := Lib.hid hb7
            clear hm7 hb7 hE
            rw [HN.out]
            go_wp2_with fail
            refine HE.out.mono ?_
            rintro e w8 ⟨rfl, hb8⟩
            have HB8 := Lib.hid hb8
            clear hb8
            go_wp2_with fail
            refine (HAL.out _).mono ?_
            rintro e w9 ⟨rfl, hb9⟩
            go_wp2_with fail
            go_ret
            exact ⟨rfl, btr (btr (btr (btr BEL.out HB6.out (Nat.le_refl _)) HB7.out (Nat.le_refl _)) HB8.out (Nat.le_refl _)) hb9 (Nat.le_refl _)⟩

end Go.Proofs.Ytdjfeibcbmelcaa
