/- The statement about maps that nobody made: what its call returns. -/
import Derived.Test.YtdjfeibcbmelcaaNb
import Derived.Test.YtdjfeibcbmelcaaXg
namespace Go.Proofs.Ytdjfeibcbmelcaa
open Go.RowKit

theorem eqM_nil {K : List Mk} (n : Nat) (h : K.length = n) : eqM [] K = ((n : Int) == 0) := by
  by_cases h0 : n = 0
  · rw [h0]
    exact eqM_iff.2 (List.length_eq_zero_iff.1 (h.trans h0)).symm
  · have : ((n : Int) == 0) = false := by simp; omega
    rw [this]
    exact eqM_len (fun e => h0 (by rw [← h, ← e]; rfl))

set_option maxRecDepth 100000 in
set_option maxHeartbeats 4000000 in
theorem none_walk (s : Ac) (A : Option Addr) (c : Nat) (l : List Ac) (w : World) (hs : AcR s) (hl : l.length ≤ 9223372036854775807) (hA : ActsAt w w.heap.size A l) :
    Calls Try.prog 4 #[.agg #[.int .i64 s.k, .int .i64 s.a, .int .i64 s.b, .int .i64 s.c], .slice A l.length c] w (Yes w) := by
  obtain ⟨sk, sa, sb, sc⟩ := s
  dsimp only
  have HAL := Lib.hid alive_any
  have HNEW := Lib.hid New_any
  have HRNEW := Lib.hid rnew_any
  obtain ⟨L, hL⟩ : ∃ L, L = l.length := ⟨_, rfl⟩
  have HL := Lib.hid hL
  rw [← hL] at hl ⊢
  have HG := Lib.hid (fun w => great_any A L c w hl)
  obtain ⟨W0, hW, hb0, hz, c0, c1, c2, c3⟩ := new4 w (.int .i64 sk) (.int .i64 sa) (.int .i64 sb) (.int .i64 sc) 30
  have HA := Lib.hid hA
  have HB0 := Lib.hid hb0
  have HZ0 := Lib.hid hz
  clear hA hL hs hb0 hz
  by_cases h60 : 60 < L
  · rw [decide_eq_true h60] at HG
    go_enter Try.func4, Try.ntmps4
    go_wp2_with fail
    refine (HG.out _).mono ?_
    rintro e _ ⟨rfl, rfl⟩
    go_wp2_with fail
    refine (HAL.out _).mono ?_
    rintro e w1 ⟨rfl, hb1⟩
    go_wp2_with fail
    go_ret
    exact ⟨rfl, btr HB0.out hb1 (Nat.le_refl _)⟩
  · rw [decide_eq_false h60] at HG
    clear h60
    have hz0 : (W0.alloc (.cells #[.pointer none] 40)).cell? ⟨W0.heap.size, 0, none⟩ = some (.pointer none) := by go_simp
    obtain ⟨W1, hW1⟩ : ∃ W1, W0.alloc (.cells #[.pointer none] 40) = W1 := ⟨_, rfl⟩
    obtain ⟨Z, hZ⟩ : ∃ Z, W0.heap.size = Z := ⟨_, rfl⟩
    have hb1 : Below W0.heap.size W0 W1 := by rw [← hW1]; exact bnew _ _
    have hno : NoT W1 (.pointer (some ⟨Z, 0, none⟩)) := .inr ⟨Z, rfl, by rw [← hW1, ← hZ]; exact hz0⟩
    have HNO := Lib.hid (fun W (hb : Below W1.heap.size W1 W) => hno.below hb)
    have HNI := Lib.hid (fun W => (show NoT W (.pointer none) from .inl rfl))
    have HB1 := Lib.hid (btr HB0.out hb1 (Nat.le_refl _))
    have hbx := fun W (hb : Below W1.heap.size W1 W) (i : Nat) => ((hb.mono hb1.size).cell (p := ⟨w.heap.size, i, none⟩) HZ0.out).trans (hb1.cell (p := ⟨w.heap.size, i, none⟩) HZ0.out)
    have HC := Lib.hid (fun W (hb : Below W1.heap.size W1 W) => And.intro ((hbx W hb 0).trans c0) (And.intro ((hbx W hb 1).trans c1) (And.intro ((hbx W hb 2).trans c2) ((hbx W hb 3).trans c3))))
    obtain ⟨d0, d1, d2, d3⟩ := HC.out W1 (Below.refl _ _)
    have e0 : eqM ([] : List Mk) [] = true := eqM_self _
    have HE0 := Lib.hid e0
    have hlow : w.heap.size ≤ W1.heap.size := HB1.out.size
    clear hno hbx hb1 c0 c1 c2 c3 e0 hz0
    go_enter Try.func4, Try.ntmps4
    go_wp2_with fail
    refine (HG.out _).mono ?_
    rintro e _ ⟨rfl, rfl⟩
    go_wp2_with fail
    refine (Next_no sa (HNI.out _)).mono ?_
    rintro e w2 ⟨rfl, hb2⟩
    have d1' := (HC.out _ hb2).2.1
    have HB2 := Lib.hid hb2
    unfold three
    clear hb2 d0 d1 d2 d3
    go_wp2_with fail
    refine (Next_no sa (HNO.out _ HB2.out)).mono ?_
    rintro e w3 ⟨rfl, hb3⟩
    have HB3 := Lib.hid (btr HB2.out hb3 (Nat.le_refl _))
    unfold three
    clear hb3 d1'
    go_wp2_with fail
    refine (Clone_no (HNI.out _)).mono ?_
    rintro e _ ⟨rfl, rfl⟩
    go_wp2_with fail
    refine (Clone_no (HNO.out _ HB3.out)).mono ?_
    rintro e _ ⟨rfl, rfl⟩
    go_wp2_with fail
    refine (HNEW.out _).mono ?_
    rintro e w4 ⟨B, rfl, hb4, ht4⟩
    have HB4 := Lib.hid (btr HB3.out hb4 (Nat.le_refl _))
    have HT4 := Lib.hid ht4
    have HL3 := Lib.hid (Nat.le_trans hlow (Nat.le_trans HB3.out.size hb4.size))
    have HL34 := Lib.hid hb4.size
    clear hb4 ht4
    go_wp2_with fail
    refine (HRNEW.out _).mono ?_
    rintro e w5 ⟨R, rfl, hb5, hr5⟩
    have HB5 := Lib.hid (btr HB4.out hb5 (Nat.le_refl _))
    have HT5 := Lib.hid (HT4.out.below hb5)
    have HR5 := Lib.hid hr5
    have HL45 := Lib.hid hb5.size
    clear hb5 hr5
    go_wp2_with fail
    go_loopw [16] (fun i wr => ∃ k : Nat, k ≤ L ∧ i = .int .i64 k ∧ Pl w5 (Nw w3 w4) (Nw w4 w5) B R (runM noM (l.take k)) wr) (fun i _ => L - (intOf i).toNat)
    case atStart => exact ⟨0, by omega, rfl, Pl.same HT5.out HR5.out (Below.refl _ _)⟩
    case round =>
      obtain ⟨k, hk, rfl, hP⟩ := hrel
      have HP := Lib.hid hP
      have hb1r : Below W1.heap.size W1 wr := HB5.out.trans (hP.k.below HB5.out.size (fun k h => by have := HB3.out.size; have := HL34.out; rcases h with h | h <;> (have := h.1; omega)))
      have HB1r := Lib.hid hb1r
      have hbl : Below w.heap.size w wr := btr HB1.out hb1r (Nat.le_refl _)
      have HBL := Lib.hid hbl
      by_cases hlt : k < L
      · obtain ⟨x, hx⟩ : ∃ x, l[k]? = some x := ⟨_, List.getElem?_eq_getElem (by have := HL.out; omega)⟩
        have hAt := (HA.out.below hbl) k x hx
        obtain ⟨hr, b, o, rfl, hB, g1, g2, g3, g4⟩ := hAt
        have HD := Lib.hid (play_at x hP.t hP.r (Pl.dis (fun k a b => by have := a.1; have := a.2; have := b.1; have := b.2; omega) (fun k a => a.2) hP) hr)
        have hX := runM_take (M := noM) hx
        generalize hMk : runM noM (l.take k) = Mk at hX HP HD ⊢
        have HX := Lib.hid hX
        clear hP hx hX hMk hbl hr hB hb1r
        go_wp2_with fail
        refine HD.out.mono ?_
        rintro e w6 ⟨rfl, hP2⟩
        have HP2 := Lib.hid (HP.out.trans hP2)
        clear hP2
        go_wp2_with fail
        go_roundw
        case rel => exact ⟨k + 1, by omega, by go_num, by rw [HX.out]; exact HP2.out⟩
        case measure => simp [intOf]; omega
      · have HMA := Lib.hid (rmarks_any hP.r)
        have HTM := Lib.hid (fun W (hb : Below wr.heap.size wr W) => Marks_any (hP.t.below hb))
        have hlen := marks_len (runM noM (l.take k))
        generalize marksM (runM noM (l.take k)) = K at HMA HTM hlen
        obtain ⟨n, hn⟩ : ∃ n, K.length = n := ⟨_, rfl⟩
        have HN := Lib.hid hn
        have HEN := Lib.hid (eqM_nil n hn)
        have HLEN := Lib.hid hlen
        clear hP hbl hb1r hn hlen
        go_wp2_with fail
        refine HMA.out.mono ?_
        rintro e w6 ⟨A6, c6, rfl, hm6, hb6⟩
        have HB6 := Lib.hid (btr HB1r.out hb6 (Nat.le_refl _))
        have HBr := Lib.hid hb6
        obtain ⟨d0, d1, d2, d3⟩ := HC.out _ HB6.out
        clear hm6 hb6
        rw [HN.out]
        have HBr6 := Lib.hid HBr.out
        go_wp2_with fail
        refine (play_no sk sa sb sc (HNI.out _)).mono ?_
        rintro e w7 ⟨rfl, hb7⟩
        have HB7 := Lib.hid (btr HB6.out hb7 (Nat.le_refl _))
        have HBr7 := Lib.hid (btr HBr6.out hb7 (Nat.le_refl _))
        obtain ⟨d0', d1', d2', d3'⟩ := HC.out _ HB7.out
        clear hb7 d0 d1 d2 d3
        go_wp2_with fail
        refine (play_no sk sa sb sc (HNO.out _ HB7.out)).mono ?_
        rintro e w8 ⟨rfl, hb8⟩
        have HB8 := Lib.hid (btr HB7.out hb8 (Nat.le_refl _))
        have HBr8 := Lib.hid (btr HBr7.out hb8 (Nat.le_refl _))
        clear hb8 d0' d1' d2' d3'
        go_wp2_with fail
        refine (law_no (HNI.out _)).mono ?_
        rintro e w9 ⟨rfl, hb9⟩
        have HB9 := Lib.hid (btr HB8.out hb9 (Nat.le_refl _))
        have HBr9 := Lib.hid (btr HBr8.out hb9 (Nat.le_refl _))
        clear hb9
        go_wp2_with fail
        refine (law_no (HNO.out _ HB9.out)).mono ?_
        rintro e w10 ⟨rfl, hb10⟩
        have HB10 := Lib.hid (btr HB9.out hb10 (Nat.le_refl _))
        have HBr10 := Lib.hid (btr HBr9.out hb10 (Nat.le_refl _))
        clear hb10
        go_wp2_with fail
        have hS := same_gen (by simp) (Marks_no (HNI.out w10)) (fun W hb => Marks_no (HNO.out W (btr HB10.out hb (Nat.le_refl _))))
        rw [HE0.out] at hS
        have HS := Lib.hid hS
        clear hS
        refine (HS.out).mono ?_
        rintro e w11 ⟨rfl, hb11⟩
        have HB11 := Lib.hid (btr HB10.out hb11 (Nat.le_refl _))
        have HBr11 := Lib.hid (btr HBr10.out hb11 (Nat.le_refl _))
        clear hb11
        go_wp2_with fail
        have hS := same_gen (by simp) (Marks_no (HNI.out w11)) (fun W hb => HTM.out W (btr HBr11.out hb (Nat.le_refl _)))
        rw [HEN.out] at hS
        have HS2 := Lib.hid hS
        clear hS
        refine (HS2.out).mono ?_
        rintro e w12 ⟨rfl, hb12⟩
        have HB12 := Lib.hid (btr HB11.out hb12 (Nat.le_refl _))
        have HBr12 := Lib.hid (btr HBr11.out hb12 (Nat.le_refl _))
        clear hb12
        go_wp2_with fail
        have hS := same_gen (by have := HLEN.out; omega) (HTM.out w12 HBr12.out) (fun W hb => Marks_no (HNO.out W (btr HB12.out hb (Nat.le_refl _))))
        rw [eqM_comm, HEN.out] at hS
        have HS3 := Lib.hid hS
        clear hS
        refine (HS3.out).mono ?_
        rintro e w13 ⟨rfl, hb13⟩
        have HB13 := Lib.hid (btr HB12.out hb13 (Nat.le_refl _))
        have HBr13 := Lib.hid (btr HBr12.out hb13 (Nat.le_refl _))
        clear hb13
        go_wp2_with fail
        refine (HAL.out _).mono ?_
        rintro e w14 ⟨rfl, hb14⟩
        go_wp2_with fail
        go_ret
        exact ⟨rfl, btr HB1.out (btr HB13.out hb14 (Nat.le_refl _)) (Nat.le_refl _)⟩

end Go.Proofs.Ytdjfeibcbmelcaa
