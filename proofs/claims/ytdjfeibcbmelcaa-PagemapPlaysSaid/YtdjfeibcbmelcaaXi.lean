/- The statement about calls: what its call returns. -/
import Derived.Test.YtdjfeibcbmelcaaXh
import Derived.Test.YtdjfeibcbmelcaaRe
import Derived.Test.YtdjfeibcbmelcaaXc
namespace Go.Proofs.Ytdjfeibcbmelcaa
open Go.RowKit

/-- A map and the other one, in the same state, apart from one another. -/
def Pr (w0 w : World) (B R : Nat) (M : Nat → Int) : Prop := ∃ O1 O2 : Nat → Prop, Tr w O1 B M ∧ Rf w O2 R M ∧ (∀ k, O1 k → O2 k → False) ∧ (∀ k, O1 k → w0.heap.size ≤ k) ∧ (∀ k, O2 k → w0.heap.size ≤ k) ∧ Below w0.heap.size w0 w
theorem Pr.bel {w0 w : World} {B R : Nat} {M : Nat → Int} (h : Pr w0 w B R M) : Below w0.heap.size w0 w := h.choose_spec.choose_spec.2.2.2.2.2
theorem Pr.made {w0 w w1 w2 : World} {B R : Nat} {M : Nat → Int} (hb : Below w0.heap.size w0 w) (h1 : Tr w1 (Nw w w1) B M) (b1 : Below w.heap.size w w1) (h2 : Rf w2 (Nw w1 w2) R M) (b2 : Below w1.heap.size w1 w2) : Pr w0 w2 B R M := by
  have s0 := hb.size
  have s1 := b1.size
  exact ⟨_, _, h1.below b2, h2, fun k a b => by have := a.2; have := b.1; omega, fun k a => by have := a.1; omega, fun k a => by have := a.1; omega, btr (btr hb b1 (Nat.le_refl _)) b2 (Nat.le_refl _)⟩
theorem Pr.play {w0 w : World} {B R : Nat} {M : Nat → Int} (x : Ac) (h : Pr w0 w B R M) (hr : AcR x) :
    Calls Try.prog 18 #[.pointer (some ⟨B, 0, none⟩), .pointer (some ⟨R, 0, none⟩), .agg #[.int .i64 x.k, .int .i64 x.a, .int .i64 x.b, .int .i64 x.c]] w fun e w' => e = .returned (.bool true) ∧ Pr w0 w' B R (doM M x) := by
  obtain ⟨O1, O2, h1, h2, h3, h4, h5, h6⟩ := h
  refine (play_at x h1 h2 h3 hr).mono fun e w' hp => ⟨hp.1, ?_⟩
  have hs := h6.size
  refine ⟨_, _, hp.2.t, hp.2.r, Pl.dis h3 h2.lt hp.2, fun k a => ?_, h5, h6.trans (hp.2.k.below hs (fun k a => a.elim (h4 k) (h5 k)))⟩
  rcases a with a | a
  · exact h4 k a
  · have := a.1; omega
theorem Pr.clone {w0 w : World} {B R : Nat} {M : Nat → Int} (h : Pr w0 w B R M) :
    Calls Try.prog 16 #[.pointer (some ⟨B, 0, none⟩)] w fun e w' => ∃ C, e = .returned (.pointer (some ⟨C, 0, none⟩)) ∧ Calls Try.prog 17 #[.pointer (some ⟨R, 0, none⟩)] w' fun e w'' => ∃ C', e = .returned (.pointer (some ⟨C', 0, none⟩)) ∧ Pr w0 w'' C C' M := by
  obtain ⟨O1, O2, h1, h2, h3, h4, h5, h6⟩ := h
  refine (Clone_any h1).mono fun e w' hp => ?_
  obtain ⟨C, e1, b1, t1⟩ := hp
  refine ⟨C, e1, (rclone_any (h2.below b1)).mono fun e w'' hq => ?_⟩
  obtain ⟨C', e2, b2, t2⟩ := hq
  exact ⟨C', e2, Pr.made h6 t1 b1 t2 b2⟩
theorem law_any {w : World} {O1 O2 : Nat → Prop} {B R : Nat} {M : Nat → Int} (h1 : Tr w O1 B M) (h2 : Rf w O2 R M) : Calls Try.prog 21 #[.pointer (some ⟨B, 0, none⟩), .pointer (some ⟨R, 0, none⟩)] w (Yes w) :=
  law_gen (a := midsN M) (b := leavesN M) (l := marksM M) (g := getV M) (fun W hb => Nodes_any (h1.below hb)) (fun W hb => (rnodes_any (h2.below hb)).mono fun _ _ hp => ⟨hp.1, by rw [← hp.2]; exact Below.refl _ _⟩)
    (fun W hb => Marks_any (h1.below hb)) (fun W hb => rmarks_any (h2.below hb)) (Nat.le_trans (marks_len M) (by omega)) (fun W p hb hp => Get_any p (h1.below hb) hp) (fun W p hb _ => rget_any p (h2.below hb))

set_option maxRecDepth 100000 in
set_option maxHeartbeats 4000000 in
theorem plays_walk (A : Option Addr) (c : Nat) (l : List Ac) (p : Int) (w : World) (hl : l.length ≤ 9223372036854775807) (hA : ActsAt w w.heap.size A l) (hp : InR p) :
    Calls Try.prog 3 #[.slice A l.length c, .int .i64 p] w (Yes w) := by
  have HAL := Lib.hid alive_any
  have HNEW := Lib.hid New_any
  have HRNEW := Lib.hid rnew_any
  obtain ⟨L, hL⟩ : ∃ L, L = l.length := ⟨_, rfl⟩
  have HL := Lib.hid hL
  rw [← hL] at hl ⊢
  have HG := Lib.hid (fun w => great_any A L c w hl)
  have HA := Lib.hid hA
  have HPI := Lib.hid hp
  clear hA hL hp
  by_cases h60 : 60 < L
  · rw [decide_eq_true h60] at HG
    go_enter Try.func3, Try.ntmps3
    go_wp2_with fail
    refine (HG.out _).mono ?_
    rintro e _ ⟨rfl, rfl⟩
    go_wp2_with fail
    refine (HAL.out _).mono ?_
    rintro e w1 ⟨rfl, hb1⟩
    go_wp2_with fail
    go_ret
    exact ⟨rfl, hb1⟩
  · rw [decide_eq_false h60] at HG
    clear h60
    go_enter Try.func3, Try.ntmps3
    go_wp2_with fail
    refine (HG.out _).mono ?_
    rintro e _ ⟨rfl, rfl⟩
    go_wp2_with fail
    refine (HNEW.out _).mono ?_
    rintro e w1 ⟨B, rfl, hb1, ht1⟩
    have HB1 := Lib.hid hb1
    have HT1 := Lib.hid ht1
    clear hb1 ht1
    go_wp2_with fail
    refine (HRNEW.out _).mono ?_
    rintro e w2 ⟨R, rfl, hb2, hr2⟩
    have HPR := Lib.hid (Pr.made (Below.refl _ _) HT1.out HB1.out hr2 hb2)
    clear hb2 hr2
    go_wp2_with fail
    go_loopw [5, 6, 7] (fun b r i wr => ∃ (k B R : Nat), k ≤ L ∧ i = .int .i64 k ∧ b = .pointer (some ⟨B, 0, none⟩) ∧ r = .pointer (some ⟨R, 0, none⟩) ∧ Pr w wr B R (runM noM (l.take k))) (fun _ _ i _ => L - (intOf i).toNat)
    case atStart => exact ⟨0, B, R, by omega, rfl, rfl, rfl, HPR.out⟩
    case round =>
      clear HPR HT1 HB1
      obtain ⟨k, B, R, hk, rfl, rfl, rfl, hP⟩ := hrel
      have HP := Lib.hid hP
      have hbl := hP.bel
      have HBL := Lib.hid hbl
      by_cases hlt : k < L
      · obtain ⟨x, hx⟩ : ∃ x, l[k]? = some x := ⟨_, List.getElem?_eq_getElem (by have := HL.out; omega)⟩
        have hAt := (HA.out.below hbl) k x hx
        obtain ⟨hr, b, o, rfl, hB, g1, g2, g3, g4⟩ := hAt
        have hX := runM_take (M := noM) hx
        generalize hMk : runM noM (l.take k) = Mk at hX HP ⊢
        have HX := Lib.hid hX
        have HD := Lib.hid (HP.out.play x hr)
        have HC := Lib.hid HP.out.clone
        have HXK := Lib.hid hx
        have HRX := Lib.hid hr
        clear hP hx hX hMk hbl hB hr
        by_cases hk2 : x.k = 2
        · rw [hk2] at g1
          clear hk2 g2 g3 g4
          go_wp2_with fail
          refine HC.out.mono ?_
          rintro e w5 ⟨C, rfl, hC⟩
          have HC2 := Lib.hid hC
          clear hC
          go_wp2_with fail
          refine HC2.out.mono ?_
          rintro e w6 ⟨C', rfl, hP6⟩
          obtain ⟨_, b', o', hbo, _, y1, y2, y3, y4⟩ := (HA.out.below hP6.bel) k x HXK.out
          cases hbo
          have HD6 := Lib.hid (hP6.play x HRX.out)
          clear hP6 g1
          go_wp2_with fail
          refine HD6.out.mono ?_
          rintro e w7 ⟨rfl, hP7⟩
          have HP7 := Lib.hid hP7
          clear hP7
          go_wp2_with fail
          go_roundw
          case rel => exact ⟨k + 1, C, C', by omega, by go_num, rfl, rfl, by rw [HX.out]; exact HP7.out⟩
          case measure => simp [intOf]; omega
        · have q2 : (x.k == 2) = false := by simpa using hk2
          clear hk2
          go_wp2_with fail
          refine HD.out.mono ?_
          rintro e w5 ⟨rfl, hP5⟩
          have HP5 := Lib.hid hP5
          clear hP5
          go_wp2_with fail
          go_roundw
          case rel => exact ⟨k + 1, B, R, by omega, by go_num, rfl, rfl, by rw [HX.out]; exact HP5.out⟩
          case measure => simp [intOf]; omega
      · generalize runM noM (l.take k) = M at HP
        obtain ⟨O1, O2, h1, h2, _⟩ := HP.out
        have HN := Lib.hid (Next_any p h1 HPI.out)
        have HRN := Lib.hid (fun W (hb : Below wr.heap.size wr W) => rnext_any p (h2.below hb) HPI.out)
        have HLW := Lib.hid (fun W (hb : Below wr.heap.size wr W) => law_any (h1.below hb) (h2.below hb))
        have HGT := Lib.hid (fun W (hb : Below wr.heap.size wr W) => Get_any p (h1.below hb) HPI.out)
        have HRG := Lib.hid (fun W (hb : Below wr.heap.size wr W) => rget_any p (h2.below hb))
        unfold three at HN HRN
        generalize nextV M p.toNat = nv at HN HRN
        obtain ⟨n1, n2, n3⟩ := nv
        generalize getV M p = gv at HGT HRG
        clear hP hbl h1 h2
        go_wp2_with fail
        refine HN.out.mono ?_
        rintro e w5 ⟨rfl, hb5⟩
        have HB5 := Lib.hid hb5
        clear hb5
        go_wp2_with fail
        refine (HRN.out _ HB5.out).mono ?_
        rintro e w6 ⟨rfl, hb6⟩
        have HB6 := Lib.hid (btr HB5.out hb6 (Nat.le_refl _))
        clear hb6
        go_wp2_with fail
        refine (HLW.out _ HB6.out).mono ?_
        rintro e w7 ⟨rfl, hb7⟩
        have HB7 := Lib.hid (btr HB6.out hb7 (Nat.le_refl _))
        clear hb7
        go_wp2_with fail
        refine (HGT.out _ HB7.out).mono ?_
        rintro e _ ⟨rfl, rfl⟩
        go_wp2_with fail
        refine (HRG.out _ HB7.out).mono ?_
        rintro e _ ⟨rfl, rfl⟩
        go_wp2_with fail
        refine (HAL.out _).mono ?_
        rintro e w8 ⟨rfl, hb8⟩
        go_wp2_with fail
        go_ret
        exact ⟨rfl, btr (btr HBL.out HB7.out (Nat.le_refl _)) hb8 (Nat.le_refl _)⟩

end Go.Proofs.Ytdjfeibcbmelcaa
