/- The statement about calls: what its call returns. -/
import Derived.Test.YtgklkjccfnbcdaaXa
namespace Go.Proofs.Ytgklkjccfnbcdaa
open Go.RowKit

/-- A span and the document's, apart from one another, made since w0. -/
def Pr (w0 w : World) (p q : Option Addr) (om : Option Mo) : Prop := ∃ O1 O2 : Nat → Prop, Bo w O1 O2 (.pointer p) (.pointer q) om ∧ (∀ k, O1 k → w0.heap.size ≤ k) ∧ (∀ k, O2 k → w0.heap.size ≤ k) ∧ Below w0.heap.size w0 w
theorem Pr.bel {w0 w : World} {p q : Option Addr} {om : Option Mo} (h : Pr w0 w p q om) : Below w0.heap.size w0 w := h.choose_spec.choose_spec.2.2.2
theorem Pr.made {w0 w w1 w2 : World} {p q : Option Addr} {om : Option Mo} (hb : Below w0.heap.size w0 w) (h1 : Ob false w1 (Nw w w1) (.pointer p) om) (b1 : Below w.heap.size w w1) (h2 : Ob true w2 (Nw w1 w2) (.pointer q) om) (b2 : Below w1.heap.size w1 w2) : Pr w0 w2 p q om := by
  have s0 := hb.size
  have s1 := b1.size
  exact ⟨_, _, ⟨h1.below b2, h2, fun k a b => by have := a.2; have := b.1; omega⟩, fun k a => by have := a.1; omega, fun k a => by have := a.1; omega, btr (btr hb b1 (Nat.le_refl _)) b2 (Nat.le_refl _)⟩
theorem Pr.play {w0 w : World} {p q : Option Addr} {om : Option Mo} (x : Ac) (h : Pr w0 w p q om) (hr : AcR x) :
    Calls Try.prog 16 #[.pointer p, .pointer q, .agg #[.int .i64 x.k, .int .i64 x.a]] w fun e w' => e = .returned (.bool true) ∧ Pr w0 w' p q (doD om x) := by
  obtain ⟨O1, O2, h1, h4, h5, h6⟩ := h
  refine (play_at x h1 hr).mono fun e w' hp => ⟨hp.1, ?_⟩
  exact ⟨O1, O2, hp.2.1, h4, h5, h6.trans (hp.2.2.below h6.size (fun k a => a.elim (h4 k) (h5 k)))⟩
theorem Pr.below {w0 w w' : World} {p q : Option Addr} {om : Option Mo} (h : Pr w0 w p q om) (hb : Below w.heap.size w w') : Pr w0 w' p q om := by
  obtain ⟨O1, O2, h1, h4, h5, h6⟩ := h
  exact ⟨O1, O2, h1.below hb, h4, h5, btr h6 hb (Nat.le_refl _)⟩
theorem Pr.same {w0 w : World} {p q : Option Addr} {om : Option Mo} (h : Pr w0 w p q om) : Calls Try.prog 17 #[.pointer p, .pointer q] w (Yes w) := by
  obtain ⟨O1, O2, h1, _⟩ := h
  exact Same_any h1.s h1.t
theorem Pr.clone {w0 w : World} {p q : Option Addr} {om : Option Mo} (h : Pr w0 w p q om) :
    Calls Try.prog 14 #[.pointer p] w fun e w' => ∃ p', e = .returned (.pointer p') ∧ Calls Try.prog 15 #[.pointer q] w' fun e w'' => ∃ q', e = .returned (.pointer q') ∧ Pr w0 w'' p' q' om := by
  obtain ⟨O1, O2, h1, h4, h5, h6⟩ := h
  refine (Clone_any h1.s).mono fun e w' hp => ?_
  obtain ⟨p', e1, t1, _, _, b1⟩ := hp
  refine ⟨p', e1, (rClone_any (h1.t.below b1)).mono fun e w'' hq => ?_⟩
  obtain ⟨q', e2, t2, _, _, b2⟩ := hq
  exact ⟨q', e2, Pr.made h6 t1 b1 t2 b2⟩

set_option maxRecDepth 100000 in
set_option maxHeartbeats 4000000 in
theorem plays_walk (st s p b : Int) (A : Option Addr) (c : Nat) (l : List Ac) (w : World) (hl : l.length ≤ 9223372036854775807) (hA : ActsAt w w.heap.size A l) :
    Calls Try.prog 3 #[.int .i64 st, .agg #[.int .i64 s, .int .i64 p, .int .i64 b], .slice A l.length c] w (Yes w) := by
  have HAL := Lib.hid alive_any
  obtain ⟨W0, hW, hb0, hz, x0, x1, x2⟩ := new3 w (.int .i64 s) (.int .i64 p) (.int .i64 b) 23
  have HB0 := Lib.hid hb0
  have HX := Lib.hid (fun (w1 : World) (hb1 : Below W0.heap.size W0 w1) => And.intro ((hb1.cell (p := ⟨w.heap.size, 0, none⟩) (Nat.lt_of_succ_le hz)).trans x0) (And.intro ((hb1.cell (p := ⟨w.heap.size, 1, none⟩) (Nat.lt_of_succ_le hz)).trans x1) ((hb1.cell (p := ⟨w.heap.size, 2, none⟩) (Nat.lt_of_succ_le hz)).trans x2)))
  have HN1 := Lib.hid (New_any st s p b)
  have HN2 := Lib.hid (rNew_any st s p b)
  obtain ⟨L, hL⟩ : ∃ L, L = l.length := ⟨_, rfl⟩
  have HL := Lib.hid hL
  rw [← hL] at hl ⊢
  have HG := Lib.hid (fun w => great_any A L c w hl)
  have HA := Lib.hid hA
  generalize newO st ⟨s, p, b⟩ = om at *
  generalize newE st ⟨s, p, b⟩ = E at *
  clear hA hL hb0 hz
  by_cases h60 : 60 < L
  · rw [decide_eq_true h60] at HG
    clear h60
    go_enter Try.func3, Try.ntmps3
    go_wp2_with (first | (go_at_call 10; refine (HG.out _).mono ?_; rintro e _ ⟨rfl, rfl⟩) | (go_at_call 11; refine (HAL.out _).mono ?_; rintro e w2 ⟨rfl, hb⟩; have B2 := Lib.hid (btr HB0.out hb (Nat.le_refl _)); clear hb))
    go_ret
    exact ⟨rfl, B2.out⟩
  · rw [decide_eq_false h60] at HG
    clear h60
    have hc : om = none ∨ ∃ m, om = some m := by cases om <;> simp
    rcases hc with rfl | ⟨m, rfl⟩
    all_goals
      go_enter Try.func3, Try.ntmps3
      go_wp2_with (first
        | (go_at_call 10; refine (HG.out _).mono ?_; rintro e _ ⟨rfl, rfl⟩)
        | (go_at_call 12; refine (HN1.out _).mono ?_; rintro e w2 ⟨v, rfl, ho, hv, hb⟩; have HO := Lib.hid ho; have HB2 := Lib.hid hb; obtain ⟨y0, y1, y2⟩ := HX.out _ hb; (first | (obtain rfl := hv rfl) | (obtain ⟨B, rfl⟩ := ob_ptr ho)); clear ho hv hb x0 x1 x2)
        | (go_at_call 13; refine (HN2.out _).mono ?_; rintro e w3 ⟨v, rfl, ho, hv, hb⟩; (first | (obtain rfl := hv rfl) | (obtain ⟨R, rfl⟩ := ob_ptr ho)); have HP := Lib.hid (Pr.made HB0.out HO.out HB2.out ho hb); clear ho hv hb y0 y1 y2))
    all_goals
      go_loopw [7, 9, 11] (fun v r i wr => ∃ (k : Nat) (p q : Option Addr) (om : Option Mo), k ≤ L ∧ i = .int .i64 k ∧ v = .pointer p ∧ r = .pointer q ∧ Pr w wr p q om) (fun _ _ i _ => L - (intOf i).toNat)
      case atStart => exact ⟨0, _, _, _, by omega, rfl, rfl, rfl, HP.out⟩
      case round =>
        clear HP HO HB2
        obtain ⟨k, p, q, om, hk, rfl, rfl, rfl, hP⟩ := hrel
        have HP := Lib.hid hP
        have hbl := hP.bel
        by_cases hlt : k < L
        · obtain ⟨x, hx⟩ : ∃ x, l[k]? = some x := ⟨_, List.getElem?_eq_getElem (by have := HL.out; omega)⟩
          obtain ⟨hr, b, o, rfl, hB, g1, g2⟩ := (HA.out.below hbl) k x hx
          have HD := Lib.hid (HP.out.play x hr)
          have HC := Lib.hid HP.out.clone
          have HXK := Lib.hid hx
          have HRX := Lib.hid hr
          clear hP hx hbl hB hr
          by_cases hk2 : x.k = 4
          · rw [hk2] at g1
            clear hk2
            go_wp2_with fail
            refine HC.out.mono ?_
            rintro e w5 ⟨C, rfl, hC⟩
            have HC2 := Lib.hid hC
            clear hC g1 g2
            go_wp2_with fail
            refine HC2.out.mono ?_
            rintro e w6 ⟨C', rfl, hP6⟩
            obtain ⟨_, b', o', hbo, _, y1, y2⟩ := (HA.out.below hP6.bel) k x HXK.out
            cases hbo
            have HD6 := Lib.hid (hP6.play x HRX.out)
            clear hP6
            go_wp2_with fail
            refine HD6.out.mono ?_
            rintro e w7 ⟨rfl, hP7⟩
            have HP7 := Lib.hid hP7
            clear hP7
            go_wp2_with fail
            refine HP7.out.same.mono ?_
            rintro e w8 ⟨rfl, hb8⟩
            have HP8 := Lib.hid (HP7.out.below hb8)
            clear hb8
            go_wp2_with fail
            go_roundw
            case rel => exact ⟨k + 1, _, _, _, by omega, by go_num, rfl, rfl, HP8.out⟩
            case measure => simp [intOf]; omega
          · have q2 : (x.k == 4) = false := by simpa using hk2
            clear hk2
            go_wp2_with fail
            refine HD.out.mono ?_
            rintro e w5 ⟨rfl, hP5⟩
            have HP5 := Lib.hid hP5
            clear hP5
            go_wp2_with fail
            refine HP5.out.same.mono ?_
            rintro e w8 ⟨rfl, hb8⟩
            have HP8 := Lib.hid (HP5.out.below hb8)
            clear hb8
            go_wp2_with fail
            go_roundw
            case rel => exact ⟨k + 1, _, _, _, by omega, by go_num, rfl, rfl, HP8.out⟩
            case measure => simp [intOf]; omega
        · clear hP hbl
          go_wp2_with fail
          refine HP.out.same.mono ?_
          rintro e w5 ⟨rfl, hb5⟩
          have HP5 := Lib.hid (HP.out.below hb5)
          clear hb5
          go_wp2_with fail
          refine (HAL.out _).mono ?_
          rintro e w8 ⟨rfl, hb8⟩
          have HP8 := Lib.hid (HP5.out.below hb8)
          clear hb8
          go_wp2_with fail
          go_ret
          exact ⟨rfl, HP8.out.bel⟩

end Go.Proofs.Ytgklkjccfnbcdaa
