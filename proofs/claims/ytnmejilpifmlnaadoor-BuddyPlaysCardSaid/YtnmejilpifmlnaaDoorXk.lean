/- The statement about calls: what its call returns. -/
import Derived.Test.YtnmejilpifmlnaaDoorHa
import Derived.Test.YtnmejilpifmlnaaDoorHb
import Derived.Test.YtnmejilpifmlnaaDoorFd
namespace Go.Proofs.YtnmejilpifmlnaaDoor
open Go.RowKit

theorem rClone_nil (w : World) : Calls Tryd.prog 17 #[.pointer none] w fun e w' => e = .returned (.pointer none) ∧ w = w' := by
  have HM := Lib.hid (rmade_nil w)
  go_enter Tryd.func17, Tryd.ntmps17
  go_wp2_with (go_at_call 35; refine HM.out.mono ?_; rintro e _ ⟨rfl, rfl⟩)
  go_ret
  exact ⟨rfl, rfl⟩
theorem rIsFree_nil (w : World) (p : Int) : Calls Tryd.prog 21 #[.pointer none, .int .i64 p] w fun e w' => e = .returned (.bool false) ∧ w = w' := by
  have HM := Lib.hid (rmade_nil w)
  go_enter Tryd.func21, Tryd.ntmps21
  go_wp2_with (go_at_call 35; refine HM.out.mono ?_; rintro e _ ⟨rfl, rfl⟩)
  go_ret
  exact ⟨rfl, rfl⟩
theorem noH_nil (w : World) : NoH w (.pointer none) := .inl rfl

/-- A heap and the document's, apart from one another, made since w0; or neither. -/
def PrH (w0 w : World) (p q : Option Addr) (c : Bool) : Prop :=
  Below w0.heap.size w0 w ∧ ((c = false ∧ p = none ∧ q = none) ∨
    (c = true ∧ ∃ (B C : Nat) (O1 O2 : Nat → Prop) (m : Mo), p = some ⟨B, 0, none⟩ ∧ q = some ⟨C, 0, none⟩ ∧ BoH w O1 O2 B C m ∧ (∀ k, O1 k → w0.heap.size ≤ k) ∧ (∀ k, O2 k → w0.heap.size ≤ k)))
theorem PrH.bel {w0 w : World} {p q : Option Addr} {c : Bool} (h : PrH w0 w p q c) : Below w0.heap.size w0 w := h.1
theorem PrH.nil {w0 w : World} (h : Below w0.heap.size w0 w) : PrH w0 w none none false := ⟨h, .inl ⟨rfl, rfl, rfl⟩⟩
theorem PrH.made {w0 w w1 w2 : World} {B C : Nat} {m : Mo} (h0 : 1 < w0.heap.size) (hb : Below w0.heap.size w0 w) (h1 : Hp w1 (Nw w w1) B m) (b1 : Below w.heap.size w w1) (h2 : Rf w2 (Nw w1 w2) C m) (b2 : Below w1.heap.size w1 w2) :
    PrH w0 w2 (some ⟨B, 0, none⟩) (some ⟨C, 0, none⟩) true := by
  have s0 := hb.size
  have s1 := b1.size
  exact ⟨btr (btr hb b1 (Nat.le_refl _)) b2 (Nat.le_refl _), .inr ⟨rfl, B, C, _, _, m, rfl, rfl, ⟨h1.below b2, h2, fun k a b => by have := a.2; have := b.1; omega, fun a => by have := a.1; omega⟩, fun k a => by have := a.1; omega, fun k a => by have := a.1; omega⟩⟩
theorem PrH.below {w0 w w' : World} {p q : Option Addr} {c : Bool} (h : PrH w0 w p q c) (hb : Below w.heap.size w w') : PrH w0 w' p q c := by
  obtain ⟨h0, h1 | ⟨h1, B, C, O1, O2, m, h2, h3, h4, h5, h6⟩⟩ := h
  · exact ⟨btr h0 hb (Nat.le_refl _), .inl h1⟩
  · exact ⟨btr h0 hb (Nat.le_refl _), .inr ⟨h1, B, C, O1, O2, m, h2, h3, h4.below hb, h5, h6⟩⟩
theorem PrH.play {w0 w : World} {p q : Option Addr} {c : Bool} (k a b : Int) (h : PrH w0 w p q c) (hr : InR a) :
    Calls Tryd.prog 18 #[.pointer p, .pointer q, .agg #[.int .i64 k, .int .i64 a, .int .i64 b]] w fun e w' => e = .returned (.bool true) ∧ PrH w0 w' p q c := by
  obtain ⟨h0, ⟨h1, rfl, rfl⟩ | ⟨h1, B, C, O1, O2, m, rfl, rfl, h4, h5, h6⟩⟩ := h
  · refine (play_no k a b (noH_nil w)).mono fun e w' hp => ⟨hp.1, btr h0 hp.2 (Nat.le_refl _), .inl ⟨h1, rfl, rfl⟩⟩
  · refine (play_any k a b h4 hr).mono fun e w' hp => ⟨hp.1, ?_⟩
    obtain ⟨g1, g2⟩ := hp.2
    exact ⟨h0.trans (g2.below h0.size (fun k a => a.elim (h5 k) (h6 k))), .inr ⟨h1, B, C, O1, O2, _, rfl, rfl, g1, h5, h6⟩⟩
theorem PrH.same {w0 w : World} {p q : Option Addr} {c : Bool} (h : PrH w0 w p q c) : Calls Tryd.prog 19 #[.pointer p, .pointer q] w (Yes w) := by
  obtain ⟨h0, ⟨h1, rfl, rfl⟩ | ⟨h1, B, C, O1, O2, m, rfl, rfl, h4, h5, h6⟩⟩ := h
  · exact Same_no (noH_nil w)
  · exact Same_any h4.s h4.t
theorem PrH.free {w0 w : World} {p q : Option Addr} {c : Bool} (t : Int) (ht : InR t) (h : PrH w0 w p q c) : ∃ b : Bool, (Calls Tryd.prog 20 #[.pointer p, .int .i64 t] w fun e w' => e = .returned (.bool b) ∧ Below w.heap.size w w') ∧ ∀ w1, Below w.heap.size w w1 → (Calls Tryd.prog 21 #[.pointer q, .int .i64 t] w1 fun e w' => e = .returned (.bool b) ∧ w1 = w') := by
  obtain ⟨h0, ⟨h1, rfl, rfl⟩ | ⟨h1, B, C, O1, O2, m, rfl, rfl, h4, h5, h6⟩⟩ := h
  · exact ⟨false, (IsFree_no t (noH_nil w)).mono fun e w' hp => ⟨hp.1, hp.2 ▸ Below.refl _ _⟩, fun w1 _ => rIsFree_nil w1 t⟩
  · exact ⟨frV m t, IsFree_any t h4.s ht, fun w1 hb => rIsFree_any t (h4.t.below hb)⟩
theorem PrH.clone {w0 w : World} {p q : Option Addr} {c : Bool} (hw : 1 < w0.heap.size) (h : PrH w0 w p q c) :
    Calls Tryd.prog 16 #[.pointer p] w fun e w' => ∃ p', e = .returned (.pointer p') ∧ Calls Tryd.prog 17 #[.pointer q] w' fun e w'' => ∃ q', e = .returned (.pointer q') ∧ PrH w0 w'' p' q' c := by
  obtain ⟨h0, ⟨h1, rfl, rfl⟩ | ⟨h1, B, C, O1, O2, m, rfl, rfl, h4, h5, h6⟩⟩ := h
  · subst h1
    refine (Clone_no (noH_nil w)).mono fun e w' hp => ?_
    obtain ⟨e1, rfl⟩ := hp
    exact ⟨none, e1, (rClone_nil _).mono fun e w'' hq => ⟨none, hq.1, PrH.nil (hq.2 ▸ h0)⟩⟩
  · subst h1
    refine (Clone_any h4.s).mono fun e w' hp => ?_
    obtain ⟨B', e1, b1, t1⟩ := hp
    refine ⟨_, e1, (rClone_any (h4.t.below b1)).mono fun e w'' hq => ?_⟩
    obtain ⟨C', e2, b2, t2⟩ := hq
    exact ⟨_, e2, PrH.made hw h0 t1 b1 t2 b2⟩

set_option maxRecDepth 100000 in
set_option maxHeartbeats 4000000 in
theorem plays_walk (p : Int) (A : Option Addr) (c : Nat) (l : List Ac) (t : Int) (w : World) (htab : Tab w) (hl : l.length ≤ 9223372036854775807) (hA : ActsAt w w.heap.size A l) (ht : InR t) :
    Calls Tryd.prog 3 #[.int .i64 p, .slice A l.length c, .int .i64 t] w (Yes w) := by
  have HTAB := Lib.hid htab
  have HW1 := Lib.hid htab.lt
  have HAL := Lib.hid (fun w' (hb : Below w.heap.size w w') => alive_any w' (HTAB.out.below hb))
  obtain ⟨L, hL⟩ : ∃ L, L = l.length := ⟨_, rfl⟩
  have HL := Lib.hid hL
  rw [← hL] at hl ⊢
  have HG := Lib.hid (fun w => great_any A L c w hl)
  have HA := Lib.hid hA
  have HT := Lib.hid ht
  clear hA hL htab
  by_cases h40 : 40 < L
  · rw [decide_eq_true h40] at HG
    clear h40
    go_enter Tryd.func3, Tryd.ntmps3
    go_wp2_with (first | (go_at_call 12; refine (HG.out _).mono ?_; rintro e _ ⟨rfl, rfl⟩) | (go_at_call 13; refine (HAL.out _ (Below.refl _ _)).mono ?_; rintro e w2 ⟨rfl, hb⟩; have B2 := Lib.hid hb; clear hb))
    go_ret
    exact ⟨rfl, B2.out⟩
  · rw [decide_eq_false h40] at HG
    clear h40
    by_cases hp1 : 1 ≤ p ∧ p ≤ 1024
    · obtain ⟨n, rfl⟩ : ∃ n : Nat, p = n := ⟨p.toNat, by omega⟩
      have h1 : 1 ≤ n := by omega
      have h2 : n ≤ 1024 := by omega
      have HN1 := Lib.hid (New_any n w h1 h2 HTAB.out)
      have HN2 := Lib.hid (fun w => rNew_any n w h1 h2)
      clear hp1 h1 h2
      generalize newM n = m at *
      go_enter Tryd.func3, Tryd.ntmps3
      go_wp2_with (first
        | (go_at_call 12; refine (HG.out _).mono ?_; rintro e _ ⟨rfl, rfl⟩)
        | (go_at_call 14; refine HN1.out.mono ?_; rintro e w2 ⟨B, rfl, hb, ho⟩; have HO := Lib.hid ho; have HB2 := Lib.hid hb; clear ho hb)
        | (go_at_call 15; refine (HN2.out _).mono ?_; rintro e w3 ⟨R, rfl, hb, ho⟩; have HP := Lib.hid (PrH.made HW1.out (Below.refl _ _) HO.out HB2.out ho hb); clear ho hb))
      go_loopw [7, 9, 11] (fun v r i wr => ∃ (k : Nat) (p' q' : Option Addr), k ≤ L ∧ i = .int .i64 k ∧ v = .pointer p' ∧ r = .pointer q' ∧ PrH w wr p' q' true) (fun _ _ i _ => L - (intOf i).toNat)
      case atStart => exact ⟨0, _, _, by omega, rfl, rfl, rfl, HP.out⟩
      case round =>
        clear HP
        obtain ⟨k, p', q', hk, rfl, rfl, rfl, hP⟩ := hrel
        have HP := Lib.hid hP
        have hbl := hP.bel
        by_cases hlt : k < L
        · obtain ⟨x, hx⟩ : ∃ x, l[k]? = some x := ⟨_, List.getElem?_eq_getElem (by have := HL.out; omega)⟩
          obtain ⟨hr, b, o, rfl, hB, g1, g2, g3⟩ := (HA.out.below hbl) k x hx
          have HD := Lib.hid (HP.out.play x.k x.a x.b hr.a)
          have HC := Lib.hid (HP.out.clone HW1.out)
          have HXK := Lib.hid hx
          have HRX := Lib.hid hr
          clear hP hx hbl hB hr
          by_cases hk2 : x.k = 3
          · rw [hk2] at g1
            clear hk2
            go_wp2_with fail
            refine HC.out.mono ?_
            rintro e w5 ⟨C1, rfl, hC⟩
            have HC2 := Lib.hid hC
            clear hC g1 g2 g3
            go_wp2_with fail
            refine HC2.out.mono ?_
            rintro e w6 ⟨C2, rfl, hP6⟩
            obtain ⟨_, b', o', hbo, _, y1, y2, y3⟩ := (HA.out.below hP6.bel) k x HXK.out
            cases hbo
            have HD6 := Lib.hid (hP6.play x.k x.a x.b HRX.out.a)
            clear hP6
            go_wp2_with fail
            refine HD6.out.mono ?_
            rintro e w7 ⟨rfl, hP7⟩
            have HP7 := Lib.hid hP7
            clear hP7
            go_wp2_with fail
            go_roundw
            case rel => exact ⟨k + 1, _, _, by omega, by go_num, rfl, rfl, HP7.out⟩
            case measure => simp [intOf]; omega
          · have q2 : (x.k == 3) = false := by simpa using hk2
            clear hk2
            go_wp2_with fail
            refine HD.out.mono ?_
            rintro e w5 ⟨rfl, hP5⟩
            have HP5 := Lib.hid hP5
            clear hP5
            go_wp2_with fail
            go_roundw
            case rel => exact ⟨k + 1, _, _, by omega, by go_num, rfl, rfl, HP5.out⟩
            case measure => simp [intOf]; omega
        · clear hP hbl
          go_wp2_with fail
          refine HP.out.same.mono ?_
          rintro e w5 ⟨rfl, hb5⟩
          have HP5 := Lib.hid (HP.out.below hb5)
          obtain ⟨bv, hf1, hf2⟩ := HP5.out.free t HT.out
          have HF1 := Lib.hid hf1
          have HF2 := Lib.hid hf2
          clear hb5 hf1 hf2
          go_wp2_with fail
          refine HF1.out.mono ?_
          rintro e w6 ⟨rfl, hb6⟩
          have HP6 := Lib.hid (HP5.out.below hb6)
          have HF3 := Lib.hid (HF2.out _ hb6)
          clear hb6
          go_wp2_with fail
          refine HF3.out.mono ?_
          rintro e _ ⟨rfl, rfl⟩
          go_wp2_with fail
          refine (HAL.out _ HP6.out.bel).mono ?_
          rintro e w8 ⟨rfl, hb8⟩
          have HP8 := Lib.hid (HP6.out.below hb8)
          clear hb8
          go_wp2_with fail
          go_ret
          exact ⟨rfl, HP8.out.bel⟩
    · have HN1 := Lib.hid (New_bad p w hp1)
      have HN2 := Lib.hid (fun w => rNew_bad p w hp1)
      clear hp1
      go_enter Tryd.func3, Tryd.ntmps3
      go_wp2_with (first
        | (go_at_call 12; refine (HG.out _).mono ?_; rintro e _ ⟨rfl, rfl⟩)
        | (go_at_call 14; refine HN1.out.mono ?_; rintro e _ ⟨rfl, rfl⟩)
        | (go_at_call 15; refine (HN2.out _).mono ?_; rintro e _ ⟨rfl, rfl⟩; have HP := Lib.hid (PrH.nil (Below.refl w.heap.size w))))
      go_loopw [7, 9, 11] (fun v r i wr => ∃ (k : Nat) (p' q' : Option Addr), k ≤ L ∧ i = .int .i64 k ∧ v = .pointer p' ∧ r = .pointer q' ∧ PrH w wr p' q' false) (fun _ _ i _ => L - (intOf i).toNat)
      case atStart => exact ⟨0, _, _, by omega, rfl, rfl, rfl, HP.out⟩
      case round =>
        clear HP
        obtain ⟨k, p', q', hk, rfl, rfl, rfl, hP⟩ := hrel
        have HP := Lib.hid hP
        have hbl := hP.bel
        by_cases hlt : k < L
        · obtain ⟨x, hx⟩ : ∃ x, l[k]? = some x := ⟨_, List.getElem?_eq_getElem (by have := HL.out; omega)⟩
          obtain ⟨hr, b, o, rfl, hB, g1, g2, g3⟩ := (HA.out.below hbl) k x hx
          have HD := Lib.hid (HP.out.play x.k x.a x.b hr.a)
          have HC := Lib.hid (HP.out.clone HW1.out)
          have HXK := Lib.hid hx
          have HRX := Lib.hid hr
          clear hP hx hbl hB hr
          by_cases hk2 : x.k = 3
          · rw [hk2] at g1
            clear hk2
            go_wp2_with fail
            refine HC.out.mono ?_
            rintro e w5 ⟨C1, rfl, hC⟩
            have HC2 := Lib.hid hC
            clear hC g1 g2 g3
            go_wp2_with fail
            refine HC2.out.mono ?_
            rintro e w6 ⟨C2, rfl, hP6⟩
            obtain ⟨_, b', o', hbo, _, y1, y2, y3⟩ := (HA.out.below hP6.bel) k x HXK.out
            cases hbo
            have HD6 := Lib.hid (hP6.play x.k x.a x.b HRX.out.a)
            clear hP6
            go_wp2_with fail
            refine HD6.out.mono ?_
            rintro e w7 ⟨rfl, hP7⟩
            have HP7 := Lib.hid hP7
            clear hP7
            go_wp2_with fail
            go_roundw
            case rel => exact ⟨k + 1, _, _, by omega, by go_num, rfl, rfl, HP7.out⟩
            case measure => simp [intOf]; omega
          · have q2 : (x.k == 3) = false := by simpa using hk2
            clear hk2
            go_wp2_with fail
            refine HD.out.mono ?_
            rintro e w5 ⟨rfl, hP5⟩
            have HP5 := Lib.hid hP5
            clear hP5
            go_wp2_with fail
            go_roundw
            case rel => exact ⟨k + 1, _, _, by omega, by go_num, rfl, rfl, HP5.out⟩
            case measure => simp [intOf]; omega
        · clear hP hbl
          go_wp2_with fail
          refine HP.out.same.mono ?_
          rintro e w5 ⟨rfl, hb5⟩
          have HP5 := Lib.hid (HP.out.below hb5)
          obtain ⟨bv, hf1, hf2⟩ := HP5.out.free t HT.out
          have HF1 := Lib.hid hf1
          have HF2 := Lib.hid hf2
          clear hb5 hf1 hf2
          go_wp2_with fail
          refine HF1.out.mono ?_
          rintro e w6 ⟨rfl, hb6⟩
          have HP6 := Lib.hid (HP5.out.below hb6)
          have HF3 := Lib.hid (HF2.out _ hb6)
          clear hb6
          go_wp2_with fail
          refine HF3.out.mono ?_
          rintro e _ ⟨rfl, rfl⟩
          go_wp2_with fail
          refine (HAL.out _ HP6.out.bel).mono ?_
          rintro e w8 ⟨rfl, hb8⟩
          have HP8 := Lib.hid (HP6.out.below hb8)
          clear hb8
          go_wp2_with fail
          go_ret
          exact ⟨rfl, HP8.out.bel⟩

end Go.Proofs.YtnmejilpifmlnaaDoor
