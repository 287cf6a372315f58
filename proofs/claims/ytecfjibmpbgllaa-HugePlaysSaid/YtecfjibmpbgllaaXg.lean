/- The statement about calls: what its call returns. -/
import Derived.Test.YtecfjibmpbgllaaHb
namespace Go.Proofs.Ytecfjibmpbgllaa
open Go.RowKit

theorem rClone_nil (w : World) : Calls Try.prog 17 #[.pointer none] w fun e w' => e = .returned (.pointer none) ∧ w = w' := by
  have HM := Lib.hid (rmade_nil w)
  go_enter Try.func17, Try.ntmps17
  go_wp2_with (go_at_call 41; refine HM.out.mono ?_; rintro e _ ⟨rfl, rfl⟩)
  go_ret
  exact ⟨rfl, rfl⟩

set_option maxRecDepth 100000 in
set_option maxHeartbeats 1000000 in
theorem Same_no0 {v : Value} {w : World} (h : NoT w v) : Calls Try.prog 19 #[v, .pointer none, .int .i64 0] w fun e w' => e = .returned (.bool true) ∧ w = w' := by
  have HS := Lib.hid h
  clear h
  go_enter Try.func19, Try.ntmps19
  go_wp2_with fail
  go_loopw [7] (fun i wr => ∃ k : Int, (-1 ≤ k ∧ k ≤ 5) ∧ i = .int .i64 k ∧ w = wr) (fun i _ => (5 - intOf i).toNat)
  case atStart => exact ⟨-1, by omega, rfl, rfl⟩
  case round =>
    obtain ⟨k7, ⟨hk0, hk1⟩, rfl, rfl⟩ := hrel
    by_cases hlt : k7 ≤ 4
    · go_wp2_with fail
      refine (Count_no _ HS.out).mono ?_; rintro e _ ⟨rfl, rfl⟩
      go_wp2_with fail
      refine (rCount_nil _ _).mono ?_; rintro e _ ⟨rfl, rfl⟩
      go_wp2_with fail
      go_roundw
      case rel => exact ⟨k7 + 1, by omega, by go_num, trivial⟩
      case measure => simp [intOf]; omega
    · go_wp2_with fail
      go_loopw [8] (fun i wr => ∃ k : Int, (-1 ≤ k ∧ k ≤ 1) ∧ i = .int .i64 k ∧ w = wr) (fun i _ => (1 - intOf i).toNat)
      case atStart => exact ⟨-1, by omega, rfl, rfl⟩
      case round =>
        obtain ⟨k8, ⟨hk0, hk1⟩, rfl, rfl⟩ := hrel
        by_cases hlt : k8 ≤ 0
        · go_wp2_with fail
          refine (State_no _ HS.out).mono ?_; rintro e _ ⟨rfl, rfl⟩
          go_wp2_with fail
          refine (rState_nil _ _).mono ?_; rintro e _ ⟨rfl, rfl⟩
          go_wp2_with fail
          go_roundw
          case rel => exact ⟨k8 + 1, by omega, by go_num, trivial⟩
          case measure => simp [intOf]; omega
        · go_wp2_with fail
          go_loopw [9] (fun i wr => ∃ k : Int, (-1 ≤ k ∧ k ≤ 1) ∧ i = .int .i64 k ∧ w = wr) (fun i _ => (1 - intOf i).toNat)
          case atStart => exact ⟨-1, by omega, rfl, rfl⟩
          case round =>
            obtain ⟨k9, ⟨hk0, hk1⟩, rfl, rfl⟩ := hrel
            by_cases hlt : k9 ≤ 0
            · go_wp2_with fail
              refine (Used_no _ HS.out).mono ?_; rintro e _ ⟨rfl, rfl⟩
              go_wp2_with fail
              refine (rUsed_nil _ _).mono ?_; rintro e _ ⟨rfl, rfl⟩
              go_wp2_with fail
              go_roundw
              case rel => exact ⟨k9 + 1, by omega, by go_num, trivial⟩
              case measure => simp [intOf]; omega
            · go_wp2_with fail
              refine (Idle_no HS.out).mono ?_; rintro e _ ⟨rfl, rfl⟩
              go_wp2_with fail
              refine (rIdle_nil _).mono ?_; rintro e _ ⟨rfl, rfl⟩
              go_wp2_with fail
              refine (Ints_nil _).mono ?_; rintro e _ ⟨rfl, rfl⟩
              go_wp2_with fail
              refine (Broken_no HS.out).mono ?_; rintro e _ ⟨rfl, rfl⟩
              go_wp2_with fail
              refine (rBroken_nil _).mono ?_; rintro e _ ⟨rfl, rfl⟩
              go_wp2_with fail
              refine (Ints_nil _).mono ?_; rintro e _ ⟨rfl, rfl⟩
              go_wp2_with fail
              refine (Whole_no HS.out).mono ?_; rintro e _ ⟨rfl, rfl⟩
              go_wp2_with fail
              refine (rWhole_nil _).mono ?_; rintro e _ ⟨rfl, rfl⟩
              go_wp2_with fail
              refine (Ints_nil _).mono ?_; rintro e _ ⟨rfl, rfl⟩
              go_wp2_with fail
              go_ret
              exact ⟨rfl, rfl⟩

/-- A tracker and the document's, apart from one another, made since w0; or neither. -/
def PrT (w0 w : World) (p q : Option Addr) (c : Bool) : Prop :=
  Below w0.heap.size w0 w ∧ ((c = false ∧ p = none ∧ q = none) ∨
    (c = true ∧ ∃ (B C : Nat) (O1 O2 : Nat → Prop) (m : Mo), p = some ⟨B, 0, none⟩ ∧ q = some ⟨C, 0, none⟩ ∧ BoT w O1 O2 B C m ∧ (∀ k, O1 k → w0.heap.size ≤ k) ∧ (∀ k, O2 k → w0.heap.size ≤ k)))
theorem PrT.bel {w0 w : World} {p q : Option Addr} {c : Bool} (h : PrT w0 w p q c) : Below w0.heap.size w0 w := h.1
theorem PrT.nil {w0 w : World} (h : Below w0.heap.size w0 w) : PrT w0 w none none false := ⟨h, .inl ⟨rfl, rfl, rfl⟩⟩
theorem PrT.made {w0 w w1 w2 : World} {B C : Nat} {m : Mo} (hb : Below w0.heap.size w0 w) (h1 : Tk w1 (Nw w w1) B m) (b1 : Below w.heap.size w w1) (h2 : Rf w2 (Nw w1 w2) C m) (b2 : Below w1.heap.size w1 w2) :
    PrT w0 w2 (some ⟨B, 0, none⟩) (some ⟨C, 0, none⟩) true := by
  have s0 := hb.size
  have s1 := b1.size
  exact ⟨btr (btr hb b1 (Nat.le_refl _)) b2 (Nat.le_refl _), .inr ⟨rfl, B, C, _, _, m, rfl, rfl, ⟨h1.below b2, h2, fun k a b => by have := a.2; have := b.1; omega⟩, fun k a => by have := a.1; omega, fun k a => by have := a.1; omega⟩⟩
theorem PrT.below {w0 w w' : World} {p q : Option Addr} {c : Bool} (h : PrT w0 w p q c) (hb : Below w.heap.size w w') : PrT w0 w' p q c := by
  obtain ⟨h0, h1 | ⟨h1, B, C, O1, O2, m, h2, h3, h4, h5, h6⟩⟩ := h
  · exact ⟨btr h0 hb (Nat.le_refl _), .inl h1⟩
  · exact ⟨btr h0 hb (Nat.le_refl _), .inr ⟨h1, B, C, O1, O2, m, h2, h3, h4.below hb, h5, h6⟩⟩
theorem PrT.play {w0 w : World} {p q : Option Addr} {c : Bool} (k a b : Int) (h : PrT w0 w p q c) (hr : InR a) :
    Calls Try.prog 18 #[.pointer p, .pointer q, .agg #[.int .i64 k, .int .i64 a, .int .i64 b]] w fun e w' => e = .returned (.bool true) ∧ PrT w0 w' p q c := by
  obtain ⟨h0, ⟨h1, rfl, rfl⟩ | ⟨h1, B, C, O1, O2, m, rfl, rfl, h4, h5, h6⟩⟩ := h
  · refine (play_no k a b (show NoT w (.pointer none) from .inl rfl)).mono fun e w' hp => ⟨hp.1, btr h0 hp.2 (Nat.le_refl _), .inl ⟨h1, rfl, rfl⟩⟩
  · refine (play_any k a b h4 hr).mono fun e w' hp => ⟨hp.1, ?_⟩
    obtain ⟨P1, P2, g1, g2, g3, g4⟩ := hp.2
    have hs := h0.size
    exact ⟨h0.trans (g2.below hs (fun k a => a.elim (h5 k) (h6 k))), .inr ⟨h1, B, C, P1, P2, _, rfl, rfl, g1, fun k a => (g3 k a).elim (h5 k) (by omega), fun k a => (g4 k a).elim (h6 k) (by omega)⟩⟩
theorem PrT.same {w0 w : World} {p q : Option Addr} {c : Bool} (n : Nat) (hn : n ≤ 1024) (hc : c = false → n = 0) (h : PrT w0 w p q c) : Calls Try.prog 19 #[.pointer p, .pointer q, .int .i64 n] w (Yes w) := by
  obtain ⟨h0, ⟨h1, rfl, rfl⟩ | ⟨h1, B, C, O1, O2, m, rfl, rfl, h4, h5, h6⟩⟩ := h
  · rw [hc h1]
    exact (Same_no0 (show NoT w (.pointer none) from .inl rfl)).mono fun e w' hp => ⟨hp.1, hp.2 ▸ Below.refl _ _⟩
  · exact Same_any n hn h4.s h4.t
theorem PrT.clone {w0 w : World} {p q : Option Addr} {c : Bool} (h : PrT w0 w p q c) :
    Calls Try.prog 16 #[.pointer p] w fun e w' => ∃ p', e = .returned (.pointer p') ∧ Calls Try.prog 17 #[.pointer q] w' fun e w'' => ∃ q', e = .returned (.pointer q') ∧ PrT w0 w'' p' q' c := by
  obtain ⟨h0, ⟨h1, rfl, rfl⟩ | ⟨h1, B, C, O1, O2, m, rfl, rfl, h4, h5, h6⟩⟩ := h
  · subst h1
    refine (Clone_no (show NoT w (.pointer none) from .inl rfl)).mono fun e w' hp => ?_
    obtain ⟨e1, rfl⟩ := hp
    exact ⟨none, e1, (rClone_nil _).mono fun e w'' hq => ⟨none, hq.1, PrT.nil (hq.2 ▸ h0)⟩⟩
  · subst h1
    refine (Clone_any h4.s).mono fun e w' hp => ?_
    obtain ⟨B', e1, b1, t1⟩ := hp
    refine ⟨_, e1, (rClone_any (h4.t.below b1)).mono fun e w'' hq => ?_⟩
    obtain ⟨C', e2, b2, t2⟩ := hq
    exact ⟨_, e2, PrT.made h0 t1 b1 t2 b2⟩

set_option maxRecDepth 100000 in
set_option maxHeartbeats 4000000 in
theorem plays_walk (p : Int) (A : Option Addr) (c : Nat) (l : List Ac) (t : Int) (w : World) (hl : l.length ≤ 9223372036854775807) (hA : ActsAt w w.heap.size A l) (hp : InR p) (ht : InR t) :
    Calls Try.prog 3 #[.int .i64 p, .slice A l.length c, .int .i64 t] w (Yes w) := by
  have HAL := Lib.hid alive_any
  obtain ⟨L, hL⟩ : ∃ L, L = l.length := ⟨_, rfl⟩
  have HL := Lib.hid hL
  rw [← hL] at hl ⊢
  have HG := Lib.hid (fun w => great_any A L c w hl)
  have HA := Lib.hid hA
  have HT := Lib.hid ht
  clear hA hL
  by_cases h40 : 40 < L
  · rw [decide_eq_true h40] at HG
    clear h40
    go_enter Try.func3, Try.ntmps3
    go_wp2_with (first | (go_at_call 12; refine (HG.out _).mono ?_; rintro e _ ⟨rfl, rfl⟩) | (go_at_call 13; refine (HAL.out _).mono ?_; rintro e w2 ⟨rfl, hb⟩; have B2 := Lib.hid hb; clear hb))
    go_ret
    exact ⟨rfl, B2.out⟩
  · rw [decide_eq_false h40] at HG
    clear h40
    by_cases hp16 : 16 ≤ p ∧ p ≤ 1024 ∧ p % 16 = 0
    · obtain ⟨h, rfl⟩ : ∃ h : Nat, p = ((16 * h : Nat) : Int) := ⟨(p / 16).toNat, by omega⟩
      have h1 : 1 ≤ h := by omega
      have h2 : h ≤ 64 := by omega
      have HN1 := Lib.hid (fun w => New_any h w h1 h2)
      have HN2 := Lib.hid (fun w => rNew_any h w h1 h2)
      obtain ⟨n, hn⟩ : ∃ n, 16 * h = n := ⟨_, rfl⟩
      have hn2 : n ≤ 1024 := by omega
      rw [hn] at HN1 HN2 hp ⊢
      clear hp16 h1 h2 hn
      generalize newM h = m at *
      go_enter Try.func3, Try.ntmps3
      go_wp2_with (first
        | (go_at_call 12; refine (HG.out _).mono ?_; rintro e _ ⟨rfl, rfl⟩)
        | (go_at_call 14; refine (HN1.out _).mono ?_; rintro e w2 ⟨B, rfl, hb, ho⟩; have HO := Lib.hid ho; have HB2 := Lib.hid hb; clear ho hb)
        | (go_at_call 15; refine (HN2.out _).mono ?_; rintro e w3 ⟨R, rfl, hb, ho⟩; have HP := Lib.hid (PrT.made (Below.refl _ _) HO.out HB2.out ho hb); clear ho hb))
      go_loopw [7, 9, 11] (fun v r i wr => ∃ (k : Nat) (p' q' : Option Addr), k ≤ L ∧ i = .int .i64 k ∧ v = .pointer p' ∧ r = .pointer q' ∧ PrT w wr p' q' true) (fun _ _ i _ => L - (intOf i).toNat)
      case atStart => exact ⟨0, _, _, by omega, rfl, rfl, rfl, HP.out⟩
      case round =>
        clear HP
        obtain ⟨k, p', q', hk, rfl, rfl, rfl, hP⟩ := hrel
        have HP := Lib.hid hP
        have hbl := hP.bel
        by_cases hlt : k < L
        · obtain ⟨x, hx⟩ : ∃ x, l[k]? = some x := ⟨_, List.getElem?_eq_getElem (by have := HL.out; omega)⟩
          obtain ⟨hr, b, o, rfl, hB, g1, g2, g3⟩ := (HA.out.below hbl) k x hx
          have HD := Lib.hid (HP.out.play x.k x.a x.b hr.a)
          have HC := Lib.hid HP.out.clone
          have HXK := Lib.hid hx
          have HRX := Lib.hid hr
          clear hP hx hbl hB hr
          by_cases hk2 : x.k = 6
          · rw [hk2] at g1
            clear hk2
            go_wp2_with fail
            refine HC.out.mono ?_
            rintro e w5 ⟨C1, rfl, hC⟩
            have HC2 := Lib.hid hC
            clear hC g1 g2 g3
            go_wp2_with fail
            refine HC2.out.mono ?_
            rintro e w6 ⟨C2, rfl, hP6⟩
            obtain ⟨_, b', o', hbo, _, y1, y2, y3⟩ := (HA.out.below hP6.bel) k x HXK.out
            cases hbo
            have HD6 := Lib.hid (hP6.play x.k x.a x.b HRX.out.a)
            clear hP6
            go_wp2_with fail
            refine HD6.out.mono ?_
            rintro e w7 ⟨rfl, hP7⟩
            have HP7 := Lib.hid hP7
            clear hP7
            go_wp2_with fail
            go_roundw
            case rel => exact ⟨k + 1, _, _, by omega, by go_num, rfl, rfl, HP7.out⟩
            case measure => simp [intOf]; omega
          · have q2 : (x.k == 6) = false := by simpa using hk2
            clear hk2
            go_wp2_with fail
            refine HD.out.mono ?_
            rintro e w5 ⟨rfl, hP5⟩
            have HP5 := Lib.hid hP5
            clear hP5
            go_wp2_with fail
            go_roundw
            case rel => exact ⟨k + 1, _, _, by omega, by go_num, rfl, rfl, HP5.out⟩
            case measure => simp [intOf]; omega
        · clear hP hbl
          obtain ⟨B', C', rfl, rfl⟩ : ∃ B' C', p' = some ⟨B', 0, none⟩ ∧ q' = some ⟨C', 0, none⟩ := by
            obtain ⟨_, ⟨h1, _⟩ | ⟨_, B', C', _, _, _, h2, h3, _⟩⟩ := HP.out
            · cases h1
            · exact ⟨B', C', h2, h3⟩
          go_wp2_with fail
          refine (HP.out.same n (by omega) (fun e => by cases e)).mono ?_
          rintro e w5 ⟨rfl, hb5⟩
          have HP5 := Lib.hid (HP.out.below hb5)
          clear hb5
          go_wp2_with fail
          refine (HP5.out.play 5 t 0 HT.out).mono ?_
          rintro e w6 ⟨rfl, hP6⟩
          have HP6 := Lib.hid hP6
          clear hP6
          go_wp2_with fail
          refine (HAL.out _).mono ?_
          rintro e w8 ⟨rfl, hb8⟩
          have HP8 := Lib.hid (HP6.out.below hb8)
          clear hb8
          go_wp2_with fail
          go_ret
          exact ⟨rfl, HP8.out.bel⟩
    · have HN1 := Lib.hid (fun w => New_bad p w hp16)
      have HN2 := Lib.hid (fun w => rNew_bad p w hp16)
      clear hp16
      go_enter Try.func3, Try.ntmps3
      go_wp2_with (first
        | (go_at_call 12; refine (HG.out _).mono ?_; rintro e _ ⟨rfl, rfl⟩)
        | (go_at_call 14; refine (HN1.out _).mono ?_; rintro e _ ⟨rfl, rfl⟩)
        | (go_at_call 15; refine (HN2.out _).mono ?_; rintro e _ ⟨rfl, rfl⟩; have HP := Lib.hid (PrT.nil (Below.refl w.heap.size w))))
      go_loopw [7, 9, 11] (fun v r i wr => ∃ (k : Nat) (p' q' : Option Addr), k ≤ L ∧ i = .int .i64 k ∧ v = .pointer p' ∧ r = .pointer q' ∧ PrT w wr p' q' false) (fun _ _ i _ => L - (intOf i).toNat)
      case atStart => exact ⟨0, _, _, by omega, rfl, rfl, rfl, HP.out⟩
      case round =>
        clear HP
        obtain ⟨k, p', q', hk, rfl, rfl, rfl, hP⟩ := hrel
        have HP := Lib.hid hP
        have hbl := hP.bel
        by_cases hlt : k < L
        · obtain ⟨x, hx⟩ : ∃ x, l[k]? = some x := ⟨_, List.getElem?_eq_getElem (by have := HL.out; omega)⟩
          obtain ⟨hr, b, o, rfl, hB, g1, g2, g3⟩ := (HA.out.below hbl) k x hx
          have HD := Lib.hid (HP.out.play x.k x.a x.b hr.a)
          have HC := Lib.hid HP.out.clone
          have HXK := Lib.hid hx
          have HRX := Lib.hid hr
          clear hP hx hbl hB hr
          by_cases hk2 : x.k = 6
          · rw [hk2] at g1
            clear hk2
            go_wp2_with fail
            refine HC.out.mono ?_
            rintro e w5 ⟨C1, rfl, hC⟩
            have HC2 := Lib.hid hC
            clear hC g1 g2 g3
            go_wp2_with fail
            refine HC2.out.mono ?_
            rintro e w6 ⟨C2, rfl, hP6⟩
            obtain ⟨_, b', o', hbo, _, y1, y2, y3⟩ := (HA.out.below hP6.bel) k x HXK.out
            cases hbo
            have HD6 := Lib.hid (hP6.play x.k x.a x.b HRX.out.a)
            clear hP6
            go_wp2_with fail
            refine HD6.out.mono ?_
            rintro e w7 ⟨rfl, hP7⟩
            have HP7 := Lib.hid hP7
            clear hP7
            go_wp2_with fail
            go_roundw
            case rel => exact ⟨k + 1, _, _, by omega, by go_num, rfl, rfl, HP7.out⟩
            case measure => simp [intOf]; omega
          · have q2 : (x.k == 6) = false := by simpa using hk2
            clear hk2
            go_wp2_with fail
            refine HD.out.mono ?_
            rintro e w5 ⟨rfl, hP5⟩
            have HP5 := Lib.hid hP5
            clear hP5
            go_wp2_with fail
            go_roundw
            case rel => exact ⟨k + 1, _, _, by omega, by go_num, rfl, rfl, HP5.out⟩
            case measure => simp [intOf]; omega
        · clear hP hbl
          obtain ⟨rfl, rfl⟩ : p' = none ∧ q' = none := by
            obtain ⟨_, ⟨_, h1, h2⟩ | ⟨h1, _⟩⟩ := HP.out
            · exact ⟨h1, h2⟩
            · cases h1
          go_wp2_with fail
          refine (HP.out.same 0 (by omega) (fun _ => rfl)).mono ?_
          rintro e w5 ⟨rfl, hb5⟩
          have HP5 := Lib.hid (HP.out.below hb5)
          clear hb5
          go_wp2_with fail
          refine (HP5.out.play 5 t 0 HT.out).mono ?_
          rintro e w6 ⟨rfl, hP6⟩
          have HP6 := Lib.hid hP6
          clear hP6
          go_wp2_with fail
          refine (HAL.out _).mono ?_
          rintro e w8 ⟨rfl, hb8⟩
          have HP8 := Lib.hid (HP6.out.below hb8)
          clear hb8
          go_wp2_with fail
          go_ret
          exact ⟨rfl, HP8.out.bel⟩

end Go.Proofs.Ytecfjibmpbgllaa
