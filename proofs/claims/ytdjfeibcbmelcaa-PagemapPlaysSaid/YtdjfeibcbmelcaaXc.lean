/- The statement about numbers: what its call returns. -/
import Derived.Test.YtdjfeibcbmelcaaXa
namespace Go.Proofs.Ytdjfeibcbmelcaa
open Go.RowKit

theorem getV_setR {M : Nat → Int} {s n : Nat} {v p : Int} (h : s + n ≤ 1024) : getV (setR M s n v) p = if (s : Int) ≤ p ∧ p < s + n then v else getV M p := by
  unfold getV setR
  by_cases h1 : (s : Int) ≤ p ∧ p < s + n
  · rw [if_pos h1, if_pos (by omega), if_pos (by omega)]
  · rw [if_neg h1]
    by_cases h2 : 0 ≤ p ∧ p < 1024
    · rw [if_pos h2, if_pos h2, if_neg (by omega)]
    · rw [if_neg h2, if_neg h2]
/-- What a call makes of a page's number: what the statement reckons. -/
theorem num_err {M : Nat → Int} {x : Ac} (h : doE x ≠ 0) : doM M x = M := (do_bad h).2.1
theorem num_other {M : Nat → Int} {x : Ac} (h : ¬ (0 ≤ x.k ∧ x.k ≤ 1)) : doM M x = M := by
  unfold doM
  rw [if_neg (by omega), if_neg (by omega)]
theorem num_run {x : Ac} (h : doE x = 0) (hk : 0 ≤ x.k ∧ x.k ≤ 1) : 0 ≤ x.a ∧ 1 ≤ x.b ∧ x.b ≤ 1024 - x.a ∧ (x.k = 0 → noB x.c = true) := by
  unfold doE at h
  by_cases h0 : x.k = 0
  · rw [if_pos h0] at h
    unfold setE at h
    by_cases hi : insB x.a x.b = true ∧ noB x.c = true
    · have := (insB_iff _ _).1 hi.1
      exact ⟨this.1, this.2.1, this.2.2, fun _ => hi.2⟩
    · rw [if_neg hi] at h; omega
  · rw [if_neg h0, if_pos (by omega)] at h
    unfold clrE at h
    by_cases hi : insB x.a x.b = true
    · have := (insB_iff _ _).1 hi
      exact ⟨this.1, this.2.1, this.2.2, fun h => absurd h h0⟩
    · rw [if_neg hi] at h; omega
theorem num_set {M : Nat → Int} {x : Ac} (h : doE x = 0) (hk : 0 ≤ x.k ∧ x.k ≤ 1) (p : Int) : getV (doM M x) p = if x.a ≤ p ∧ p < x.a + x.b then (if x.k = 0 then x.c else 0) else getV M p := by
  obtain ⟨h1, h2, h3, h4⟩ := num_run h hk
  have hi : insB x.a x.b = true := (insB_iff _ _).2 ⟨h1, h2, h3⟩
  unfold doM
  by_cases h0 : x.k = 0
  · rw [if_pos h0]
    unfold setD
    rw [if_pos ⟨hi, h4 h0⟩, getV_setR (by omega), Int.toNat_of_nonneg h1, Int.toNat_of_nonneg (by omega), if_pos h0]
  · rw [if_neg h0, if_pos (by omega)]
    unfold clrD
    rw [if_pos hi, getV_setR (by omega), Int.toNat_of_nonneg h1, Int.toNat_of_nonneg (by omega), if_neg h0]

set_option maxRecDepth 100000 in
set_option maxHeartbeats 4000000 in
theorem numbers_walk (A : Option Addr) (c : Nat) (l : List Ac) (p : Int) (w : World) (hl : l.length ≤ 9223372036854775807) (hA : ActsAt w w.heap.size A l) (hp : InR p) :
    Calls Try.prog 6 #[.slice A l.length c, .int .i64 p] w (Yes w) := by
  have HAL := Lib.hid alive_any
  have HNEW := Lib.hid New_any
  obtain ⟨L, hL⟩ : ∃ L, L = l.length := ⟨_, rfl⟩
  have HL := Lib.hid hL
  rw [← hL] at hl ⊢
  have HG := Lib.hid (fun w => great_any A L c w hl)
  have HA := Lib.hid hA
  have HPI := Lib.hid hp
  obtain ⟨hp1, hp2⟩ := hp
  clear hA hL
  by_cases h60 : 60 < L
  · rw [decide_eq_true h60] at HG
    go_enter Try.func6, Try.ntmps6
    go_wp2_with fail
    refine (HG.out _).mono ?_
    rintro e _ ⟨rfl, rfl⟩
    go_wp2_with fail
    refine (HAL.out _).mono ?_
    rintro e w1 ⟨rfl, hb1⟩
    go_wp2_with fail
    go_ret
    exact ⟨rfl, hb1⟩
  · rw [decide_eq_false h60] at HG
    clear h60
    go_enter Try.func6, Try.ntmps6
    go_wp2_with fail
    refine (HG.out _).mono ?_
    rintro e _ ⟨rfl, rfl⟩
    go_wp2_with fail
    refine (HNEW.out _).mono ?_
    rintro e w1 ⟨B, rfl, hb1, ht1⟩
    have HB1 := Lib.hid hb1
    have HT1 := Lib.hid ht1
    clear hb1 ht1
    go_wp2_with fail
    go_loopw [6, 7] (fun no i wr => ∃ k : Nat, k ≤ L ∧ i = .int .i64 k ∧ no = .int .i64 (getV (runM noM (l.take k)) p) ∧ Mut w1 (Nw w w1) B (runM noM (l.take k)) wr) (fun _ i _ => L - (intOf i).toNat)
    case atStart => exact ⟨0, by omega, rfl, by show Value.int .i64 0 = .int .i64 (getV noM p); unfold getV noM; split <;> rfl, Mut.same HT1.out (Below.refl _ _)⟩
    case round =>
      obtain ⟨k, hk, rfl, rfl, hM⟩ := hrel
      have HM := Lib.hid hM
      have hbl := hM.bel HB1.out (fun k hk => hk.1)
      have HBL := Lib.hid hbl
      by_cases hlt : k < L
      · obtain ⟨x, hx⟩ : ∃ x, l[k]? = some x := ⟨_, List.getElem?_eq_getElem (by have := HL.out; omega)⟩
        have hAt := (HA.out.below hbl) k x hx
        obtain ⟨hr, b, o, rfl, hB, g1, g2, g3, g4⟩ := hAt
        have HD := Lib.hid (do_at x hM.1 hr)
        have hX := runM_take (M := noM) hx
        generalize hMk : runM noM (l.take k) = Mk at hX HM HD ⊢
        have HX := Lib.hid hX
        clear hM hx hX hMk hbl
        go_wp2_with fail
        refine HD.out.mono ?_
        rintro e w2 ⟨rfl, hM2⟩
        have hM2' : Mut w1 (Nw w w1) B (doM Mk x) w2 := HM.out.trans hM2
        have hb2 := hM2'.bel HB1.out (fun k hk => hk.1)
        have HM2 := Lib.hid hM2'
        have f1 : w2.cell? ⟨b, o + k * 4, none⟩ = _ := (hb2.cell (p := ⟨b, _, none⟩) hB).trans ((HBL.out.cell (p := ⟨b, _, none⟩) hB).symm.trans g1)
        have f2 : w2.cell? ⟨b, o + k * 4 + 1, none⟩ = _ := (hb2.cell (p := ⟨b, _, none⟩) hB).trans ((HBL.out.cell (p := ⟨b, _, none⟩) hB).symm.trans g2)
        have f3 : w2.cell? ⟨b, o + k * 4 + 2, none⟩ = _ := (hb2.cell (p := ⟨b, _, none⟩) hB).trans ((HBL.out.cell (p := ⟨b, _, none⟩) hB).symm.trans g3)
        have f4 : w2.cell? ⟨b, o + k * 4 + 3, none⟩ = _ := (hb2.cell (p := ⟨b, _, none⟩) hB).trans ((HBL.out.cell (p := ⟨b, _, none⟩) hB).symm.trans g4)
        have HGET := Lib.hid (fun N => Get_any (w := w2.drewN N) p (hM2'.1.below (belowN (Below.refl _ _) N)) HPI.out)
        have HNX := Lib.hid (fun N => Mut.then HM2.out (belowN (Below.refl w2.heap.size w2) N))
        obtain ⟨⟨k1, k2⟩, ⟨a1, a2⟩, ⟨b1, b2⟩, ⟨c1, c2⟩⟩ := hr
        clear hM2 hM2' hb2 g1 g2 g3 g4 hB
        by_cases hE : doE x = 0
        · by_cases hK : 0 ≤ x.k ∧ x.k ≤ 1
          · obtain ⟨r1, r2, r3, _⟩ := num_run hE hK
            have hnum := num_set (M := Mk) hE hK p
            rw [hE]
            generalize hgv : getV Mk p = gv at hnum ⊢
            generalize hMx : doM Mk x = Mx at hnum HGET HX HNX HM2
            obtain ⟨xk, xa, xb, xc⟩ := x
            dsimp only at hK r1 r2 r3 hnum f1 f2 f3 f4 k1 k2 a1 a2 b1 b2 c1 c2
            clear hE hgv hMx HD
            by_cases hpa : xa ≤ p
            · by_cases hpb : p - xa < xb
              · rw [if_pos ⟨hpa, by omega⟩] at hnum
                rw [hnum] at HGET
                have HNUM := Lib.hid hnum
                have hk01 : xk = 0 ∨ xk = 1 := by omega
                clear hnum hK
                have E0 := Lib.hid (w64 (p - xa) (by omega))
                rcases hk01 with rfl | rfl
                · rw [if_pos rfl] at HGET HNUM
                  obtain ⟨q1, q2⟩ := E0.out
                  go_wp2_with fail
                  go_quiet (fail)
                  go_wp2_with fail
                  refine (HGET.out _).mono ?_
                  rintro e _ ⟨rfl, rfl⟩
                  go_wp2_with fail
                  go_roundw
                  case rel => exact ⟨k + 1, by omega, by go_num, by rw [HX.out, HNUM.out], by rw [HX.out]; exact HNX.out _⟩
                  case measure => simp [intOf]; omega
                · rw [if_neg (by omega)] at HGET HNUM
                  obtain ⟨q1, q2⟩ := E0.out
                  go_wp2_with fail
                  go_quiet (fail)
                  go_wp2_with fail
                  refine (HGET.out _).mono ?_
                  rintro e _ ⟨rfl, rfl⟩
                  go_wp2_with fail
                  go_roundw
                  case rel => exact ⟨k + 1, by omega, by go_num, by rw [HX.out, HNUM.out], by rw [HX.out]; exact HNX.out _⟩
                  case measure => simp [intOf]; omega
              · rw [if_neg (by omega)] at hnum
                rw [hnum] at HGET
                have HNUM := Lib.hid hnum
                have E0 := Lib.hid (w64 (p - xa) (by omega))
                have hk0 := hK.1
                have hk1 := hK.2
                clear hnum hK
                obtain ⟨q1, q2⟩ := E0.out
                go_wp2_with fail
                go_quiet (fail)
                go_wp2_with fail
                refine (HGET.out _).mono ?_
                rintro e _ ⟨rfl, rfl⟩
                go_wp2_with fail
                go_roundw
                case rel => exact ⟨k + 1, by omega, by go_num, by rw [HX.out, HNUM.out], by rw [HX.out]; exact HNX.out _⟩
                case measure => simp [intOf]; omega
            · rw [if_neg (by omega)] at hnum
              rw [hnum] at HGET
              have HNUM := Lib.hid hnum
              have hk0 : decide (0 ≤ xk) = true := decide_eq_true hK.1
              have hk1 : decide (xk ≤ 1) = true := decide_eq_true hK.2
              have hpd : decide (xa ≤ p) = false := decide_eq_false hpa
              clear hnum hK hpa
              go_wp2_with fail
              go_quiet (fail)
              go_wp2_with fail
              refine (HGET.out _).mono ?_
              rintro e _ ⟨rfl, rfl⟩
              go_wp2_with fail
              go_roundw
              case rel => exact ⟨k + 1, by omega, by go_num, by rw [HX.out, HNUM.out], by rw [HX.out]; exact HNX.out _⟩
              case measure => simp [intOf]; omega
          · have HDM := Lib.hid (num_other (M := Mk) hK)
            rw [HDM.out] at HGET
            rw [hE]
            have HNUM := Lib.hid (show getV (doM Mk x) p = getV Mk p by rw [HDM.out])
            generalize hgv : getV Mk p = gv at HGET HNUM ⊢
            generalize doM Mk x = Mx at HX HNX HM2 HNUM
            obtain ⟨xk, xa, xb, xc⟩ := x
            dsimp only at hK f1 f2 f3 f4 k1 k2 a1 a2 b1 b2 c1 c2
            clear hE hgv HDM HD
            by_cases hk0 : 0 ≤ xk
            · have hk1 : decide (xk ≤ 1) = false := decide_eq_false (by omega)
              have hk00 : decide (0 ≤ xk) = true := decide_eq_true hk0
              clear hK hk0
              go_wp2_with fail
              go_quiet (fail)
              go_wp2_with fail
              refine (HGET.out _).mono ?_
              rintro e _ ⟨rfl, rfl⟩
              go_wp2_with fail
              go_roundw
              case rel => exact ⟨k + 1, by omega, by go_num, by rw [HX.out, HNUM.out], by rw [HX.out]; exact HNX.out _⟩
              case measure => simp [intOf]; omega
            · have hk00 : decide (0 ≤ xk) = false := decide_eq_false hk0
              clear hK hk0
              go_wp2_with fail
              go_quiet (fail)
              go_wp2_with fail
              refine (HGET.out _).mono ?_
              rintro e _ ⟨rfl, rfl⟩
              go_wp2_with fail
              go_roundw
              case rel => exact ⟨k + 1, by omega, by go_num, by rw [HX.out, HNUM.out], by rw [HX.out]; exact HNX.out _⟩
              case measure => simp [intOf]; omega
        · have HD := Lib.hid (num_err (M := Mk) hE)
          rw [HD.out] at HGET
          have HGV := Lib.hid (show getV (doM Mk x) p = getV Mk p by rw [HD.out])
          generalize hgv : getV Mk p = gv at HGET HGV ⊢
          have HE1 := Lib.hid hgv
          generalize doE x = E at hE ⊢
          have q : (E == 0) = false := by simpa using hE
          clear hE hgv
          go_wp2_with fail
          go_quiet (fail)
          go_wp2_with fail
          refine (HGET.out _).mono ?_
          rintro e _ ⟨rfl, rfl⟩
          go_wp2_with fail
          go_roundw
          case rel => exact ⟨k + 1, by omega, by go_num, by rw [HX.out, HGV.out], by rw [HX.out]; exact HNX.out _⟩
          case measure => simp [intOf]; omega
      · clear hM hbl
        go_wp2_with fail
        refine (HAL.out _).mono ?_
        rintro e w3 ⟨rfl, hb3⟩
        go_wp2_with fail
        go_ret
        exact ⟨rfl, btr HBL.out hb3 (Nat.le_refl _)⟩

end Go.Proofs.Ytdjfeibcbmelcaa
