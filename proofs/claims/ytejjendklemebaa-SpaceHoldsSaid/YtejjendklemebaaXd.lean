/- The statement about what was written: what its call returns. -/
import Derived.Test.YtejjendklemebaaXa
namespace Go.Proofs.Ytejjendklemebaa
open Go.RowKit

/-- The word q can be read, and holds v. -/
structure Held (m : Mo) (q : Nat) (v : Int) : Prop where
  lt : q < 32 * m.n
  s : m.st (q / 32) ≠ 0
  h : m.hd q = v

theorem putN_hd_out (m : Mo) (i : Nat) (f : Nat → Int) (q : Nat) : ∀ k, (q < i ∨ i + k ≤ q) → (putN m i f k).hd q = m.hd q
  | 0, _ => rfl
  | k + 1, h => by
    show upS (putN m i f k).hd (i + k) (f k) q = m.hd q
    unfold upS
    rw [if_neg (by omega), putN_hd_out m i f q k (by omega)]

theorem Held.put {m : Mo} {q i : Nat} {v : Int} (h : Held m q v) (f : Nat → Int) (k : Nat) (hq : q < i ∨ i + k ≤ q) : Held (putN m i f k) q v :=
  ⟨by rw [putN_n]; exact h.lt, putN_st i f _ h.s k, by rw [putN_hd_out m i f q k hq]; exact h.h⟩
theorem Held.set {m : Mo} {q : Nat} {v : Int} (h : Held m q v) (a b : Nat) (u : Int) (hq : ¬ (a ≤ q / 32 ∧ q / 32 < a + b)) : Held (setM m a b u) q v := by
  refine ⟨h.lt, ?_, ?_⟩
  · show (if a ≤ q / 32 ∧ q / 32 < a + b then u else m.st (q / 32)) ≠ 0
    rw [if_neg hq]; exact h.s
  · show (if a ≤ q / 32 ∧ q / 32 < a + b then 0 else m.hd q) = v
    rw [if_neg hq]; exact h.h
theorem Held.map {m : Mo} {q : Nat} {v : Int} (h : Held m q v) (a b : Int) : Held (mapD m a b) q v := by
  unfold mapD
  split
  · rename_i h1
    unfold mapE at h1
    by_cases hin : inM m a b = true
    · rw [if_pos hin] at h1
      by_cases hno : noneM m a.toNat b.toNat = true
      · refine h.set _ _ _ fun hq => ?_
        have := of_decide_eq_true hno (q / 32 - a.toNat) (by omega)
        rw [show a.toNat + (q / 32 - a.toNat) = q / 32 from by omega] at this
        exact h.s this
      · rw [if_neg hno] at h1; omega
    · rw [if_neg hin] at h1; omega
  · exact h
theorem Held.lose {m : Mo} {q : Nat} {v : Int} (h : Held m q v) (a b u : Int) (hq : loseE m a b = 0 → ¬ (a ≤ q / 32 ∧ (q : Int) / 32 < a + b)) : Held (loseD m a b u) q v := by
  unfold loseD
  split
  · rename_i h1
    have hin : inM m a b = true := by
      unfold loseE at h1
      by_cases hin : inM m a b = true
      · exact hin
      · rw [if_neg hin] at h1; omega
    obtain ⟨a', b', rfl, rfl, _, _⟩ := inM_bd hin
    have := hq h1
    exact h.set _ _ _ (by omega)
  · exact h
theorem Held.fill {m : Mo} {q : Nat} {v : Int} (h : Held m q v) (a k u : Int) (hq : chkE m k a = 0 → ¬ (a ≤ 8 * (q : Int) ∧ 8 * (q : Int) < a + k * 8)) : Held (fillD m a k u) q v := by
  unfold fillD
  split
  · rename_i h1
    obtain ⟨h2, h3, h4⟩ := chkE_zero h1
    have := hq h1
    rcases accM_run h4 h2 with rfl | ⟨i, j, rfl, rfl, h5, h6, h7⟩
    · exact h
    · exact h.put _ _ (by omega)
  · exact h
theorem Held.copy {m : Mo} {q : Nat} {v : Int} (h : Held m q v) (a b k : Int) (hq : chk2E m k a b = 0 → ¬ (a ≤ 8 * (q : Int) ∧ 8 * (q : Int) < a + k * 8)) : Held (copyD m a b k) q v := by
  unfold copyD
  split
  · rename_i h1
    obtain ⟨h2, h3, h4, _⟩ := chk2E_zero h1
    have := hq h1
    rcases accM_run h4 h2 with rfl | ⟨i, j, rfl, rfl, h5, h6, h7⟩
    · exact h
    · exact h.put _ _ (by omega)
  · exact h
theorem Held.first {m : Mo} {q : Nat} (v : Int) (hq : q < 32 * m.n) (hs : m.st (q / 32) ≠ 0) (hc : chkE m 1 (8 * (q : Int)) = 0) : Held (fillD m (8 * (q : Int)) 1 v) q v := by
  unfold fillD
  rw [if_pos hc, show (8 * (q : Int) / 8).toNat = q from by omega]
  refine ⟨hq, putN_st _ _ _ hs _, ?_⟩
  show upS m.hd (q + 0) v q = v
  unfold upS
  rw [if_pos (by omega)]
/-- What lies in the numbers of a call that was not refused. -/
theorem lose_bd {m : Mo} {a b : Int} (h : loseE m a b = 0) (hwf : WF m) : 0 ≤ a ∧ 1 ≤ b ∧ a + b ≤ 1024 := by
  have hin : inM m a b = true := by
    unfold loseE at h
    by_cases hin : inM m a b = true
    · exact hin
    · rw [if_neg hin] at h; omega
  have := of_decide_eq_true hin
  have := hwf.n2
  omega
theorem acc_bd {m : Mo} {a k : Int} (h : accM m a k = true) (hwf : WF m) (h0 : 0 ≤ k) : k = 0 ∨ 0 ≤ a ∧ a + k * 8 ≤ 262144 := by
  have := hwf.n2
  rcases accM_run h h0 with rfl | ⟨i, j, rfl, rfl, h5, h6, h7⟩
  · exact .inl rfl
  · exact .inr ⟨by omega, by omega⟩

theorem Held.read {O : Nat → Prop} {B : Nat} {m : Mo} {w : World} {q : Nat} {v : Int} (h : Sp w O B m) (hh : Held m q v) :
    Calls Try.prog 23 #[.pointer (some ⟨B, 0, none⟩), .int .i64 (8 * (q : Int))] w fun e w' => e = .returned (.tuple #[.int .i64 v, .int .i64 0]) ∧ Below w.heap.size w w' := by
  have hn := h.wf.n2
  have hq := hh.lt
  have ha : accM m (8 * (q : Int)) 1 = true := accM_at hh.lt hh.s
  refine (Read_any (8 * (q : Int)) h ⟨by omega, by omega⟩).mono fun e w' ⟨he, hb⟩ => ⟨?_, hb⟩
  rw [he]
  unfold rdV rdE
  rw [if_pos ha, if_pos ha, show (8 * (q : Int) / 8).toNat = q from by omega, hh.h]

set_option maxRecDepth 100000 in
set_option maxHeartbeats 4000000 in
theorem holds_walk (p : Int) (A A2 : Option Addr) (c c2 : Nat) (l l2 : List Ac) (ad v : Int) (w : World) (hp0 : 0 ≤ p) (hp1 : p ≤ 255) (hl : l.length ≤ 9223372036854775807) (hA : ActsAt w w.heap.size A l) (hl2 : l2.length ≤ 9223372036854775807) (hA2 : ActsAt w w.heap.size A2 l2) (had : InR ad) :
    Calls Try.prog 5 #[.int .u8 p, .slice A l.length c, .int .i64 ad, .int .i64 v, .slice A2 l2.length c2] w (Yes w) := by
  have HAL := Lib.hid alive_any
  obtain ⟨N0, hn⟩ : ∃ n : Nat, p % 64 + 1 = n := ⟨(p % 64 + 1).toNat, by omega⟩
  have HMD := Lib.hid (fun w => made'_any p none 0 N0 [] w hn hp0 hp1 (by simp) (ActsAt.nil _ _))
  obtain ⟨L, hL⟩ : ∃ L, L = l.length := ⟨_, rfl⟩
  have HL := Lib.hid hL
  rw [← hL] at hl ⊢
  obtain ⟨L2, hL2⟩ : ∃ L, L = l2.length := ⟨_, rfl⟩
  have HL2 := Lib.hid hL2
  rw [← hL2] at hl2 ⊢
  have HG := Lib.hid (fun w => great_any A L c w hl)
  have HG2 := Lib.hid (fun w => great_any A2 L2 c2 w hl2)
  have HA := Lib.hid hA
  have HA2 := Lib.hid hA2
  have HAD := Lib.hid had
  clear hA hL hn hL2 hA2 hp0 hp1
  by_cases h40 : 40 < L
  · rw [decide_eq_true h40] at HG
    go_enter Try.func5, Try.ntmps5
    go_wp2_with fail
    refine (HMD.out _).mono ?_; rintro e w1 ⟨B, rfl, hb1, hs1⟩
    go_wp2_with fail
    refine (HG.out _).mono ?_; rintro e _ ⟨rfl, rfl⟩
    go_wp2_with fail
    refine (HAL.out _).mono ?_; rintro e w2 ⟨rfl, hb2⟩
    go_wp2_with fail
    go_ret
    exact ⟨rfl, btr hb1 hb2 (Nat.le_refl _)⟩
  · rw [decide_eq_false h40] at HG
    by_cases h42 : 40 < L2
    · rw [decide_eq_true h42] at HG2
      clear h40
      go_enter Try.func5, Try.ntmps5
      go_wp2_with fail
      refine (HMD.out _).mono ?_; rintro e w1 ⟨B, rfl, hb1, hs1⟩
      go_wp2_with fail
      refine (HG.out _).mono ?_; rintro e _ ⟨rfl, rfl⟩
      go_wp2_with fail
      refine (HG2.out _).mono ?_; rintro e _ ⟨rfl, rfl⟩
      go_wp2_with fail
      refine (HAL.out _).mono ?_; rintro e w2 ⟨rfl, hb2⟩
      go_wp2_with fail
      go_ret
      exact ⟨rfl, btr hb1 hb2 (Nat.le_refl _)⟩
    · rw [decide_eq_false h42] at HG2
      have h41 : L ≤ 40 := by omega
      have h43 : L2 ≤ 40 := by omega
      clear h40 h42 hl hl2
      go_enter Try.func5, Try.ntmps5
      go_wp2_with fail
      refine (HMD.out _).mono ?_; rintro e w1 ⟨B, rfl, hb1, hs1⟩
      have HB1 := Lib.hid hb1
      have HS1 := Lib.hid hs1
      clear hb1 hs1
      go_wp2_with fail
      refine (HG.out _).mono ?_; rintro e _ ⟨rfl, rfl⟩
      go_wp2_with fail
      refine (HG2.out _).mono ?_; rintro e _ ⟨rfl, rfl⟩
      clear HMD HG HG2
      go_wp2_with fail
      go_loopw [12] (fun i wr => ∃ (k : Nat) (m : Mo), k ≤ L ∧ i = .int .i64 k ∧ Mut w1 (Nw w w1) B m wr) (fun i _ => L - (intOf i).toNat)
      case atStart => exact ⟨0, _, by omega, rfl, Mut.same HS1.out (Below.refl _ _)⟩
      case round =>
        obtain ⟨k, m, hk, rfl, hM⟩ := hrel
        have HM := Lib.hid hM
        have hbl := hM.bel HB1.out nwlo
        by_cases hlt : k < L
        · obtain ⟨x, hx⟩ : ∃ x, l[k]? = some x := ⟨_, List.getElem?_eq_getElem (by have := HL.out; omega)⟩
          obtain ⟨hr, b, o, rfl, hB, g1, g2, g3, g4⟩ := (HA.out.below hbl) k x hx
          have HD := Lib.hid (do_at x hM.1 hr)
          clear hM hx hr hbl
          go_wp2_with fail
          refine HD.out.mono ?_
          rintro e w2 ⟨rfl, hM2⟩
          have HM2 := Lib.hid hM2
          clear hM2
          go_wp2_with fail
          go_roundw
          case rel => exact ⟨k + 1, _, by omega, by go_num, HM.out.trans HM2.out⟩
          case measure => simp [intOf]; omega
        · have HBL := Lib.hid hbl
          clear hM hbl
          have HW := Lib.hid (Write_any ad v HM.out.1 HAD.out)
          by_cases hE : chkE m 1 ad = 0
          · rw [hE] at HW
            obtain ⟨q, rfl, hq, hs⟩ := accM_one (chkE_zero hE).2.2
            have hq2 : q < 32768 := by have := HM.out.1.wf.n2; omega
            have HH := Lib.hid (Held.first v hq hs hE)
            clear hE hq hs
            go_wp2_with fail
            refine HW.out.mono ?_
            rintro e w2 ⟨rfl, hM2⟩
            have HM2 := Lib.hid (HM.out.trans hM2)
            clear hM2 HM HW HBL
            go_wp2_with fail
            go_loopw [14] (fun i wr => ∃ (k : Nat) (m : Mo), k ≤ L2 ∧ i = .int .i64 k ∧ Held m q v ∧ Mut w1 (Nw w w1) B m wr) (fun i _ => L2 - (intOf i).toNat)
            case atStart => exact ⟨0, _, by omega, rfl, HH.out, HM2.out⟩
            clear HM2 HH
            case round =>
              obtain ⟨k, m, hk, rfl, hh, hM⟩ := hrel
              have HM := Lib.hid hM
              have HH := Lib.hid hh
              have hbl := hM.bel HB1.out nwlo
              have HBL := Lib.hid hbl
              by_cases hlt : k < L2
              · obtain ⟨x, hx⟩ : ∃ x, l2[k]? = some x := ⟨_, List.getElem?_eq_getElem (by have := HL2.out; omega)⟩
                obtain ⟨hr, b, o, rfl, hB, g1, g2, g3, g4⟩ := (HA2.out.below hbl) k x hx
                have HR := Lib.hid hr
                clear hM hh hx hr hbl
                obtain ⟨kk, xa, xb, xc⟩ := x
                dsimp only at g1 g2 g3 g4
                obtain ⟨W2, hW, hb0, hz, c0, c1, c2', c3⟩ := new4 wr (.int .i64 kk) (.int .i64 xa) (.int .i64 xb) (.int .i64 xc) 30
                have hs2 := HM.out.1.below hb0
                have HD := Lib.hid (do_at _ hs2 HR.out)
                have HB0 := Lib.hid hb0
                have hra := HR.out.a
                have hra2 : -9223372036854775808 ≤ xa ∧ xa ≤ 9223372036854775807 := hra
                obtain ⟨xa1, xa2⟩ := hra2
                clear hs2 hb0 hra
                go_wp2_with fail
                clear hW g1 g2 g3 g4
                refine HD.out.mono ?_
                rintro e w3 ⟨rfl, hM3⟩
                have hbx : w3.heap[wr.heap.size]? = W2.heap[wr.heap.size]? := hM3.2.block _ hz (fun hx => by
                  have h1 := HM.out.2.size
                  have h2 := HB1.out.size
                  rcases hx with hx | hx
                  · have := hx.2; omega
                  · have := hx.2; omega)
                have d0 := (World.cell?_of_block (w := W2) (w' := w3) (a := ⟨wr.heap.size, 0, none⟩) hbx).trans c0
                have d1 := (World.cell?_of_block (w := W2) (w' := w3) (a := ⟨wr.heap.size, 1, none⟩) hbx).trans c1
                have d2 := (World.cell?_of_block (w := W2) (w' := w3) (a := ⟨wr.heap.size, 2, none⟩) hbx).trans c2'
                have d3 := (World.cell?_of_block (w := W2) (w' := w3) (a := ⟨wr.heap.size, 3, none⟩) hbx).trans c3
                have HMN := Lib.hid (HM.out.trans (Mut.after HB0.out hM3))
                have HBN := Lib.hid (HMN.out.bel HB1.out nwlo)
                clear hM3 hbx c0 c1 c2' c3 hz HD
                have hkk : kk = 1 ∨ kk = 2 ∨ kk = 4 ∨ kk = 6 ∨ kk = 7 ∨ ¬ (kk = 1 ∨ kk = 2 ∨ kk = 4 ∨ kk = 6 ∨ kk = 7) := by omega
                rcases hkk with rfl | rfl | rfl | rfl | rfl | hkk
                · rw [show doE m ⟨1, xa, xb, xc⟩ = loseE m xa xb from rfl]
                  by_cases hE : loseE m xa xb = 0
                  · obtain ⟨ba, bb, bc⟩ := lose_bd hE HM.out.1.wf
                    rw [hE]
                    clear hE
                    by_cases p1 : xa ≤ 8 * (q : Int) / 256
                    · by_cases p2 : 8 * (q : Int) / 256 < xa + xb
                      · go_wp2_with fail
                        refine (HAL.out _).mono ?_
                        rintro e w5 ⟨rfl, hb5⟩
                        go_wp2_with fail
                        go_ret
                        exact ⟨rfl, btr HBN.out hb5 (Nat.le_refl _)⟩
                      · have HH2 := Lib.hid (show Held (doM m ⟨1, xa, xb, xc⟩) q v from HH.out.lose xa xb 0 (fun _ => by omega))
                        have HRD := Lib.hid (fun w' (hb : Below w3.heap.size w3 w') => Held.read (HMN.out.1.below hb) HH2.out)
                        go_wp2_with fail
                        go_region
                        go_wp2_with fail
                        refine (HRD.out _ (belowN (Below.refl _ _) _)).mono ?_
                        rintro e w4 ⟨rfl, hb4⟩
                        go_wp2_with fail
                        go_roundw
                        case rel => exact ⟨k + 1, _, by omega, by go_num, HH2.out, HMN.out.then (btr (belowN (Below.refl _ _) _) hb4 (Nat.le_refl _))⟩
                        case measure => simp [intOf]; omega
                    · have HH2 := Lib.hid (show Held (doM m ⟨1, xa, xb, xc⟩) q v from HH.out.lose xa xb 0 (fun _ => by omega))
                      have HRD := Lib.hid (fun w' (hb : Below w3.heap.size w3 w') => Held.read (HMN.out.1.below hb) HH2.out)
                      go_wp2_with fail
                      go_region
                      go_wp2_with fail
                      refine (HRD.out _ (belowN (Below.refl _ _) _)).mono ?_
                      rintro e w4 ⟨rfl, hb4⟩
                      go_wp2_with fail
                      go_roundw
                      case rel => exact ⟨k + 1, _, by omega, by go_num, HH2.out, HMN.out.then (btr (belowN (Below.refl _ _) _) hb4 (Nat.le_refl _))⟩
                      case measure => simp [intOf]; omega
                  · have HH2 := Lib.hid (show Held (doM m ⟨1, xa, xb, xc⟩) q v from by rw [do_err (m := m) (x := ⟨1, xa, xb, xc⟩) hE]; exact HH.out)
                    generalize loseE m xa xb = E at hE
                    have hq : (E == 0) = false := by simpa using hE
                    clear hE
                    have HRD := Lib.hid (fun w' (hb : Below w3.heap.size w3 w') => Held.read (HMN.out.1.below hb) HH2.out)
                    go_wp2_with fail
                    go_region
                    go_wp2_with fail
                    refine (HRD.out _ (belowN (Below.refl _ _) _)).mono ?_
                    rintro e w4 ⟨rfl, hb4⟩
                    go_wp2_with fail
                    go_roundw
                    case rel => exact ⟨k + 1, _, by omega, by go_num, HH2.out, HMN.out.then (btr (belowN (Below.refl _ _) _) hb4 (Nat.le_refl _))⟩
                    case measure => simp [intOf]; omega
                · rw [show doE m ⟨2, xa, xb, xc⟩ = loseE m xa xb from rfl]
                  by_cases hE : loseE m xa xb = 0
                  · obtain ⟨ba, bb, bc⟩ := lose_bd hE HM.out.1.wf
                    rw [hE]
                    clear hE
                    by_cases p1 : xa ≤ 8 * (q : Int) / 256
                    · by_cases p2 : 8 * (q : Int) / 256 < xa + xb
                      · go_wp2_with fail
                        refine (HAL.out _).mono ?_
                        rintro e w5 ⟨rfl, hb5⟩
                        go_wp2_with fail
                        go_ret
                        exact ⟨rfl, btr HBN.out hb5 (Nat.le_refl _)⟩
                      · have HH2 := Lib.hid (show Held (doM m ⟨2, xa, xb, xc⟩) q v from HH.out.lose xa xb 1 (fun _ => by omega))
                        have HRD := Lib.hid (fun w' (hb : Below w3.heap.size w3 w') => Held.read (HMN.out.1.below hb) HH2.out)
                        go_wp2_with fail
                        go_region
                        go_wp2_with fail
                        refine (HRD.out _ (belowN (Below.refl _ _) _)).mono ?_
                        rintro e w4 ⟨rfl, hb4⟩
                        go_wp2_with fail
                        go_roundw
                        case rel => exact ⟨k + 1, _, by omega, by go_num, HH2.out, HMN.out.then (btr (belowN (Below.refl _ _) _) hb4 (Nat.le_refl _))⟩
                        case measure => simp [intOf]; omega
                    · have HH2 := Lib.hid (show Held (doM m ⟨2, xa, xb, xc⟩) q v from HH.out.lose xa xb 1 (fun _ => by omega))
                      have HRD := Lib.hid (fun w' (hb : Below w3.heap.size w3 w') => Held.read (HMN.out.1.below hb) HH2.out)
                      go_wp2_with fail
                      go_region
                      go_wp2_with fail
                      refine (HRD.out _ (belowN (Below.refl _ _) _)).mono ?_
                      rintro e w4 ⟨rfl, hb4⟩
                      go_wp2_with fail
                      go_roundw
                      case rel => exact ⟨k + 1, _, by omega, by go_num, HH2.out, HMN.out.then (btr (belowN (Below.refl _ _) _) hb4 (Nat.le_refl _))⟩
                      case measure => simp [intOf]; omega
                  · have HH2 := Lib.hid (show Held (doM m ⟨2, xa, xb, xc⟩) q v from by rw [do_err (m := m) (x := ⟨2, xa, xb, xc⟩) hE]; exact HH.out)
                    generalize loseE m xa xb = E at hE
                    have hq : (E == 0) = false := by simpa using hE
                    clear hE
                    have HRD := Lib.hid (fun w' (hb : Below w3.heap.size w3 w') => Held.read (HMN.out.1.below hb) HH2.out)
                    go_wp2_with fail
                    go_region
                    go_wp2_with fail
                    refine (HRD.out _ (belowN (Below.refl _ _) _)).mono ?_
                    rintro e w4 ⟨rfl, hb4⟩
                    go_wp2_with fail
                    go_roundw
                    case rel => exact ⟨k + 1, _, by omega, by go_num, HH2.out, HMN.out.then (btr (belowN (Below.refl _ _) _) hb4 (Nat.le_refl _))⟩
                    case measure => simp [intOf]; omega
                · rw [show doE m ⟨4, xa, xb, xc⟩ = chkE m 1 xa from rfl]
                  by_cases hE : chkE m 1 xa = 0
                  · have hbd := acc_bd (chkE_zero hE).2.2 HM.out.1.wf (by omega)
                    obtain ⟨hb1, hb2⟩ : 0 ≤ xa ∧ xa + 1 * 8 ≤ 262144 := by omega
                    clear hbd
                    rw [hE]
                    clear hE
                    by_cases p1 : xa ≤ 8 * (q : Int)
                    · by_cases p2 : 8 * (q : Int) < xa + 1 * 8
                      · go_wp2_with fail
                        go_region
                        go_wp2_with fail
                        refine (HAL.out _).mono ?_
                        rintro e w5 ⟨rfl, hb5⟩
                        go_wp2_with fail
                        go_ret
                        exact ⟨rfl, btr HBN.out (btr (belowN (Below.refl _ _) _) hb5 (Nat.le_refl _)) (Nat.le_refl _)⟩
                      · have HH2 := Lib.hid (show Held (doM m ⟨4, xa, xb, xc⟩) q v from HH.out.fill xa 1 xb (fun _ => by omega))
                        have HRD := Lib.hid (fun w' (hb : Below w3.heap.size w3 w') => Held.read (HMN.out.1.below hb) HH2.out)
                        go_wp2_with fail
                        go_region
                        go_wp2_with fail
                        refine (HRD.out _ (belowN (Below.refl _ _) _)).mono ?_
                        rintro e w4 ⟨rfl, hb4⟩
                        go_wp2_with fail
                        go_roundw
                        case rel => exact ⟨k + 1, _, by omega, by go_num, HH2.out, HMN.out.then (btr (belowN (Below.refl _ _) _) hb4 (Nat.le_refl _))⟩
                        case measure => simp [intOf]; omega
                    · have HH2 := Lib.hid (show Held (doM m ⟨4, xa, xb, xc⟩) q v from HH.out.fill xa 1 xb (fun _ => by omega))
                      have HRD := Lib.hid (fun w' (hb : Below w3.heap.size w3 w') => Held.read (HMN.out.1.below hb) HH2.out)
                      go_wp2_with fail
                      go_region
                      go_wp2_with fail
                      refine (HRD.out _ (belowN (Below.refl _ _) _)).mono ?_
                      rintro e w4 ⟨rfl, hb4⟩
                      go_wp2_with fail
                      go_roundw
                      case rel => exact ⟨k + 1, _, by omega, by go_num, HH2.out, HMN.out.then (btr (belowN (Below.refl _ _) _) hb4 (Nat.le_refl _))⟩
                      case measure => simp [intOf]; omega
                  · have HH2 := Lib.hid (show Held (doM m ⟨4, xa, xb, xc⟩) q v from by rw [do_err (m := m) (x := ⟨4, xa, xb, xc⟩) hE]; exact HH.out)
                    generalize chkE m 1 xa = E at hE
                    have hq : (E == 0) = false := by simpa using hE
                    clear hE
                    have HRD := Lib.hid (fun w' (hb : Below w3.heap.size w3 w') => Held.read (HMN.out.1.below hb) HH2.out)
                    go_wp2_with fail
                    go_region
                    go_wp2_with fail
                    refine (HRD.out _ (belowN (Below.refl _ _) _)).mono ?_
                    rintro e w4 ⟨rfl, hb4⟩
                    go_wp2_with fail
                    go_roundw
                    case rel => exact ⟨k + 1, _, by omega, by go_num, HH2.out, HMN.out.then (btr (belowN (Below.refl _ _) _) hb4 (Nat.le_refl _))⟩
                    case measure => simp [intOf]; omega
                · rw [show doE m ⟨6, xa, xb, xc⟩ = chkE m xb xa from rfl]
                  by_cases hE : chkE m xb xa = 0
                  · have hw0 := chkE_zero hE
                    have hbd := acc_bd hw0.2.2 HM.out.1.wf hw0.1
                    obtain ⟨hw1, hw2, _⟩ := hw0
                    rw [hE]
                    clear hE
                    rcases hbd with rfl | ⟨hb1, hb2⟩
                    · by_cases p1 : xa ≤ 8 * (q : Int)
                      · have HH2 := Lib.hid (show Held (doM m ⟨6, xa, 0, xc⟩) q v from HH.out.fill xa 0 xc (fun _ => by omega))
                        have HRD := Lib.hid (fun w' (hb : Below w3.heap.size w3 w') => Held.read (HMN.out.1.below hb) HH2.out)
                        go_wp2_with fail
                        go_region
                        go_wp2_with fail
                        refine (HRD.out _ (belowN (Below.refl _ _) _)).mono ?_
                        rintro e w4 ⟨rfl, hb4⟩
                        go_wp2_with fail
                        go_roundw
                        case rel => exact ⟨k + 1, _, by omega, by go_num, HH2.out, HMN.out.then (btr (belowN (Below.refl _ _) _) hb4 (Nat.le_refl _))⟩
                        case measure => simp [intOf]; omega
                      · have HH2 := Lib.hid (show Held (doM m ⟨6, xa, 0, xc⟩) q v from HH.out.fill xa 0 xc (fun _ => by omega))
                        have HRD := Lib.hid (fun w' (hb : Below w3.heap.size w3 w') => Held.read (HMN.out.1.below hb) HH2.out)
                        go_wp2_with fail
                        go_region
                        go_wp2_with fail
                        refine (HRD.out _ (belowN (Below.refl _ _) _)).mono ?_
                        rintro e w4 ⟨rfl, hb4⟩
                        go_wp2_with fail
                        go_roundw
                        case rel => exact ⟨k + 1, _, by omega, by go_num, HH2.out, HMN.out.then (btr (belowN (Below.refl _ _) _) hb4 (Nat.le_refl _))⟩
                        case measure => simp [intOf]; omega
                    · by_cases p1 : xa ≤ 8 * (q : Int)
                      · by_cases p2 : 8 * (q : Int) < xa + xb * 8
                        · go_wp2_with fail
                          go_region
                          go_wp2_with fail
                          refine (HAL.out _).mono ?_
                          rintro e w5 ⟨rfl, hb5⟩
                          go_wp2_with fail
                          go_ret
                          exact ⟨rfl, btr HBN.out (btr (belowN (Below.refl _ _) _) hb5 (Nat.le_refl _)) (Nat.le_refl _)⟩
                        · have HH2 := Lib.hid (show Held (doM m ⟨6, xa, xb, xc⟩) q v from HH.out.fill xa xb xc (fun _ => by omega))
                          have HRD := Lib.hid (fun w' (hb : Below w3.heap.size w3 w') => Held.read (HMN.out.1.below hb) HH2.out)
                          go_wp2_with fail
                          go_region
                          go_wp2_with fail
                          refine (HRD.out _ (belowN (Below.refl _ _) _)).mono ?_
                          rintro e w4 ⟨rfl, hb4⟩
                          go_wp2_with fail
                          go_roundw
                          case rel => exact ⟨k + 1, _, by omega, by go_num, HH2.out, HMN.out.then (btr (belowN (Below.refl _ _) _) hb4 (Nat.le_refl _))⟩
                          case measure => simp [intOf]; omega
                      · have HH2 := Lib.hid (show Held (doM m ⟨6, xa, xb, xc⟩) q v from HH.out.fill xa xb xc (fun _ => by omega))
                        have HRD := Lib.hid (fun w' (hb : Below w3.heap.size w3 w') => Held.read (HMN.out.1.below hb) HH2.out)
                        go_wp2_with fail
                        go_region
                        go_wp2_with fail
                        refine (HRD.out _ (belowN (Below.refl _ _) _)).mono ?_
                        rintro e w4 ⟨rfl, hb4⟩
                        go_wp2_with fail
                        go_roundw
                        case rel => exact ⟨k + 1, _, by omega, by go_num, HH2.out, HMN.out.then (btr (belowN (Below.refl _ _) _) hb4 (Nat.le_refl _))⟩
                        case measure => simp [intOf]; omega
                  · have HH2 := Lib.hid (show Held (doM m ⟨6, xa, xb, xc⟩) q v from by rw [do_err (m := m) (x := ⟨6, xa, xb, xc⟩) hE]; exact HH.out)
                    generalize chkE m xb xa = E at hE
                    have hq : (E == 0) = false := by simpa using hE
                    clear hE
                    have HRD := Lib.hid (fun w' (hb : Below w3.heap.size w3 w') => Held.read (HMN.out.1.below hb) HH2.out)
                    go_wp2_with fail
                    go_region
                    go_wp2_with fail
                    refine (HRD.out _ (belowN (Below.refl _ _) _)).mono ?_
                    rintro e w4 ⟨rfl, hb4⟩
                    go_wp2_with fail
                    go_roundw
                    case rel => exact ⟨k + 1, _, by omega, by go_num, HH2.out, HMN.out.then (btr (belowN (Below.refl _ _) _) hb4 (Nat.le_refl _))⟩
                    case measure => simp [intOf]; omega
                · rw [show doE m ⟨7, xa, xb, xc⟩ = chk2E m xc xa xb from rfl]
                  by_cases hE : chk2E m xc xa xb = 0
                  · have hw0 := chk2E_zero hE
                    have hbd := acc_bd hw0.2.2.1 HM.out.1.wf hw0.1
                    obtain ⟨hw1, hw2, _, _⟩ := hw0
                    rw [hE]
                    clear hE
                    rcases hbd with rfl | ⟨hb1, hb2⟩
                    · by_cases p1 : xa ≤ 8 * (q : Int)
                      · have HH2 := Lib.hid (show Held (doM m ⟨7, xa, xb, 0⟩) q v from HH.out.copy xa xb 0 (fun _ => by omega))
                        have HRD := Lib.hid (fun w' (hb : Below w3.heap.size w3 w') => Held.read (HMN.out.1.below hb) HH2.out)
                        go_wp2_with fail
                        go_region
                        go_wp2_with fail
                        refine (HRD.out _ (belowN (Below.refl _ _) _)).mono ?_
                        rintro e w4 ⟨rfl, hb4⟩
                        go_wp2_with fail
                        go_roundw
                        case rel => exact ⟨k + 1, _, by omega, by go_num, HH2.out, HMN.out.then (btr (belowN (Below.refl _ _) _) hb4 (Nat.le_refl _))⟩
                        case measure => simp [intOf]; omega
                      · have HH2 := Lib.hid (show Held (doM m ⟨7, xa, xb, 0⟩) q v from HH.out.copy xa xb 0 (fun _ => by omega))
                        have HRD := Lib.hid (fun w' (hb : Below w3.heap.size w3 w') => Held.read (HMN.out.1.below hb) HH2.out)
                        go_wp2_with fail
                        go_region
                        go_wp2_with fail
                        refine (HRD.out _ (belowN (Below.refl _ _) _)).mono ?_
                        rintro e w4 ⟨rfl, hb4⟩
                        go_wp2_with fail
                        go_roundw
                        case rel => exact ⟨k + 1, _, by omega, by go_num, HH2.out, HMN.out.then (btr (belowN (Below.refl _ _) _) hb4 (Nat.le_refl _))⟩
                        case measure => simp [intOf]; omega
                    · by_cases p1 : xa ≤ 8 * (q : Int)
                      · by_cases p2 : 8 * (q : Int) < xa + xc * 8
                        · go_wp2_with fail
                          go_region
                          go_wp2_with fail
                          refine (HAL.out _).mono ?_
                          rintro e w5 ⟨rfl, hb5⟩
                          go_wp2_with fail
                          go_ret
                          exact ⟨rfl, btr HBN.out (btr (belowN (Below.refl _ _) _) hb5 (Nat.le_refl _)) (Nat.le_refl _)⟩
                        · have HH2 := Lib.hid (show Held (doM m ⟨7, xa, xb, xc⟩) q v from HH.out.copy xa xb xc (fun _ => by omega))
                          have HRD := Lib.hid (fun w' (hb : Below w3.heap.size w3 w') => Held.read (HMN.out.1.below hb) HH2.out)
                          go_wp2_with fail
                          go_region
                          go_wp2_with fail
                          refine (HRD.out _ (belowN (Below.refl _ _) _)).mono ?_
                          rintro e w4 ⟨rfl, hb4⟩
                          go_wp2_with fail
                          go_roundw
                          case rel => exact ⟨k + 1, _, by omega, by go_num, HH2.out, HMN.out.then (btr (belowN (Below.refl _ _) _) hb4 (Nat.le_refl _))⟩
                          case measure => simp [intOf]; omega
                      · have HH2 := Lib.hid (show Held (doM m ⟨7, xa, xb, xc⟩) q v from HH.out.copy xa xb xc (fun _ => by omega))
                        have HRD := Lib.hid (fun w' (hb : Below w3.heap.size w3 w') => Held.read (HMN.out.1.below hb) HH2.out)
                        go_wp2_with fail
                        go_region
                        go_wp2_with fail
                        refine (HRD.out _ (belowN (Below.refl _ _) _)).mono ?_
                        rintro e w4 ⟨rfl, hb4⟩
                        go_wp2_with fail
                        go_roundw
                        case rel => exact ⟨k + 1, _, by omega, by go_num, HH2.out, HMN.out.then (btr (belowN (Below.refl _ _) _) hb4 (Nat.le_refl _))⟩
                        case measure => simp [intOf]; omega
                  · have HH2 := Lib.hid (show Held (doM m ⟨7, xa, xb, xc⟩) q v from by rw [do_err (m := m) (x := ⟨7, xa, xb, xc⟩) hE]; exact HH.out)
                    generalize chk2E m xc xa xb = E at hE
                    have hq : (E == 0) = false := by simpa using hE
                    clear hE
                    have HRD := Lib.hid (fun w' (hb : Below w3.heap.size w3 w') => Held.read (HMN.out.1.below hb) HH2.out)
                    go_wp2_with fail
                    go_region
                    go_wp2_with fail
                    refine (HRD.out _ (belowN (Below.refl _ _) _)).mono ?_
                    rintro e w4 ⟨rfl, hb4⟩
                    go_wp2_with fail
                    go_roundw
                    case rel => exact ⟨k + 1, _, by omega, by go_num, HH2.out, HMN.out.then (btr (belowN (Below.refl _ _) _) hb4 (Nat.le_refl _))⟩
                    case measure => simp [intOf]; omega
                · have hE : doM m ⟨kk, xa, xb, xc⟩ = m ∨ doM m ⟨kk, xa, xb, xc⟩ = mapD m xa xb := by
                    unfold doM
                    dsimp only
                    rw [if_neg (show ¬ kk = 1 by omega), if_neg (show ¬ kk = 2 by omega), if_neg (show ¬ kk = 4 by omega), if_neg (show ¬ kk = 6 by omega), if_neg (show ¬ kk = 7 by omega)]
                    split
                    · exact .inr rfl
                    · exact .inl rfl
                  have HH2 := Lib.hid (show Held (doM m ⟨kk, xa, xb, xc⟩) q v from by
                    rcases hE with hE | hE
                    · rw [hE]; exact HH.out
                    · rw [hE]; exact HH.out.map xa xb)
                  clear hE
                  generalize doE m ⟨kk, xa, xb, xc⟩ = E
                  have k1 : (kk == 1) = false := by simp; omega
                  have k2 : (kk == 2) = false := by simp; omega
                  have k4 : (kk == 4) = false := by simp; omega
                  have k6 : (kk == 6) = false := by simp; omega
                  have k7 : (kk == 7) = false := by simp; omega
                  clear hkk
                  by_cases hE : E = 0
                  · subst hE
                    have HRD := Lib.hid (fun w' (hb : Below w3.heap.size w3 w') => Held.read (HMN.out.1.below hb) HH2.out)
                    go_wp2_with fail
                    go_region
                    go_wp2_with fail
                    refine (HRD.out _ (belowN (Below.refl _ _) _)).mono ?_
                    rintro e w4 ⟨rfl, hb4⟩
                    go_wp2_with fail
                    go_roundw
                    case rel => exact ⟨k + 1, _, by omega, by go_num, HH2.out, HMN.out.then (btr (belowN (Below.refl _ _) _) hb4 (Nat.le_refl _))⟩
                    case measure => simp [intOf]; omega
                  · have hq : (E == 0) = false := by simpa using hE
                    clear hE
                    have HRD := Lib.hid (fun w' (hb : Below w3.heap.size w3 w') => Held.read (HMN.out.1.below hb) HH2.out)
                    go_wp2_with fail
                    go_region
                    go_wp2_with fail
                    refine (HRD.out _ (belowN (Below.refl _ _) _)).mono ?_
                    rintro e w4 ⟨rfl, hb4⟩
                    go_wp2_with fail
                    go_roundw
                    case rel => exact ⟨k + 1, _, by omega, by go_num, HH2.out, HMN.out.then (btr (belowN (Below.refl _ _) _) hb4 (Nat.le_refl _))⟩
                    case measure => simp [intOf]; omega
              · clear hM hh hbl
                go_wp2_with fail
                refine (HAL.out _).mono ?_
                rintro e w5 ⟨rfl, hb5⟩
                go_wp2_with fail
                go_ret
                exact ⟨rfl, btr HBL.out hb5 (Nat.le_refl _)⟩
          · generalize chkE m 1 ad = E at hE HW
            have hq : (E == 0) = false := by simpa using hE
            have hq' : (E != 0) = true := by simpa using hE
            clear hE
            go_wp2_with fail
            refine HW.out.mono ?_
            rintro e w2 ⟨rfl, hM2⟩
            have HM2 := Lib.hid (HM.out.trans hM2)
            clear hM2
            go_wp2_with fail
            refine (HAL.out _).mono ?_
            rintro e w5 ⟨rfl, hb5⟩
            go_wp2_with fail
            go_ret
            exact ⟨rfl, btr (HM2.out.bel HB1.out nwlo) hb5 (Nat.le_refl _)⟩

end Go.Proofs.Ytejjendklemebaa
