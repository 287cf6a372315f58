/- The reference's tracker: Plan. -/
import Derived.Test.YtecfjibmpbgllaaGg
import Derived.Test.YtecfjibmpbgllaaMe
namespace Go.Proofs.Ytecfjibmpbgllaa
open Go.RowKit

theorem w64g (a : Int) (h : -9223372036854775808 ≤ a ∧ a ≤ 9223372036854775807) : wrap64 a = a ∧ IntKind.i64.wrap a = a := ⟨IntWalk.wrap64_in _ h, IntWalk.i64_in _ h⟩
theorem w64c (a b : Int) (e : a = b) (h : -9223372036854775808 ≤ a ∧ a ≤ 9223372036854775807) : wrap64 a = b ∧ IntKind.i64.wrap a = b := e ▸ w64g a h
theorem pl_endg {w : Int} {c : Nat} (h : w ≤ c) : ∀ b, pl w b c = []
  | [] => rfl
  | _ :: _ => if_pos h
theorem pl_go {w : Int} {c : Nat} (h : ¬ w ≤ c) (r : Nat × Nat) (t : List (Nat × Nat)) : pl w (r :: t) c = r :: pl w t (c + r.2) := if_neg h
theorem allR_drop (S : Nat → Nat) {l : List Nat} {i k : Nat} (h : l[i]? = some k) : allR S (l.drop i) = rs S (16 * k) 16 0 ++ allR S (l.drop (i + 1)) := by
  obtain ⟨hlt, e⟩ := List.getElem?_eq_some_iff.1 h
  rw [List.drop_eq_getElem_cons hlt, e]
  rfl
theorem rs_miss {S : Nat → Nat} {p n : Nat} (h : S p ≠ 2) : rs S p (n + 1) 0 = rs S (p + 1) n 0 := if_neg h

/-- Where Plan stands. -/
structure PgR (N : Nat) (w wr : World) (W : Int) (P D REM : List (Nat × Nat)) (b c : Nat) (v : Value) : Prop where
  e : P = D ++ pl W REM c
  c : c ≤ b
  d : D.length ≤ b
  own : wr.ownsRow N 55 2 v D.length (cellsR D)
  bel : Below w.heap.size w wr
theorem PgR.rem {N : Nat} {w wr : World} {W : Int} {P D R R' : List (Nat × Nat)} {b b' c : Nat} {v : Value} (h : PgR N w wr W P D R b c v) (e : pl W R c = pl W R' c) (hb : b ≤ b') : PgR N w wr W P D R' b' c v :=
  ⟨by rw [h.e, e], Nat.le_trans h.c hb, Nat.le_trans h.d hb, h.own, h.bel⟩

theorem PgR.add {N : Nat} {w wr w5 : World} {W : Int} {S : Nat → Nat} {P D REST : List (Nat × Nat)} {s t p q a j : Nat} {v v' : Value} (h : PgR N w wr W P D (rs S (s + t) (16 - t) 0 ++ REST) (16 * q + min t 16) a v)
    (hw : ¬ W ≤ (a : Int)) (ht : t < 16) (hj : t + j ≤ 16) (hj1 : 1 ≤ j) (hp : s + t = p) (hall : ∀ x, x < j → S (p + x) = 2) (hst : t + j < 16 → S (p + j) ≠ 2)
    (ho : w5.ownsRow N 55 2 v' (D.length + 1) (cellsR D ++ [.int .i64 (p : Int), .int .i64 (j : Int)])) (hb : Below w.heap.size w w5) :
    PgR N w w5 W P (D ++ [(p, j)]) (rs S (s + (t + j + 1)) (16 - (t + j + 1)) 0 ++ REST) (16 * q + min (t + j + 1) 16) (a + j) v' := by
  have e := h.e
  rw [hp, rs_step (k := j) (by omega) (by omega) hall (fun hk => hst (by omega)), if_neg (by omega), List.append_assoc, List.singleton_append, pl_go hw] at e
  refine ⟨?_, ?_, ?_, ?_, hb⟩
  · rw [e, show p + (j + 1) = s + (t + j + 1) by omega, show 16 - t - (j + 1) = 16 - (t + j + 1) by omega, List.append_assoc]; rfl
  · have := h.c; omega
  · have := h.d; rw [List.length_append]; simp only [List.length_cons, List.length_nil]; omega
  · rw [List.length_append, cellsR_app]; exact ho

set_option maxRecDepth 100000 in
set_option maxHeartbeats 4000000 in
theorem rPlan_any {O : Nat → Prop} {B : Nat} {m : Mo} {w : World} (W : Int) (hW : 0 ≤ W) (h : Rf w O B m) :
    Calls Try.prog 47 #[.pointer (some ⟨B, 0, none⟩), .int .i64 W] w fun e w' => ∃ A c, e = .returned (.tuple #[.slice A (planM m W).length c, .int .i64 0]) ∧ RunsAt w' w.heap.size A (planM m W) ∧ Below w.heap.size w w' := by
  have HM := Lib.hid (rmade_any h)
  have HOR := Lib.hid (rOrdered_any h)
  have h2 := h.wf.h2
  have hok := ordN_ok m.S m.h h2
  have hlen := ordN_len m.S m.h
  have HS := Lib.hid (fun (w' : World) (hb : Below w.heap.size w w') => h.below hb)
  have HLT := Lib.hid (fun i k (e : (ordN m.S m.h)[i]? = some k) => ordN_lt m.S h2 k (List.mem_of_getElem? e))
  have HPL := Lib.hid (show planM m W = [] ++ pl W (allR m.S ((ordN m.S m.h).drop 0)) 0 from rfl)
  generalize planM m W = P at *
  generalize ordN m.S m.h = L at *
  obtain ⟨i0, hi, hz0, hz1, hz2⟩ := info_parts Try.info55
  have HI := Lib.hid (And.intro hi (And.intro hz0 (And.intro hz1 hz2)))
  obtain ⟨n, hn⟩ : ∃ n, L.length = n := ⟨_, rfl⟩
  have HN := Lib.hid hn
  rw [hn] at hlen
  have hwn : decide (W < 0) = false := decide_eq_false (by omega)
  clear h hi hz0 hz1 hz2 hok hn
  go_enter Try.func47, Try.ntmps47
  go_wp2_with fail
  refine HM.out.mono ?_
  rintro e _ ⟨rfl, rfl⟩
  go_wp2_with fail
  refine HOR.out.mono ?_
  rintro e w1 ⟨A1, c1, rfl, hA1, hb1⟩
  have HA1 := Lib.hid hA1
  have HB1 := Lib.hid hb1
  clear hA1 hb1
  rw [HN.out]
  go_wp2_with fail
  go_loopw [6, 8, 9] (fun v c i wr => ∃ (q a : Nat) (D : List (Nat × Nat)), q ≤ n ∧ i = .int .i64 q ∧ c = .int .i64 a ∧ PgR w1.heap.size w wr W P D (allR m.S (L.drop q)) (16 * q) a v ∧ Below w1.heap.size w1 wr) (fun _ _ i _ => n - (intOf i).toNat)
  case atStart => exact ⟨0, 0, [], by omega, rfl, rfl, ⟨HPL.out, Nat.zero_le _, Nat.zero_le _, ⟨rfl, .inl ⟨rfl, rfl⟩⟩, HB1.out⟩, Below.refl _ _⟩
  case round =>
    obtain ⟨q, a, D, hq, rfl, rfl, hP, hbr⟩ := hrel
    have HP := Lib.hid hP
    have HBR := Lib.hid hbr
    obtain ⟨Ax, cx, rfl⟩ := owns_form hP.own
    by_cases hlt : q < n
    · obtain ⟨k, hk⟩ : ∃ k, L[q]? = some k := ⟨_, List.getElem?_eq_getElem (by have := HN.out; omega)⟩
      obtain ⟨g, hg, hgl, g1⟩ := (HA1.out.below hbr) q k hk
      have hkm := HLT.out q k hk
      have HAD := Lib.hid (allR_drop m.S hk)
      have HKK := Lib.hid hk
      obtain ⟨g1, g2⟩ := g1
      subst hg
      obtain ⟨s, hs⟩ : ∃ s, 16 * k = s := ⟨_, rfl⟩
      have hsm : s + 16 ≤ 16 * m.h := by omega
      have E1 := Lib.hid (w64g ((k : Int) + 1) (by omega))
      have E2 := Lib.hid (w64g (((k : Int) + 1) * 16) (by omega))
      have E3 := Lib.hid (w64g ((k : Int) * 16) (by omega))
      have hk1 : ((k : Int) + 1) * 16 = ((s + 16 : Nat) : Int) := by omega
      have hk2 : (k : Int) * 16 = (s : Int) := by omega
      obtain ⟨en, hen⟩ : ∃ en, s + 16 = en := ⟨_, rfl⟩
      rw [hen] at hk1
      rw [hk1] at E2
      rw [hk2] at E3
      have HP0 := Lib.hid (hP.rem (R' := rs m.S (s + 0) (16 - 0) 0 ++ allR m.S (L.drop (q + 1))) (b' := 16 * q + min 0 16) (by rw [HAD.out, hs]; rfl) (by omega))
      generalize hRE : allR m.S (L.drop (q + 1)) = REST at HP0 HAD
      have HRE := Lib.hid hRE
      clear hRE
      have hql : q ≤ 64 := by omega
      obtain ⟨e1, e1'⟩ := E1.out
      obtain ⟨e2, e2'⟩ := E2.out
      obtain ⟨e3, e3'⟩ := E3.out
      have HSS := Lib.hid hs
      have HEN := Lib.hid hen
      clear hen
      clear hP hbr hk hs HAD
      go_wp2_with fail
      clear e1 e1' e2 e2' e3 e3' g2 hk1 hk2
      go_loopw [6, 8, 11] (fun v c p wq => ∃ (t a : Nat) (D : List (Nat × Nat)), t ≤ 17 ∧ p = .int .i64 ((s + t : Nat) : Int) ∧ c = .int .i64 a ∧ PgR w1.heap.size w wq W P D (rs m.S (s + t) (16 - t) 0 ++ REST) (16 * q + min t 16) a v ∧ Below w1.heap.size w1 wq) (fun _ _ p _ => 2000 - (intOf p).toNat)
      case atStart => exact ⟨0, a, D, by omega, rfl, rfl, HP0.out, HBR.out⟩
      case round =>
        clear HP0 HP
        obtain ⟨t, a, D, ht17, rfl, rfl, hPP, hb2⟩ := hrel
        have HPP := Lib.hid hPP
        have HB2 := Lib.hid hb2
        obtain ⟨Ax, cx, rfl⟩ := owns_form hPP.own
        obtain ⟨A', cap', hRf⟩ := HS.out wr hPP.bel
        have c0 := hRf.c0
        obtain ⟨p, hpt⟩ : ∃ p, s + t = p := ⟨_, rfl⟩
        rw [hpt]
        by_cases ht : t < 16
        · have cS := hRf.at (i := p) (by omega)
          have HCS := Lib.hid (fun i (hi : i < 16 * m.h) => hRf.at (i := i) hi)
          have hb : (p : Int) < ((16 * m.h : Nat) : Int) := by omega
          have hbe : (p : Int) < (en : Int) := by have := HEN.out; omega
          have HNM := Lib.hid (show s + 16 ≤ 16 * m.h from hsm)
          have hp2k : p ≤ 1100 := by omega
          generalize 16 * m.h = n16 at c0 hb HCS HNM
          clear hPP hb2 hRf
          have hgo : t + 1 ≤ 17 := by omega
          by_cases h2 : m.S p = 2
          · have HS2 := Lib.hid h2
            rw [h2, show ((2 : Nat) : Int) = 2 from rfl] at cS
            clear h2
            by_cases hwa : W ≤ (a : Int)
            · have HN2 := Lib.hid (HPP.out.rem (R' := rs m.S (s + (t + 1)) (16 - (t + 1)) 0 ++ REST) (b' := 16 * q + min (t + 1) 16) (by rw [pl_endg hwa, pl_endg hwa]) (by omega))
              have F4 := Lib.hid (w64g ((p : Int) + 1) (by omega))
              obtain ⟨f4, f4'⟩ := F4.out
              have HPT := Lib.hid hpt
              clear hpt
              go_wp2_with fail
              clear f4 f4'
              go_roundw
              case rel => exact ⟨t + 1, a, D, hgo, by have := HPT.out; rw [show s + (t + 1) = p + 1 by omega]; rfl, rfl, HN2.out, HB2.out⟩
              case measure => simp [intOf]; omega
            · have HWA := Lib.hid hwa
              go_wp2_with fail
              go_loopw [12] (fun y wr3 => ∃ j : Nat, t + j ≤ 16 ∧ y = .int .i64 ((p + j : Nat) : Int) ∧ (∀ x, x < j → m.S (p + x) = 2) ∧ wr3 = wr) (fun y _ => 2000 - (intOf y).toNat)
              case atStart => exact ⟨0, by omega, rfl, fun x hx => by omega, rfl⟩
              case round =>
                obtain ⟨j, hjt, rfl, hall, rfl⟩ := hrel
                have HALL := Lib.hid hall
                obtain ⟨y, hyp⟩ : ∃ y, p + j = y := ⟨_, rfl⟩
                rw [hyp]
                have hy2k : y ≤ 1120 := by omega
                clear hall
                by_cases hj : t + j < 16
                · have cY := HCS.out y (by have := HNM.out; omega)
                  have hby : (y : Int) < (n16 : Int) := by have := HNM.out; omega
                  have hye : (y : Int) < (en : Int) := by have := HEN.out; omega
                  by_cases hy2 : m.S y = 2
                  · rw [hy2, show ((2 : Nat) : Int) = 2 from rfl] at cY
                    have HYY := Lib.hid hy2
                    have F4 := Lib.hid (w64g ((y : Int) + 1) (by omega))
                    obtain ⟨f4, f4'⟩ := F4.out
                    have HYP := Lib.hid hyp
                    clear hyp hy2
                    go_wp2_with fail
                    clear f4 f4'
                    go_roundw
                    case rel => exact ⟨j + 1, by omega, by have := HYP.out; go_num, (fun x hx => by
                      by_cases e : x = j
                      · rw [e, HYP.out]; exact HYY.out
                      · exact HALL.out x (by omega)), trivial⟩
                    case measure => simp [intOf]; omega
                  · have HST : t + j < 16 → m.S (p + j) ≠ 2 := fun _ => by rw [hyp]; exact hy2
                    have qy : (((m.S y : Nat) : Int) == 2) = false := by simp only [beq_eq_false_iff_ne]; omega
                    clear hy2
                    generalize ((m.S y : Nat) : Int) = V at cY qy
                    have hj1 : 1 ≤ j := by
                      rcases Nat.eq_zero_or_pos j with h | h
                      · subst h; exact absurd (by simpa using HS2.out) (HST (by omega))
                      · exact h
                    have HNEW := Lib.hid (fun (v' : Value) (w5 : World) ho hb => HPP.out.add (v' := v') (w5 := w5) (j := j) (Int.not_le.2 HWA.out) ht hjt hj1 hpt HALL.out HST ho hb)
                    have hal := HPP.out.c
                    have hdl := HPP.out.d
                    obtain ⟨ay, hay⟩ : ∃ x, a + y = x := ⟨_, rfl⟩
                    obtain ⟨aj, haj⟩ : ∃ x, a + j = x := ⟨_, rfl⟩
                    obtain ⟨y1, hy1⟩ : ∃ x, y + 1 = x := ⟨_, rfl⟩
                    have F1 := Lib.hid (w64c ((y : Int) - (p : Int)) (j : Int) (by omega) (by omega))
                    have F2 := Lib.hid (w64c ((a : Int) + (y : Int)) (ay : Int) (by omega) (by omega))
                    have F3 := Lib.hid (w64c ((ay : Int) - (p : Int)) (aj : Int) (by omega) (by omega))
                    have F4 := Lib.hid (w64c ((y : Int) + 1) (y1 : Int) (by omega) (by omega))
                    have HYP := Lib.hid hyp
                    have HPT := Lib.hid hpt
                    have HAJ := Lib.hid haj
                    have HY1 := Lib.hid hy1
                    have hdm : D.length + 1 ≤ maxLen := by unfold maxLen; omega
                    have hzm : w.heap.size ≤ wr.heap.size := HPP.out.bel.size
                    have hzm1 : w1.heap.size ≤ wr.heap.size := HB2.out.size
                    clear hyp hpt HST hay haj hy1 hj1
                    obtain ⟨hi, hz0, hz1, hz2⟩ := HI.out
                    obtain ⟨f1, f1'⟩ := F1.out
                    go_wp2_with (at_builtin; go_loud (refine wpList_append_own _ rfl _ _ 50 rfl w1.heap.size 55 i0 (.agg #[.int .i64 0, .int .i64 0]) 2 16 Try.underlying50 hi hz0 hz1 hz2 rfl (by decide) _ _ _ rfl (HPP.out.own.alloc _) ⟨wr.heap.size, 0, none⟩ 1 1 [.int .i64 (p : Int), .int .i64 (j : Int)] rfl rfl (cells2_new wr _ _ _) (by simp [Value.oneCell']) hdm (by clear f1 f1'; omega) (by clear f1 f1'; simp; omega) ?_); intro v' w5 hown' hgrow _; have HO5 := Lib.hid hown'; have HG5 := Lib.hid hgrow; clear hown' hgrow)
                    clear f1 f1'
                    have HB5 := Lib.hid ((HPP.out.bel.alloc HPP.out.bel.size _).grown HG5.out (by simp; omega) (fun k e => Nat.le_trans HB1.out.size (HPP.out.own.lt k e).1))
                    have HB6 := Lib.hid ((HB2.out.alloc HB2.out.size _).grown HG5.out (by simp; omega) (fun k e => (HPP.out.own.lt k e).1))
                    have HOUT := Lib.hid (HNEW.out v' w5 HO5.out HB5.out)
                    have HHJ : t + j + 1 ≤ 17 := by omega
                    go_roundw
                    case rel => exact ⟨t + j + 1, a + j, D ++ [(p, j)], HHJ, by rw [show s + (t + j + 1) = y + 1 by have := HPT.out; have := HYP.out; omega]; rfl, by rw [show (a : Int) + (y : Int) - (p : Int) = ((a + j : Nat) : Int) by have := HYP.out; omega], HOUT.out, HB6.out⟩
                    case measure => simp [intOf]; have := HYP.out; omega
                · have HST : t + j < 16 → m.S (p + j) ≠ 2 := fun h => absurd h hj
                  have hye : ¬ (y : Int) < (en : Int) := by have := HEN.out; omega
                  have hj1 : 1 ≤ j := by
                    rcases Nat.eq_zero_or_pos j with h | h
                    · subst h; exact absurd (by simpa using HS2.out) (HST (by omega))
                    · exact h
                  have HNEW := Lib.hid (fun (v' : Value) (w5 : World) ho hb => HPP.out.add (v' := v') (w5 := w5) (j := j) (Int.not_le.2 HWA.out) ht hjt hj1 hpt HALL.out HST ho hb)
                  have hal := HPP.out.c
                  have hdl := HPP.out.d
                  obtain ⟨ay, hay⟩ : ∃ x, a + y = x := ⟨_, rfl⟩
                  obtain ⟨aj, haj⟩ : ∃ x, a + j = x := ⟨_, rfl⟩
                  obtain ⟨y1, hy1⟩ : ∃ x, y + 1 = x := ⟨_, rfl⟩
                  have F1 := Lib.hid (w64c ((y : Int) - (p : Int)) (j : Int) (by omega) (by omega))
                  have F2 := Lib.hid (w64c ((a : Int) + (y : Int)) (ay : Int) (by omega) (by omega))
                  have F3 := Lib.hid (w64c ((ay : Int) - (p : Int)) (aj : Int) (by omega) (by omega))
                  have F4 := Lib.hid (w64c ((y : Int) + 1) (y1 : Int) (by omega) (by omega))
                  have HYP := Lib.hid hyp
                  have HPT := Lib.hid hpt
                  have HAJ := Lib.hid haj
                  have HY1 := Lib.hid hy1
                  have hdm : D.length + 1 ≤ maxLen := by unfold maxLen; omega
                  have hzm : w.heap.size ≤ wr.heap.size := HPP.out.bel.size
                  have hzm1 : w1.heap.size ≤ wr.heap.size := HB2.out.size
                  clear hyp hpt HST hay haj hy1 hj1
                  obtain ⟨hi, hz0, hz1, hz2⟩ := HI.out
                  obtain ⟨f1, f1'⟩ := F1.out
                  go_wp2_with (at_builtin; go_loud (refine wpList_append_own _ rfl _ _ 50 rfl w1.heap.size 55 i0 (.agg #[.int .i64 0, .int .i64 0]) 2 16 Try.underlying50 hi hz0 hz1 hz2 rfl (by decide) _ _ _ rfl (HPP.out.own.alloc _) ⟨wr.heap.size, 0, none⟩ 1 1 [.int .i64 (p : Int), .int .i64 (j : Int)] rfl rfl (cells2_new wr _ _ _) (by simp [Value.oneCell']) hdm (by clear f1 f1'; omega) (by clear f1 f1'; simp; omega) ?_); intro v' w5 hown' hgrow _; have HO5 := Lib.hid hown'; have HG5 := Lib.hid hgrow; clear hown' hgrow)
                  clear f1 f1'
                  have HB5 := Lib.hid ((HPP.out.bel.alloc HPP.out.bel.size _).grown HG5.out (by simp; omega) (fun k e => Nat.le_trans HB1.out.size (HPP.out.own.lt k e).1))
                  have HB6 := Lib.hid ((HB2.out.alloc HB2.out.size _).grown HG5.out (by simp; omega) (fun k e => (HPP.out.own.lt k e).1))
                  have HOUT := Lib.hid (HNEW.out v' w5 HO5.out HB5.out)
                  have HHJ : t + j + 1 ≤ 17 := by omega
                  go_roundw
                  case rel => exact ⟨t + j + 1, a + j, D ++ [(p, j)], HHJ, by rw [show s + (t + j + 1) = y + 1 by have := HPT.out; have := HYP.out; omega]; rfl, by rw [show (a : Int) + (y : Int) - (p : Int) = ((a + j : Nat) : Int) by have := HYP.out; omega], HOUT.out, HB6.out⟩
                  case measure => simp [intOf]; have := HYP.out; omega
          · have HN2 := Lib.hid (HPP.out.rem (R' := rs m.S (s + (t + 1)) (16 - (t + 1)) 0 ++ REST) (b' := 16 * q + min (t + 1) 16) (by rw [show 16 - t = (16 - (t + 1)) + 1 by omega, hpt, rs_miss h2, show p + 1 = s + (t + 1) by omega]) (by omega))
            have q2 : (((m.S p : Nat) : Int) != 2) = true := by simp only [bne_iff_ne]; omega
            have F4 := Lib.hid (w64g ((p : Int) + 1) (by omega))
            obtain ⟨f4, f4'⟩ := F4.out
            have HPT := Lib.hid hpt
            clear h2 hpt
            generalize ((m.S p : Nat) : Int) = V at cS q2
            go_wp2_with fail
            clear f4 f4'
            go_roundw
            case rel => exact ⟨t + 1, a, D, hgo, by have := HPT.out; rw [show s + (t + 1) = p + 1 by omega]; rfl, rfl, HN2.out, HB2.out⟩
            case measure => simp [intOf]; omega
        · have hbe : ¬ (p : Int) < (en : Int) := by have := HEN.out; omega
          have HN2 := Lib.hid (HPP.out.rem (R' := REST) (b' := 16 * (q + 1)) (by rw [show 16 - t = 0 by omega]; rfl) (by omega))
          clear hPP hb2 hRf c0 hpt
          have HHQ : q + 1 ≤ n := by omega
          go_wp2_with fail
          go_roundw
          case rel => exact ⟨q + 1, a, D, HHQ, rfl, rfl, by rw [HRE.out]; exact HN2.out, HB2.out⟩
          case measure => simp [intOf]; omega
    · obtain rfl : q = n := by omega
      have HE := Lib.hid (show P = D by rw [hP.e, List.drop_eq_nil_of_le (by have := HN.out; omega)]; exact List.append_nil D)
      clear hP hbr
      go_wp2_with fail
      go_ret2
      obtain ⟨A, cc, e, hR⟩ := runs_of_owns (owns_base HP.out.own HB1.out.size)
      rw [HE.out]
      exact ⟨A, cc, by rw [← e]; rfl, hR, HP.out.bel⟩

end Go.Proofs.Ytecfjibmpbgllaa
