/- The statement about few begun spans. -/
import Derived.Test.YtjacbkaeploabaaWe
namespace Go.Proofs.Ytjacbkaeploabaa
open Go.RowKit Go.Shelf

set_option maxRecDepth 100000 in
set_option maxHeartbeats 4000000 in
theorem few_walk (s p b : Int) (A : Option Addr) (cp : Nat) (zs : List Int) (t : Int) (w : World) (hl : zs.length ≤ 9223372036854775807) (hA : ZAt w w.heap.size A zs) (ht : 0 ≤ t ∧ t ≤ 255) :
    Calls Try.prog 8 #[.agg #[.int .i64 s, .int .i64 p, .int .i64 b], .slice A zs.length cp, .int .u8 t] w (Yes w) := by
  have HAL := Lib.hid alive_any
  obtain ⟨W2, hW0, hB2, hs0, x0, x1, x2⟩ := fresh3 w (.int .i64 s) (.int .i64 p) (.int .i64 b) 23
  have T0 : Tri W2 w.heap.size (.int .i64 s) (.int .i64 p) (.int .i64 b) := Tri.mk (by omega) x0 x1 x2
  have HT0 := Lib.hid (fun W (hb : Below W2.heap.size W2 W) => T0.below hb T0.lt)
  have HMD := Lib.hid (made_law s p b none 0 [] W2 (by decide) (fun k x hk => by simp at hk) (N0 := w.heap.size) hB2.size (ActsAt.nil _ _ _))
  have HA := Lib.hid (hA.below hB2)
  have HB2 := Lib.hid hB2
  obtain ⟨L, hL⟩ : ∃ L, zs.length = L := ⟨_, rfl⟩
  have HL := Lib.hid hL
  rw [hL] at hl ⊢
  rw [show (([] : List Ak).length) = 0 from rfl] at HMD
  clear T0 hA hs0 hB2 hL
  by_cases hbig : 40 < L
  · have d40 : decide (40 < (L : Int)) = true := decide_eq_true (by omega)
    go_enter Try.func8, Try.ntmps8
    go_wp2_with fail
    refine (HAL.out _).mono ?_
    rintro e w2 ⟨rfl, hb⟩
    have HF := Lib.hid (btr HB2.out hb (Nat.le_refl _))
    clear hb
    go_wp2_with fail
    go_ret
    exact ⟨rfl, HF.out⟩
  · have d40 : decide (40 < (L : Int)) = false := decide_eq_false (by omega)
    have hL40 : L ≤ 40 := by omega
    clear hbig
    go_enter Try.func8, Try.ntmps8
    go_wp2_with fail
    refine HMD.out.mono ?_
    intro e w3 hm1
    obtain ⟨om, hom⟩ : ∃ om, runO (newC ⟨s, p, b⟩) [] = om := ⟨_, rfl⟩
    have hcl : ∀ c, om = some c → c.z = s.toNat ∧ c.g = p.toNat ∧ c.t = b.toNat ∧ okC ⟨s, p, b⟩ = true := fun c hc => run_cls (hom.trans hc)
    have hnil : ∀ c, om = some c → c.L = [] := fun c hc => by
      rw [hc] at hom
      by_cases hok : okC ⟨s, p, b⟩ = true
      · rw [show runO (newC ⟨s, p, b⟩) [] = newC ⟨s, p, b⟩ from rfl, show newC ⟨s, p, b⟩ = some ⟨s.toNat, p.toNat, b.toNat, []⟩ from if_pos hok] at hom
        injection hom with hom
        subst hom
        rfl
      · rw [show runO (newC ⟨s, p, b⟩) [] = newC ⟨s, p, b⟩ from rfl, show newC ⟨s, p, b⟩ = none from if_neg hok] at hom
        cases hom
    rw [hom] at hm1
    cases om with
    | none =>
      obtain ⟨rfl, hb3⟩ := hm1.no
      have HB3 := Lib.hid (btr HB2.out hb3 (Nat.le_refl _))
      clear hm1 hb3 x0 x1 x2 hcl hnil
      go_wp2_with fail
      refine (HAL.out _).mono ?_
      rintro e w2 ⟨rfl, hb⟩
      have HF := Lib.hid (btr HB3.out hb (Nat.le_refl _))
      clear hb
      go_wp2_with fail
      go_ret
      exact ⟨rfl, HF.out⟩
    | some c0 =>
      obtain ⟨B1, rfl, ho1⟩ := hm1.yes
      have HO := Lib.hid (Own2.of ho1)
      obtain ⟨q1, q2, q3, q4⟩ := hcl c0 rfl
      obtain ⟨p1, p2, p3, p4, p5, p6, p7, p8⟩ := okC_bd q4
      dsimp only at p1 p2 p3 p4 p5 p6 p7 p8
      have HCL := Lib.hid (show s = c0.z ∧ p = c0.g ∧ b = c0.t from ⟨by omega, by omega, by omega⟩)
      have HZ := Lib.hid (show ∀ m, m ∈ c0.L → tc m = 0 from by rw [hnil c0 rfl]; intro m hm; cases hm)
      have hnn : c0.n ≤ 128 := by have : CWf c0 := by obtain ⟨_, _, _, _, h⟩ := ho1.1; exact h.wf
                                  exact this.n1.2.1
      obtain ⟨nn, hnn2⟩ : ∃ nn, c0.n = nn := ⟨_, rfl⟩
      have HNN := Lib.hid hnn2
      have RO := Lib.hid (fun W => RObjects_any s p b W (by omega) (by omega) (by omega) (by omega))
      have hro : p * 256 / s = (nn : Nat) := by rw [HCL.out.1, HCL.out.2.1, ro_n, hnn2]
      rw [hro] at RO
      rw [hnn2] at hnn
      clear hm1 ho1 x0 x1 x2 hcl q1 q2 q3 q4 p1 p2 p3 p4 p5 p6 p7 p8 hnil hnn2 hro
      go_wp2_with fail
      go_loopw [8] (fun i wr => ∃ k : Nat, k ≤ L ∧ i = .int .i64 k ∧ ∃ M O, Own2 W2 wr (.pointer (some ⟨B1, 0, none⟩)) (some { c0 with L := M }) O ∧ ∀ m, m ∈ M → tc m = 0) (fun i _ => L - (intOf i).toNat)
      case atStart => exact ⟨0, by omega, rfl, c0.L, _, HO.out, HZ.out⟩
      case round =>
        obtain ⟨k, hk, rfl, M, O, ho, hz⟩ := hrel
        have HO1 := Lib.hid ho
        have HZ1 := Lib.hid hz
        by_cases hlt : k < L
        · obtain ⟨x, hx⟩ : ∃ x, zs[k]? = some x := ⟨_, List.getElem?_eq_getElem (by have := HL.out; omega)⟩
          obtain ⟨_, bb, o, rfl, _, g1⟩ := (HA.out.below (ho.bel.mono HB2.out.size)) k x hx
          have HAD := Lib.hid (ho.add x)
          have HNX := Lib.hid (show ∃ M', adD (some { c0 with L := M }) x = some { c0 with L := M' } ∧ ∀ m, m ∈ M' → tc m = 0 from by
            obtain ⟨M', hM'⟩ := dkD_some { c0 with L := M } ⟨0, x, []⟩
            have e : adD (some { c0 with L := M }) x = some { c0 with L := M' } := hM'
            exact ⟨M', e, add_zero (c := { c0 with L := M }) hz e⟩)
          clear hx ho hz
          go_wp2_with fail
          refine HAD.out.mono ?_
          rintro e w4 ⟨rfl, O4, ho4, _⟩
          have HO4 := Lib.hid ho4
          clear ho4
          go_wp2_with fail
          go_roundw
          case rel =>
            obtain ⟨M', e1, e2⟩ := HNX.out
            exact ⟨k + 1, by omega, by go_num, M', O4, by rw [← e1]; exact HO4.out, e2⟩
          case measure => simp [intOf]; omega
        · have HUN := Lib.hid (uniq_zero hz)
          obtain ⟨tn, htn⟩ : ∃ tn : Nat, t = tn := ⟨t.toNat, by omega⟩
          subst htn
          obtain ⟨te, hte⟩ : ∃ te : Nat, tn % 80 = te := ⟨_, rfl⟩
          have hpar : (tn : Int).tmod 80 = (te : Int) := by rw [← hte, show (80 : Int) = ((80 : Nat) : Int) from rfl, ← Int.ofNat_tmod]
          have hte80 : te < 80 := by omega
          clear ho hz hte HZ1
          go_wp2_with fail
          go_loopw [9] (fun i wv => ∃ q : Nat, i = .int .i64 q ∧ q ≤ te ∧ ∃ M O, Own2 W2 wv (.pointer (some ⟨B1, 0, none⟩)) (some { c0 with L := M }) O ∧ Uniq M) (fun i _ => te - (intOf i).toNat)
          case atStart => exact ⟨0, rfl, by omega, M, O, HO1.out, HUN.out⟩
          case round =>
            clear HUN HO1
            obtain ⟨q, rfl, hq, M, O, ho, hu⟩ := hrel
            have HU := Lib.hid hu
            by_cases hlt2 : q < te
            · have HTK := Lib.hid (ho.take 1 ⟨by omega, by omega⟩)
              cases hst : stp M with
              | none =>
                have e1 : tkL 1 M = ([], M) := tkL_none hst
                rw [show tkR (some { c0 with L := M }) 1 = [] from by show (tkL 1 M).1 = []; rw [e1], show tkEr (some { c0 with L := M }) 1 = 0 from rfl, show tkDr (some { c0 with L := M }) 1 = some { c0 with L := M } from by show some { c0 with L := (tkL 1 M).2 } = some { c0 with L := M }; rw [e1]] at HTK
                have HRM := Lib.hid (rm_none (c := { c0 with L := M }) (stp_no hst))
                clear e1 ho hu
                go_wp2_with fail
                refine HTK.out.mono ?_
                rintro e w5 ⟨P5, c5, rfl, O5, _, _, ho5, _⟩
                have HO5 := Lib.hid ho5
                clear ho5
                go_wp2_with fail
                have HR := cRoom_any HO5.out.ob
                rw [HRM.out] at HR
                refine HR.mono ?_
                rintro e w6 ⟨rfl, hb⟩
                have HO6 := Lib.hid (HO5.out.below hb)
                clear hb HR HTK HRM
                clear hst
                go_wp2_with fail
                refine (taken_any HO6.out.ob).mono ?_
                rintro e w7 ⟨P7, c7, rfl, hl7, _, hb7⟩
                have HO7 := Lib.hid (HO6.out.below hb7)
                have LT := Lib.hid hl7
                clear hl7 hb7
                obtain ⟨N, hN⟩ : ∃ N, M.length = N := ⟨_, rfl⟩
                have HWF := Lib.hid (show CWf { c0 with L := M } from by obtain ⟨_, _, _, _, h⟩ := HO7.out.ob; exact h.wf)
                have hN4 : N ≤ 1024 := by rw [← hN]; exact HWF.out.len
                have HN := Lib.hid hN
                rw [show (({ c0 with L := M } : Ce).L.map tc).length = N from by rw [List.length_map]; exact hN]
                clear hN
                go_wp2_with fail
                go_loopw [12, 14] (fun bv i wv => ∃ j : Nat, j ≤ N ∧ i = .int .i64 j ∧ bv = .int .i64 ((M.take j).countP bgn : Nat) ∧ Below w7.heap.size w7 wv) (fun _ i _ => N - (intOf i).toNat)
                case atStart => exact ⟨0, by omega, rfl, rfl, Below.refl _ _⟩
                case round =>
                  obtain ⟨j, hj, rfl, rfl, hb⟩ := hrel
                  have HB := Lib.hid hb
                  obtain ⟨_, t0, t1, t2⟩ := HT0.out _ (btr HO7.out.bel hb (Nat.le_refl _))
                  have hcb : (M.take j).countP bgn ≤ 1024 := Nat.le_trans List.countP_le_length (by rw [List.length_take]; have := HN.out; omega)
                  by_cases hlt3 : j < N
                  · obtain ⟨m, hm⟩ : ∃ m, M[j]? = some m := ⟨_, List.getElem?_eq_getElem (by have := HN.out; omega)⟩
                    obtain ⟨g, rfl, hgl, g1⟩ := (LT.out.below hb) j (tc m) (by show (M.map tc)[j]? = _; rw [List.getElem?_map, hm]; rfl)
                    have hmn : m.n = nn := by rw [(HWF.out.at (show ({ c0 with L := M } : Ce).L[j]? = some m from hm)).n]; exact HNN.out
                    have HTK := Lib.hid (show (M.take (j + 1)).countP bgn = (M.take j).countP bgn + if bgn m = true then 1 else 0 from by rw [List.take_add_one, hm, List.countP_append]; simp [List.countP_cons])
                    have hbg : bgn m = (decide (0 < tc m) && decide (tc m < nn)) := by unfold bgn; rw [hmn]
                    have hbw := World.block_lt_of_cell? _ _ t0
                    have G0 := CW.cell (N := wr.heap.size) (a := ⟨w.heap.size, 0, none⟩) hbw t0
                    have G1 := CW.cell (N := wr.heap.size) (a := ⟨w.heap.size, 1, none⟩) hbw t1
                    have G2 := CW.cell (N := wr.heap.size) (a := ⟨w.heap.size, 2, none⟩) hbw t2
                    have hgl' := Nat.lt_of_lt_of_le hgl (Nat.le_refl _)
                    have G3 := CW.cell (N := wr.heap.size) (a := ⟨g, j, none⟩) hgl' g1
                    clear t0 t1 t2 g1 hbw hgl hgl' hb hm hmn
                    generalize (M.take j).countP bgn = cb at *
                    generalize tc m = tm at *
                    by_cases h0 : 0 < tm
                    · have d0 : decide (0 < (tm : Int)) = true := decide_eq_true (by omega)
                      by_cases h1 : tm < nn
                      · have d1 : decide ((tm : Int) < (nn : Int)) = true := decide_eq_true (by omega)
                        rw [hbg, decide_eq_true h0, decide_eq_true h1, Bool.and_self, if_pos rfl] at HTK
                        clear hbg
                        go_wp2_with fail
                        refine region_below wr.heap.size (by kernel_rfl) (by kernel_rfl) ?_
                        repeat (first | go_big_quiet_step ((go_at_call 21; exact quietB (Nat.le_refl _) (RO.out _))) | quiet_step ((go_at_call 21; exact quietB (Nat.le_refl _) (RO.out _))))
                        refine wpQuiet_nil ?_
                        rintro _ ⟨nq, rfl⟩
                        have HQ := Lib.hid (btr HB.out nq.bel (Nat.le_refl _))
                        generalize nq.wd = wq at *
                        go_wp2_with fail
                        go_roundw
                        case rel => exact ⟨j + 1, by omega, by go_num, by rw [HTK.out]; go_num, HQ.out⟩
                        case measure => simp [intOf]; omega
                      · have d1 : decide ((tm : Int) < (nn : Int)) = false := decide_eq_false (by omega)
                        rw [hbg, decide_eq_true h0, decide_eq_false h1, Bool.and_false, if_neg (by decide)] at HTK
                        clear hbg
                        go_wp2_with fail
                        refine region_below wr.heap.size (by kernel_rfl) (by kernel_rfl) ?_
                        repeat (first | go_big_quiet_step ((go_at_call 21; exact quietB (Nat.le_refl _) (RO.out _))) | quiet_step ((go_at_call 21; exact quietB (Nat.le_refl _) (RO.out _))))
                        refine wpQuiet_nil ?_
                        rintro _ ⟨nq, rfl⟩
                        have HQ := Lib.hid (btr HB.out nq.bel (Nat.le_refl _))
                        generalize nq.wd = wq at *
                        go_wp2_with fail
                        go_roundw
                        case rel => exact ⟨j + 1, by omega, by go_num, by rw [HTK.out]; go_num, HQ.out⟩
                        case measure => simp [intOf]; omega
                    · have d0 : decide (0 < (tm : Int)) = false := decide_eq_false (by omega)
                      rw [hbg, decide_eq_false h0, Bool.false_and, if_neg (by decide)] at HTK
                      clear hbg
                      go_wp2_with fail
                      refine region_below wr.heap.size (by kernel_rfl) (by kernel_rfl) ?_
                      repeat (first | go_big_quiet_step ((go_at_call 21; exact quietB (Nat.le_refl _) (RO.out _))) | quiet_step ((go_at_call 21; exact quietB (Nat.le_refl _) (RO.out _))))
                      refine wpQuiet_nil ?_
                      rintro _ ⟨nq, rfl⟩
                      have HQ := Lib.hid (btr HB.out nq.bel (Nat.le_refl _))
                      generalize nq.wd = wq at *
                      go_wp2_with fail
                      go_roundw
                      case rel => exact ⟨j + 1, by omega, by go_num, by rw [HTK.out]; go_num, HQ.out⟩
                      case measure => simp [intOf]; omega
                  · obtain rfl : j = N := by omega
                    have hall : M.take j = M := List.take_of_length_le (by rw [HN.out]; exact Nat.le_refl _)
                    have hcu := HU.out.count
                    rw [hall]
                    have HO8 := Lib.hid (HO7.out.below hb)
                    have dcb : decide (1 < ((M.countP bgn : Nat) : Int)) = false := decide_eq_false (by omega)
                    clear t0 t1 t2 hb hall hcb
                    generalize M.countP bgn = cb at *
                    go_wp2_with fail
                    go_roundw
                    case rel => exact ⟨q + 1, by go_num, by omega, M, _, HO8.out, HU.out⟩
                    case measure => simp [intOf]; omega
              | some r =>
                obtain ⟨a1, M1⟩ := r
                have e1 : tkL 1 M = ([a1], M1) := by rw [show (1 : Nat) = 0 + 1 from rfl, tkL_some hst]; rfl
                rw [show tkR (some { c0 with L := M }) 1 = [a1] from by show (tkL 1 M).1 = _; rw [e1], show tkEr (some { c0 with L := M }) 1 = 0 from rfl, show tkDr (some { c0 with L := M }) 1 = some { c0 with L := M1 } from by show some { c0 with L := (tkL 1 M).2 } = _; rw [e1]] at HTK
                have HU1 := Lib.hid (hu.stp hst)
                clear e1 ho hu
                go_wp2_with fail
                refine HTK.out.mono ?_
                rintro e w6 ⟨P5, c5, rfl, O5, _, _, ho5, _⟩
                have HO6 := Lib.hid ho5
                clear ho5 HTK
                clear hst
                go_wp2_with fail
                refine (taken_any HO6.out.ob).mono ?_
                rintro e w7 ⟨P7, c7, rfl, hl7, _, hb7⟩
                have HO7 := Lib.hid (HO6.out.below hb7)
                have LT := Lib.hid hl7
                clear hl7 hb7
                obtain ⟨N, hN⟩ : ∃ N, M1.length = N := ⟨_, rfl⟩
                have HWF := Lib.hid (show CWf { c0 with L := M1 } from by obtain ⟨_, _, _, _, h⟩ := HO7.out.ob; exact h.wf)
                have hN4 : N ≤ 1024 := by rw [← hN]; exact HWF.out.len
                have HN := Lib.hid hN
                rw [show (({ c0 with L := M1 } : Ce).L.map tc).length = N from by rw [List.length_map]; exact hN]
                clear hN
                go_wp2_with fail
                go_loopw [12, 14] (fun bv i wv => ∃ j : Nat, j ≤ N ∧ i = .int .i64 j ∧ bv = .int .i64 ((M1.take j).countP bgn : Nat) ∧ Below w7.heap.size w7 wv) (fun _ i _ => N - (intOf i).toNat)
                case atStart => exact ⟨0, by omega, rfl, rfl, Below.refl _ _⟩
                case round =>
                  obtain ⟨j, hj, rfl, rfl, hb⟩ := hrel
                  have HB := Lib.hid hb
                  obtain ⟨_, t0, t1, t2⟩ := HT0.out _ (btr HO7.out.bel hb (Nat.le_refl _))
                  have hcb : (M1.take j).countP bgn ≤ 1024 := Nat.le_trans List.countP_le_length (by rw [List.length_take]; have := HN.out; omega)
                  by_cases hlt3 : j < N
                  · obtain ⟨m, hm⟩ : ∃ m, M1[j]? = some m := ⟨_, List.getElem?_eq_getElem (by have := HN.out; omega)⟩
                    obtain ⟨g, rfl, hgl, g1⟩ := (LT.out.below hb) j (tc m) (by show (M1.map tc)[j]? = _; rw [List.getElem?_map, hm]; rfl)
                    have hmn : m.n = nn := by rw [(HWF.out.at (show ({ c0 with L := M1 } : Ce).L[j]? = some m from hm)).n]; exact HNN.out
                    have HTK := Lib.hid (show (M1.take (j + 1)).countP bgn = (M1.take j).countP bgn + if bgn m = true then 1 else 0 from by rw [List.take_add_one, hm, List.countP_append]; simp [List.countP_cons])
                    have hbg : bgn m = (decide (0 < tc m) && decide (tc m < nn)) := by unfold bgn; rw [hmn]
                    have hbw := World.block_lt_of_cell? _ _ t0
                    have G0 := CW.cell (N := wr.heap.size) (a := ⟨w.heap.size, 0, none⟩) hbw t0
                    have G1 := CW.cell (N := wr.heap.size) (a := ⟨w.heap.size, 1, none⟩) hbw t1
                    have G2 := CW.cell (N := wr.heap.size) (a := ⟨w.heap.size, 2, none⟩) hbw t2
                    have hgl' := Nat.lt_of_lt_of_le hgl (Nat.le_refl _)
                    have G3 := CW.cell (N := wr.heap.size) (a := ⟨g, j, none⟩) hgl' g1
                    clear t0 t1 t2 g1 hbw hgl hgl' hb hm hmn
                    generalize (M1.take j).countP bgn = cb at *
                    generalize tc m = tm at *
                    by_cases h0 : 0 < tm
                    · have d0 : decide (0 < (tm : Int)) = true := decide_eq_true (by omega)
                      by_cases h1 : tm < nn
                      · have d1 : decide ((tm : Int) < (nn : Int)) = true := decide_eq_true (by omega)
                        rw [hbg, decide_eq_true h0, decide_eq_true h1, Bool.and_self, if_pos rfl] at HTK
                        clear hbg
                        go_wp2_with fail
                        refine region_below wr.heap.size (by kernel_rfl) (by kernel_rfl) ?_
                        repeat (first | go_big_quiet_step ((go_at_call 21; exact quietB (Nat.le_refl _) (RO.out _))) | quiet_step ((go_at_call 21; exact quietB (Nat.le_refl _) (RO.out _))))
                        refine wpQuiet_nil ?_
                        rintro _ ⟨nq, rfl⟩
                        have HQ := Lib.hid (btr HB.out nq.bel (Nat.le_refl _))
                        generalize nq.wd = wq at *
                        go_wp2_with fail
                        go_roundw
                        case rel => exact ⟨j + 1, by omega, by go_num, by rw [HTK.out]; go_num, HQ.out⟩
                        case measure => simp [intOf]; omega
                      · have d1 : decide ((tm : Int) < (nn : Int)) = false := decide_eq_false (by omega)
                        rw [hbg, decide_eq_true h0, decide_eq_false h1, Bool.and_false, if_neg (by decide)] at HTK
                        clear hbg
                        go_wp2_with fail
                        refine region_below wr.heap.size (by kernel_rfl) (by kernel_rfl) ?_
                        repeat (first | go_big_quiet_step ((go_at_call 21; exact quietB (Nat.le_refl _) (RO.out _))) | quiet_step ((go_at_call 21; exact quietB (Nat.le_refl _) (RO.out _))))
                        refine wpQuiet_nil ?_
                        rintro _ ⟨nq, rfl⟩
                        have HQ := Lib.hid (btr HB.out nq.bel (Nat.le_refl _))
                        generalize nq.wd = wq at *
                        go_wp2_with fail
                        go_roundw
                        case rel => exact ⟨j + 1, by omega, by go_num, by rw [HTK.out]; go_num, HQ.out⟩
                        case measure => simp [intOf]; omega
                    · have d0 : decide (0 < (tm : Int)) = false := decide_eq_false (by omega)
                      rw [hbg, decide_eq_false h0, Bool.false_and, if_neg (by decide)] at HTK
                      clear hbg
                      go_wp2_with fail
                      refine region_below wr.heap.size (by kernel_rfl) (by kernel_rfl) ?_
                      repeat (first | go_big_quiet_step ((go_at_call 21; exact quietB (Nat.le_refl _) (RO.out _))) | quiet_step ((go_at_call 21; exact quietB (Nat.le_refl _) (RO.out _))))
                      refine wpQuiet_nil ?_
                      rintro _ ⟨nq, rfl⟩
                      have HQ := Lib.hid (btr HB.out nq.bel (Nat.le_refl _))
                      generalize nq.wd = wq at *
                      go_wp2_with fail
                      go_roundw
                      case rel => exact ⟨j + 1, by omega, by go_num, by rw [HTK.out]; go_num, HQ.out⟩
                      case measure => simp [intOf]; omega
                  · obtain rfl : j = N := by omega
                    have hall : M1.take j = M1 := List.take_of_length_le (by rw [HN.out]; exact Nat.le_refl _)
                    have hcu := HU1.out.count
                    rw [hall]
                    have HO8 := Lib.hid (HO7.out.below hb)
                    have dcb : decide (1 < ((M1.countP bgn : Nat) : Int)) = false := decide_eq_false (by omega)
                    clear t0 t1 t2 hb hall hcb
                    generalize M1.countP bgn = cb at *
                    go_wp2_with fail
                    go_roundw
                    case rel => exact ⟨q + 1, by go_num, by omega, M1, _, HO8.out, HU1.out⟩
                    case measure => simp [intOf]; omega
            · have HBF := Lib.hid (btr HB2.out ho.bel (Nat.le_refl _))
              clear ho hu
              go_wp2_with fail
              refine (HAL.out _).mono ?_
              rintro e w7 ⟨rfl, hb⟩
              have HF := Lib.hid (btr HBF.out hb (Nat.le_refl _))
              clear hb
              go_wp2_with fail
              go_ret
              exact ⟨rfl, HF.out⟩

end Go.Proofs.Ytjacbkaeploabaa
