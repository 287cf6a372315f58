/- The statement about the fullest span. -/
import Derived.Test.YtjacbkaeploabaaFe
import Derived.Test.YtjacbkaeploabaaMh
namespace Go.Proofs.Ytjacbkaeploabaa
open Go.RowKit Go.Shelf

def bI : Option Nat → Int
  | none => -1
  | some b => b

theorem run_cls {s p b : Int} {l : List Ak} {c : Ce} (h : runO (newC ⟨s, p, b⟩) l = some c) : c.z = s.toNat ∧ c.g = p.toNat ∧ c.t = b.toNat ∧ okC ⟨s, p, b⟩ = true := by
  by_cases hok : okC ⟨s, p, b⟩ = true
  · rw [show newC ⟨s, p, b⟩ = some ⟨s.toNat, p.toNat, b.toNat, []⟩ from if_pos hok] at h
    obtain ⟨L, hL⟩ := runO_some l ⟨s.toNat, p.toNat, b.toNat, []⟩
    rw [hL] at h
    injection h with h
    subst h
    exact ⟨rfl, rfl, rfl, hok⟩
  · rw [show newC ⟨s, p, b⟩ = none from if_neg hok, runO_none] at h
    cases h

set_option maxRecDepth 100000 in
set_option maxHeartbeats 4000000 in
theorem fullest_walk (s p b : Int) (A : Option Addr) (cp : Nat) (l : List Ak) (w : World) (hl : l.length ≤ 9223372036854775807) (hA : ActsAt w w.heap.size A l) :
    Calls Try.prog 4 #[.agg #[.int .i64 s, .int .i64 p, .int .i64 b], .slice A l.length cp] w (Yes w) := by
  have HAL := Lib.hid alive_any
  obtain ⟨W2, hW0, hB2, hs0, x0, x1, x2⟩ := fresh3 w (.int .i64 s) (.int .i64 p) (.int .i64 b) 23
  have T0 : Tri W2 w.heap.size (.int .i64 s) (.int .i64 p) (.int .i64 b) := Tri.mk (by omega) x0 x1 x2
  have HT0 := Lib.hid (fun W (hb : Below W2.heap.size W2 W) => T0.below hb T0.lt)
  have HG1 := Lib.hid (great_any A cp l W2 hl (hA.below hB2))
  have HMD := Lib.hid (fun W (hb : Below w.heap.size w W) h60 => made_law s p b A cp l W hl h60 hb.size (hA.below hb))
  have HB2 := Lib.hid hB2
  obtain ⟨L, hL⟩ : ∃ L, l.length = L := ⟨_, rfl⟩
  rw [hL] at hl HG1 HMD ⊢
  clear T0 hA hs0 hB2 hL
  by_cases hg : grB l = true
  · rw [hg] at HG1
    go_enter Try.func4, Try.ntmps4
    go_wp2_with fail
    refine HG1.out.mono ?_
    rintro e _ ⟨rfl, rfl⟩
    go_wp2_with fail
    refine (HAL.out _).mono ?_
    rintro e w2 ⟨rfl, hb⟩
    have HF := Lib.hid (btr HB2.out hb (Nat.le_refl _))
    clear hb
    go_wp2_with fail
    go_ret
    exact ⟨rfl, HF.out⟩
  · have hg' : grB l = false := by simpa using hg
    rw [hg'] at HG1
    have H60 := Lib.hid (grB_no hg').2
    clear hg hg'
    go_enter Try.func4, Try.ntmps4
    go_wp2_with fail
    refine HG1.out.mono ?_
    rintro e _ ⟨rfl, rfl⟩
    clear x0 x1 x2
    obtain ⟨_, t0, t1, t2⟩ := HT0.out _ (Below.refl _ _)
    go_wp2_with fail
    obtain ⟨om, hom⟩ : ∃ om, runO (newC ⟨s, p, b⟩) l = om := ⟨_, rfl⟩
    have hcl : ∀ c, om = some c → c.z = s.toNat ∧ c.g = p.toNat ∧ c.t = b.toNat ∧ okC ⟨s, p, b⟩ = true := fun c hc => run_cls (hom.trans hc)
    rw [hom] at HMD
    refine (HMD.out _ HB2.out H60.out).mono ?_
    intro e w3 hm1
    cases om with
    | none =>
      obtain ⟨rfl, hb3⟩ := hm1.no
      have HB3 := Lib.hid (btr HB2.out hb3 (Nat.le_refl _))
      clear hm1 hb3 t0 t1 t2 hcl
      go_wp2_with fail
      refine (HAL.out _).mono ?_
      rintro e w2 ⟨rfl, hb⟩
      have HF := Lib.hid (btr HB3.out hb (Nat.le_refl _))
      clear hb
      go_wp2_with fail
      go_ret
      exact ⟨rfl, HF.out⟩
    | some c =>
      obtain ⟨B1, rfl, ho1⟩ := hm1.yes
      have HO := Lib.hid (Own2.of ho1)
      have HWF := Lib.hid (show CWf c from by obtain ⟨_, _, _, _, h⟩ := ho1.1; exact h.wf)
      obtain ⟨q1, q2, q3, q4⟩ := hcl c rfl
      obtain ⟨p1, p2, p3, p4, p5, p6, p7, p8⟩ := okC_bd q4
      dsimp only at p1 p2 p3 p4 p5 p6 p7 p8
      have hs : s = c.z := by omega
      have hp : p = c.g := by omega
      have hbb : b = c.t := by omega
      have HCL := Lib.hid (And.intro hs (And.intro hp hbb))
      clear hm1 ho1 t0 t1 t2 hcl q1 q2 q3 q4 p1 p2 p3 p4 p5 p6 p7 p8 hs hp hbb
      go_wp2_with fail
      refine HO.out.spans.mono ?_
      rintro e w4 ⟨P4, c4, rfl, hr4, ho4, hb4⟩
      have HO4 := Lib.hid ho4
      have LR := Lib.hid hr4
      clear hr4 ho4 hb4
      go_wp2_with fail
      refine (taken_any HO4.out.ob).mono ?_
      rintro e w5 ⟨P5, c5, rfl, hl5, _, hb5⟩
      have HO5 := Lib.hid (HO4.out.below hb5)
      have LR5 := Lib.hid (LR.out.below hb5)
      have LT := Lib.hid hl5
      clear hl5 hb5 LR
      obtain ⟨N, hN⟩ : ∃ N, c.L.length = N := ⟨_, rfl⟩
      have hN4 : N ≤ 1024 := by rw [← hN]; exact HWF.out.len
      have HN := Lib.hid hN
      rw [show (c.L.map tc).length = N from by rw [List.length_map, hN], show (runs (some c)).length = N from by show (c.L.map _).length = N; rw [List.length_map, hN]]
      have hnn := HWF.out.n1.2.1
      obtain ⟨nn, hnn2⟩ : ∃ nn, c.n = nn := ⟨_, rfl⟩
      have HNN := Lib.hid hnn2
      have RO := Lib.hid (fun W => RObjects_any s p b W (by have := HCL.out.2.1; have := HWF.out.g1; omega) (by have := HCL.out.2.1; have := HWF.out.g2; omega) (by have := HCL.out.1; have := HWF.out.z1; omega) (by have := HCL.out.1; have := HWF.out.z2; omega))
      rw [hnn2] at hnn
      have hro : p * 256 / s = (nn : Nat) := by rw [HCL.out.1, HCL.out.2.1, ro_n, hnn2]
      rw [hro] at RO
      clear hnn2 hN hro
      go_wp2_with fail
      go_loopw [8, 9] (fun bv i wr => ∃ k : Nat, k ≤ N ∧ i = .int .i64 k ∧ bv = .int .i64 (bI (bst c.L k)) ∧ Below w5.heap.size w5 wr) (fun _ i _ => N - (intOf i).toNat)
      case atStart => exact ⟨0, by omega, rfl, rfl, Below.refl _ _⟩
      case round =>
        obtain ⟨k, hk, rfl, rfl, hb⟩ := hrel
        have HB := Lib.hid hb
        obtain ⟨_, t0, t1, t2⟩ := HT0.out _ (btr HO5.out.bel hb (Nat.le_refl _))
        by_cases hlt : k < N
        · obtain ⟨m, hm⟩ : ∃ m, c.L[k]? = some m := ⟨_, List.getElem?_eq_getElem (by have := HN.out; omega)⟩
          obtain ⟨g, rfl, hgl, g1⟩ := (LT.out.below hb) k (tc m) (by rw [List.getElem?_map, hm]; rfl)
          have HM := Lib.hid hm
          have hmn : m.n = nn := by rw [(HWF.out.at hm).n, HNN.out]
          clear hm
          have htl := tc_le m
          rw [hmn] at htl
          have hbw := World.block_lt_of_cell? _ _ t0
          have G0 := CW.cell (N := wr.heap.size) (a := ⟨w.heap.size, 0, none⟩) hbw t0
          have G1 := CW.cell (N := wr.heap.size) (a := ⟨w.heap.size, 1, none⟩) hbw t1
          have G2 := CW.cell (N := wr.heap.size) (a := ⟨w.heap.size, 2, none⟩) hbw t2
          have hgl' := Nat.lt_of_lt_of_le hgl (Nat.le_refl _)
          have G3 := CW.cell (N := wr.heap.size) (a := ⟨g, k, none⟩) hgl' g1
          by_cases hf : tc m < m.n
          · cases hbk : bst c.L k with
            | none =>
              have HS := Lib.hid (bst_first HM.out hf hbk)
              rw [hmn] at hf
              rw [show bI none = -1 from rfl]
              have d1 : decide ((tc m : Int) < (nn : Int)) = true := decide_eq_true (by omega)
              clear t0 t1 t2 g1 hbw hgl hgl' hb
              generalize tc m = tm at *
              go_wp2_with fail
              refine region_below wr.heap.size (by kernel_rfl) (by kernel_rfl) ?_
              repeat (first | go_big_quiet_step ((go_at_call 21; exact quietB (Nat.le_refl _) (RO.out _))) | quiet_step ((go_at_call 21; exact quietB (Nat.le_refl _) (RO.out _))))
              refine wpQuiet_nil ?_
              rintro _ ⟨nq, rfl⟩
              have HQ := Lib.hid (btr HB.out nq.bel (Nat.le_refl _))
              generalize nq.wd = wq at *
              go_wp2_with fail
              go_roundw
              case rel => exact ⟨k + 1, by omega, by go_num, by rw [HS.out]; rfl, HQ.out⟩
              case measure => simp [intOf]; omega
            | some bb =>
              obtain ⟨mb, hmb, _⟩ := ((bst_spec c.L k).1 bb hbk).free
              have hbk2 := ((bst_spec c.L k).1 bb hbk).lt
              obtain ⟨g', e', _, g2⟩ := (LT.out.below hb) bb (tc mb) (by rw [List.getElem?_map, hmb]; rfl)
              injection e' with e'
              injection e' with e'
              subst e'
              have G4 := CW.cell (N := wr.heap.size) (a := ⟨g, bb, none⟩) hgl' g2
              have d2 : decide ((bb : Int) < 0) = false := decide_eq_false (by omega)
              have HTA := Lib.hid (tcA_at hmb)
              rw [show bI (some bb) = (bb : Int) from rfl]
              by_cases hg : tc mb < tc m
              · have HS := Lib.hid (bst_more HM.out hf hbk (by rw [HTA.out]; exact hg))
                rw [hmn] at hf
                have d1 : decide ((tc m : Int) < (nn : Int)) = true := decide_eq_true (by omega)
                have d3 : decide ((tc mb : Int) < (tc m : Int)) = true := decide_eq_true (by omega)
                clear t0 t1 t2 g1 g2 hbw hgl hgl' hb hbk hmb HTA
                generalize tc m = tm at *
                generalize tc mb = tb at *
                go_wp2_with fail
                refine region_below wr.heap.size (by kernel_rfl) (by kernel_rfl) ?_
                repeat (first | go_big_quiet_step ((go_at_call 21; exact quietB (Nat.le_refl _) (RO.out _))) | quiet_step ((go_at_call 21; exact quietB (Nat.le_refl _) (RO.out _))))
                refine wpQuiet_nil ?_
                rintro _ ⟨nq, rfl⟩
                have HQ := Lib.hid (btr HB.out nq.bel (Nat.le_refl _))
                generalize nq.wd = wq at *
                go_wp2_with fail
                go_roundw
                case rel => exact ⟨k + 1, by omega, by go_num, by rw [HS.out]; rfl, HQ.out⟩
                case measure => simp [intOf]; omega
              · have HS := Lib.hid (bst_less HM.out hf hbk (by rw [HTA.out]; exact hg))
                rw [hmn] at hf
                have d1 : decide ((tc m : Int) < (nn : Int)) = true := decide_eq_true (by omega)
                have d3 : decide ((tc mb : Int) < (tc m : Int)) = false := decide_eq_false (by omega)
                clear t0 t1 t2 g1 g2 hbw hgl hgl' hb hbk hmb HTA
                generalize tc m = tm at *
                generalize tc mb = tb at *
                go_wp2_with fail
                refine region_below wr.heap.size (by kernel_rfl) (by kernel_rfl) ?_
                repeat (first | go_big_quiet_step ((go_at_call 21; exact quietB (Nat.le_refl _) (RO.out _))) | quiet_step ((go_at_call 21; exact quietB (Nat.le_refl _) (RO.out _))))
                refine wpQuiet_nil ?_
                rintro _ ⟨nq, rfl⟩
                have HQ := Lib.hid (btr HB.out nq.bel (Nat.le_refl _))
                generalize nq.wd = wq at *
                go_wp2_with fail
                go_roundw
                case rel => exact ⟨k + 1, by omega, by go_num, by rw [HS.out]; rfl, HQ.out⟩
                case measure => simp [intOf]; omega
          · have HS := Lib.hid (bst_full HM.out hf)
            rw [hmn] at hf
            have d1 : decide ((tc m : Int) < (nn : Int)) = false := decide_eq_false (by omega)
            clear t0 t1 t2 g1 hbw hgl hgl' hb
            generalize tc m = tm at *
            generalize hbv : bI (bst c.L k) = bv at *
            go_wp2_with fail
            refine region_below wr.heap.size (by kernel_rfl) (by kernel_rfl) ?_
            repeat (first | go_big_quiet_step ((go_at_call 21; exact quietB (Nat.le_refl _) (RO.out _))) | quiet_step ((go_at_call 21; exact quietB (Nat.le_refl _) (RO.out _))))
            refine wpQuiet_nil ?_
            rintro _ ⟨nq, rfl⟩
            have HQ := Lib.hid (btr HB.out nq.bel (Nat.le_refl _))
            generalize nq.wd = wq at *
            go_wp2_with fail
            go_roundw
            case rel => exact ⟨k + 1, by omega, by go_num, by rw [HS.out, hbv], HQ.out⟩
            case measure => simp [intOf]; omega
        · obtain rfl : k = N := by omega
          have HO6 := Lib.hid (HO5.out.below hb)
          have LR6 := Lib.hid (LR5.out.below hb)
          have HTK := Lib.hid (HO6.out.take 1 ⟨by omega, by omega⟩)
          rw [← HN.out]
          clear hb t0 t1 t2
          cases hbk : bst c.L c.L.length with
          | none =>
            have HRM := Lib.hid (rm_none hbk)
            have e1 : tkL 1 c.L = ([], c.L) := tkL_none (stp_none hbk)
            rw [show tkR (some c) 1 = [] from by show (tkL 1 c.L).1 = []; rw [e1], show tkEr (some c) 1 = 0 from rfl, show tkDr (some c) 1 = some c from by show some { c with L := (tkL 1 c.L).2 } = some c; rw [e1]] at HTK
            rw [show bI none = -1 from rfl]
            clear e1
            go_wp2_with fail
            refine HTK.out.mono ?_
            rintro e w7 ⟨P7, c7, rfl, O7, _, _, ho7, _⟩
            have HO7 := Lib.hid ho7
            clear ho7
            go_wp2_with fail
            have HR := cRoom_any HO7.out.ob
            rw [HRM.out] at HR
            refine HR.mono ?_
            rintro e w8 ⟨rfl, hb⟩
            have HB8 := Lib.hid (btr (btr HB2.out HO7.out.bel (Nat.le_refl _)) hb (Nat.le_refl _))
            clear hb HR
            go_wp2_with fail
            refine (HAL.out _).mono ?_
            rintro e w9 ⟨rfl, hb⟩
            have HF := Lib.hid (btr HB8.out hb (Nat.le_refl _))
            clear hb
            go_wp2_with fail
            go_ret
            exact ⟨rfl, HF.out⟩
          | some bb =>
            obtain ⟨m, hm, hf⟩ := ((bst_spec c.L c.L.length).1 bb hbk).free
            have hbl := ((bst_spec c.L c.L.length).1 bb hbk).lt
            obtain ⟨o, ho⟩ := ff_tc hf
            have e1 : tkL 1 c.L = ([adr m o], c.L.set bb (m.set o true)) := by rw [show (1 : Nat) = 0 + 1 from rfl, tkL_some (stp_some hbk hm ho)]; rfl
            rw [show tkR (some c) 1 = [adr m o] from by show (tkL 1 c.L).1 = _; rw [e1], show tkEr (some c) 1 = 0 from rfl] at HTK
            have hin := idO_in (HWF.out.at hm).wf (obO_id (obO_some (HWF.out.at hm).wf (ff_get ho).1 rfl))
            have hpg := page_tdiv (by omega) hin.1 hin.2
            have hbd := (HWF.out.at hm).wf.s1
            have hx : (runs (some c))[bb]? = some (m.s, m.g) := by show (c.L.map _)[bb]? = _; rw [List.getElem?_map, hm]; rfl
            rw [show bI (some bb) = (bb : Int) from rfl]
            have HX := Lib.hid hx
            have d2 : decide ((bb : Int) < 0) = false := decide_eq_false (by omega)
            rw [HN.out] at hbl ⊢
            generalize adr m o = ad at *
            generalize m.s = sx at *
            generalize m.g = gx at *
            clear e1 hm hf ho hbk hx hin
            go_wp2_with fail
            refine HTK.out.mono ?_
            rintro e w7 ⟨P7, c7, rfl, O7, hl7, _, ho7, hs7⟩
            have HO7 := Lib.hid ho7
            obtain ⟨g7, rfl, _, k1⟩ := hl7.1 0 ad rfl
            obtain ⟨g4, rfl, _, k2, k3⟩ := (LR6.out.step hs7).1 bb sx gx HX.out
            have HB8 := Lib.hid (btr HB2.out HO7.out.bel (Nat.le_refl _))
            clear ho7 hl7 hs7
            go_wp2_with fail
            rw [Int.tdiv_eq_ediv_of_nonneg (by omega)] at hpg
            have had : (ad : Int) / 256 < sx + gx := hpg.2
            obtain ⟨f3, f4⟩ := w64 ((ad : Int) / 256) (by omega)
            have d4 : decide ((sx : Int) ≤ (ad : Int) / 256) = true := decide_eq_true hpg.1
            have d5 : decide ((ad : Int) / 256 < (sx : Int) + (gx : Int)) = true := decide_eq_true hpg.2
            have K2 := CW.cell (N := w7.heap.size) (a := ⟨g4, bb * 2, none⟩) (World.block_lt_of_cell? _ _ k2) k2
            have K3 := CW.cell (N := w7.heap.size) (a := ⟨g4, bb * 2 + 1, none⟩) (World.block_lt_of_cell? _ _ k3) k3
            clear k1 k2 k3
            refine region_below w7.heap.size (by kernel_rfl) (by kernel_rfl) ?_
            repeat (first | go_big_quiet_step ((go_at_call 12; exact quietB (Nat.le_refl _) (HAL.out _))) | quiet_step ((go_at_call 12; exact quietB (Nat.le_refl _) (HAL.out _))))
            refine wpQuiet_nil ?_
            rintro _ ⟨nq, rfl⟩
            have HB9 := Lib.hid (btr HB8.out nq.bel (Nat.le_refl _))
            generalize nq.wd = wq at *
            go_wp2_with fail
            go_ret
            exact ⟨rfl, HB9.out⟩

end Go.Proofs.Ytjacbkaeploabaa
