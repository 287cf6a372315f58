/- The document's cache: Remove, Insert. -/
import Derived.Test.YtaefhhkdfepgmaaLg
namespace Go.Proofs.Ytaefhhkdfepgmaa
open Go.RowKit Go.Lib

set_option maxRecDepth 100000 in
set_option maxHeartbeats 4000000 in
theorem dRemove_any {O : Nat → Prop} {v : Value} {om : Option Tc} {w : World} (h : TOb true w O v om) : Calls Try.prog 33 #[v] w (RmP true w O v om) := by
  cases om with
  | none =>
    have HM := Lib.hid (dmade_no h.1)
    have HH := Lib.hid h
    clear h
    go_enter Try.func33, Try.ntmps33
    go_wp2_with (go_at_call 31; refine HM.out.mono ?_; rintro e w1 ⟨rfl, rfl⟩)
    go_ret2
    exact rm_none HH.out
  | some c =>
    have HO := Lib.hid h
    obtain ⟨B, V, X, rfl, h⟩ := h
    have HM := Lib.hid (dmade_any h)
    obtain ⟨A, cap, rfl, h1, h2⟩ := h.form
    obtain ⟨c2, c3⟩ := h.dc
    have f2 := h.hd.free 2 (by omega)
    have f3 := h.hd.free 3 (by omega)
    have hN8 := h.n8
    rcases Nat.eq_zero_or_pos X.length with hz | hz
    · have HE := Lib.hid (show c.L = [] from List.length_eq_zero_iff.1 (by rw [← h.len]; exact hz))
      rw [hz] at c2
      clear h
      go_enter Try.func33, Try.ntmps33
      go_wp2_with (go_at_call 31; refine HM.out.mono ?_; rintro e w1 ⟨rfl, rfl⟩)
      go_ret2
      exact rm_empty HO.out HE.out
    · obtain ⟨K, hK⟩ : ∃ K, X.length = K + 1 := ⟨X.length - 1, by omega⟩
      obtain ⟨x, hx⟩ : ∃ x, X[K]? = some x := ⟨_, List.getElem?_eq_getElem (by omega)⟩
      obtain ⟨g, o, cap', hV, cx⟩ := h.slot hx
      obtain ⟨rfl, rfl⟩ : A = some ⟨g, o, none⟩ ∧ cap = cap' := by injection hV; exact ⟨by assumption, by assumption⟩
      have HH := Lib.hid h
      have HK := Lib.hid hK
      have HX := Lib.hid hx
      have HW := Lib.hid (show ∀ (w' : World) (q : Nat), q = min c.lo K → Cl w' B 4 (fun j => if j = 3 then .int .i64 q else if j = 2 then .slice (some ⟨g, o, none⟩) K cap else tF true c (.slice (some ⟨g, o, none⟩) X.length cap) j) → Cl w' B 4 (tF true { c with L := c.L.dropLast, lo := min c.lo (c.L.length - 1) } (.slice (some ⟨g, o, none⟩) K cap)) from fun w' q hq h' => h'.congr fun i hi => by
        have : i = 0 ∨ i = 1 ∨ i = 2 ∨ i = 3 := by omega
        have e : c.L.length - 1 = K := by rw [← h.len, hK]; rfl
        rcases this with rfl | rfl | rfl | rfl <;> simp [tF, e, hq])
      rw [hK] at c2 h1 hN8
      have hs := sl_to (some ⟨g, o, none⟩) (K + 1) cap K (by omega)
      obtain ⟨lo, hlo⟩ : ∃ lo, c.lo = lo := ⟨_, rfl⟩
      rw [hlo] at c3
      have HLO := Lib.hid hlo
      clear hlo
      obtain ⟨N, hN⟩ : ∃ N, K + 1 = N := ⟨_, rfl⟩
      rw [hN] at c2 h1 hs
      have e0 : (N : Int) - 1 = K := by omega
      have E1 := Lib.hid (w64 (K : Int) (by omega))
      obtain ⟨e1, e2⟩ := E1.out
      have hKN : K < N := by omega
      have hKNi : (K : Int) < (N : Int) := by omega
      have hK0 : (0 : Int) ≤ (K : Int) := by omega
      have hN0 : ((N : Nat) : Int) ≠ 0 := by omega
      clear h hV hx hK hz hN
      go_enter Try.func33, Try.ntmps33
      go_wp2_with (go_at_call 31; refine HM.out.mono ?_; rintro e w1 ⟨rfl, rfl⟩)
      go_quiet (fail)
      go_wp2
      obtain ⟨wa, hwa⟩ : ∃ wa, wa = w.drewN nq := ⟨_, rfl⟩
      have b2 : wa.cell? ⟨B, 2, none⟩ = some (.slice (some ⟨g, o, none⟩) N cap) := by rw [hwa]; exact c2
      have b3 : wa.cell? ⟨B, 3, none⟩ = some (.int .i64 lo) := by rw [hwa]; exact c3
      have g2 : wa.frozen? ⟨B, 2, none⟩ = false := by rw [hwa]; exact f2
      have g3 : wa.frozen? ⟨B, 3, none⟩ = false := by rw [hwa]; exact f3
      have HWA := Lib.hid (show Cl wa B 4 (tF true c (.slice (some ⟨g, o, none⟩) X.length cap)) ∧ Below w.heap.size w wa from by rw [hwa]; exact ⟨HH.out.hd.of_block rfl, belowN (Below.refl _ _) _⟩)
      rw [← hwa]
      clear hwa c2 c3 f2 f3
      go_region
      all_goals
        go_wp2
        obtain ⟨wb, hwb⟩ : ∃ wb, wb = (wa.setCell ⟨B, 2, none⟩ (.slice (some ⟨g, o, none⟩) K cap)).drew := ⟨_, rfl⟩
        have hcl : Cl wb B 4 (fun j => if j = 2 then .slice (some ⟨g, o, none⟩) K cap else tF true c (.slice (some ⟨g, o, none⟩) X.length cap) j) := by rw [hwb]; exact (HWA.out.1.set 2 _).of_block rfl
        have a2 : wb.cell? ⟨B, 2, none⟩ = some (.slice (some ⟨g, o, none⟩) K cap) := hcl.cell 2 (by omega)
        have a3 : wb.cell? ⟨B, 3, none⟩ = some (.int .i64 lo) := by rw [← HLO.out]; exact hcl.cell 3 (by omega)
        have k3 : wb.frozen? ⟨B, 3, none⟩ = false := hcl.free 3 (by omega)
        have HWB := Lib.hid (And.intro hcl (show Keep (fun k => k = B) w wb from by
          have h1 : Keep (fun k => k = B) w wa := Keep.of HWA.out.2
          rw [hwb]
          exact (keep_set (F := fun k => k = B) h1 rfl _).trans (Keep.of (belowN (Below.refl _ _) 1))))
        rw [← hwb]
        clear hwb b2 b3 g2 g3 hcl
        go_region
        all_goals go_wp2
        all_goals
          go_ret2
          refine rm_post HH.out HK.out HX.out (HW.out _ _ ?_ ((HWB.out.1.set 3 _).of_block rfl)) ((keep_set (F := fun k => k = B) HWB.out.2 rfl _).trans (Keep.of (belowN (Below.refl _ _) 1)))
          rw [HLO.out]
          omega

set_option maxRecDepth 100000 in
set_option maxHeartbeats 8000000 in
theorem dInsert_any {P O : Nat → Prop} {v : Value} {om : Option Tc} {w : World} (h : TOb true w O v om) (A : Option Addr) (cap : Nat) (z : List Int) (hz : z.length ≤ 60) (hA : IAt P w A z) : Calls Try.prog 32 #[v, .slice A z.length cap] w (InsP true w O v z om) := by
  cases om with
  | none =>
    have HM := Lib.hid (dmade_no h.1)
    have HH := Lib.hid h
    clear h
    go_enter Try.func32, Try.ntmps32
    go_wp2_with (go_at_call 31; refine HM.out.mono ?_; rintro e w1 ⟨rfl, rfl⟩)
    go_ret2
    exact ins_no HH.out rfl _ rfl
  | some c =>
    have HO := Lib.hid h
    obtain ⟨B, V, X, rfl, h⟩ := h
    have HM := Lib.hid (dmade_any h)
    have c0 := h.cells.1
    have c1 := h.cells.2
    have HWF := Lib.hid h.wf
    by_cases hb : z.length = c.b
    · obtain ⟨A2, cap2, rfl, h1, h2⟩ := h.form
      have hN8 := h.n8
      have HL := Lib.hid h.len
      obtain ⟨N, hN⟩ : ∃ N, X.length = N := ⟨_, rfl⟩
      have HN := Lib.hid hN
      rw [hN] at h h1 hN8
      have c3 := h.dc.1
      have f3 := h.hd.free 2 (by omega)
      have hb1 := h.wf.b1
      have hr8 := h.wf.r2
      by_cases hr : c.L.length < c.r
      · obtain ⟨j0, hj, hy0, hy1, hy2⟩ := info_parts infoInts
        obtain ⟨i0, hi, hz0, hz1, hz2⟩ := info_parts info3
        have HX := Lib.hid (And.intro hb hr)
        have HH := Lib.hid h
        obtain ⟨g, o, rfl, hg, _, hc, hin⟩ := hA.some (by omega)
        have HIN := Lib.hid hin
        have HGC := Lib.hid (And.intro hg hc)
        have HR := Lib.hid (fun (W : World) (hb : Below w.heap.size w W) => h.row.below hb)
        have HD := Lib.hid (fun (W : World) (hb : Below w.heap.size w W) => And.intro (h.below hb).dc.1 ((h.below hb).hd.free 2 (by omega)))
        have HD5 := Lib.hid (fun (w4 w5 : World) (hb : Below w.heap.size w w4) (hgr : w4.grownBy w5 (Value.slice A2 N cap2).ownBlock) => show w5.cell? ⟨B, 2, none⟩ = some (.slice A2 N cap2) ∧ w5.frozen? ⟨B, 2, none⟩ = false from by
          have hB5 : w5.heap[B]? = w4.heap[B]? := hgr.block _ (Nat.lt_of_lt_of_le (h.lt _ h.ob) hb.size) (fun e => (h.rowO _ e.symm).2 rfl)
          have h5 := (h.below hb).hd.of_block hB5
          exact ⟨h5.cell 2 (by omega), h5.free 2 (by omega)⟩)
        rw [hb]
        have hlr : N < c.r := by rw [← hN, h.len]; exact hr
        have HZL := Lib.hid (show (cZ z).length = c.b * 1 by rw [cZ_len, Nat.mul_one]; exact hb)
        rw [hb] at hz
        generalize hcb : c.b = cb at *
        generalize hcr : c.r = cr at *
        have HCB := Lib.hid (And.intro hcb hcr)
        clear hcb hcr h hA hr hb hg hc hin
        go_enter Try.func32, Try.ntmps32
        go_wp2_with (go_at_call 31; refine HM.out.mono ?_; rintro e w1 ⟨rfl, rfl⟩)
        have d1 : decide ((cr : Int) ≤ (N : Int)) = false := decide_eq_false (by omega)
        clear hN
        go_quiet (fail)
        go_wp2
        obtain ⟨wa, hwa⟩ : ∃ wa, wa = w.drewN nq := ⟨_, rfl⟩
        have hba : Below w.heap.size w wa.drew := by rw [hwa]; exact belowN (belowN (Below.refl _ _) nq) 1
        rw [← hwa]
        obtain ⟨W0, hW0⟩ : ∃ W0, wa.drew.alloc (.cells #[] 3) = W0 := ⟨_, rfl⟩
        have hb0 : Below w.heap.size w W0 := by rw [← hW0]; exact hba.alloc hba.size _
        have hE : W0.ownsRow w.heap.size 3 1 (.slice (some ⟨wa.heap.size, 0, none⟩) 0 0) 0 [] := own_empty hba.size (by rw [← hW0]; exact World.alloc_heap_new wa.drew _)
        have HB0 := Lib.hid hb0
        have HE := Lib.hid (And.intro hE (show ∀ j u, (cZ z)[j]? = some u → W0.cell? ((⟨g, o, none⟩ : Addr).add j) = some u from fun j u hu => by
          have := HGC.out.2 j u hu
          rw [Addr.add_lit] at this ⊢
          exact (hb0.cell (p := ⟨g, _, none⟩) HGC.out.1).trans this))
        have ha2 : wa.cell? ⟨B, 2, none⟩ = some (.slice A2 N cap2) := (HD.out _ hba).1
        have ha3 := (HD.out _ hb0).1
        have HWA := Lib.hid hwa
        clear d1 hE hwa c3 hba f3 hb0
        go_region_law
          (first
          | (refine step_append_lies W0 (by rfl) (.tmp 31) (.tmp 32) 32 (by rfl) w.heap.size 3 i0 (.int .i64 0) 1 8 undInts hi hz0 hz1 hz2 (by rfl) (by decide) _ 0 [] (by rfl) HE.out.1 ⟨g, o, none⟩ cb cap (cZ z) (by rfl) HZL.out HE.out.2 (cZ_one z) (by omega) (by unfold maxLen; omega) (by omega) HB0.out.size _ (by rfl) ?_; intro g4 cap4 w4 hown' hgrow _ _; simp only [Nat.zero_add, List.nil_append] at hown' ⊢; have hb4 : Below w.heap.size w w4 := HB0.out.grown hgrow HB0.out.size (fun k hk => (HE.out.1.lt k hk).1); have hd1 := (HD.out _ hb4).1; have hd2 := (HD.out _ (hb4.alloc hb4.size (.cells #[.slice (some ⟨g4, 0, none⟩) cb cap4] 32))).1; have HO4 := Lib.hid (And.intro hown' hb4); clear hown' hgrow hb4)
          | (have hOW1 := (HR.out w4 HO4.out.2).below (bnew w4 (.cells #[.slice (some ⟨g4, 0, none⟩) cb cap4] 32)); have hCN := cells1_new w4 (.slice (some ⟨g4, 0, none⟩) cb cap4) 32; refine step_append_off _ (by rfl) (.tmp 30) (.tmp 34) 40 (by rfl) 32 j0 (.slice none 0 0) 24 undLL hj hy0 hy1 hy2 (by rfl) (.slice A2 N cap2) (bV X) (by rfl) hOW1 ⟨w4.heap.size, 0, none⟩ 1 (.slice (some ⟨g4, 0, none⟩) cb cap4) (by rfl) hCN (add0 _) (by rfl) (by rw [bV_len, HN.out]; unfold maxLen; omega) (by rw [bV_len, HN.out]; omega) ?_; intro g5 q5 cp5 w5 hown' hgrow hat; rw [bV_len, HN.out] at hown' hat ⊢; obtain ⟨k1, k2⟩ := HD5.out _ _ (HO4.out.2.alloc HO4.out.2.size _) hgrow; have HA5 := Lib.hid (And.intro hown' (And.intro hgrow hat)); clear hown' hgrow hat hOW1 hCN))
        all_goals
          go_wp2
          go_ret2
          obtain ⟨⟨xg, xl, xc⟩, e, e1, e2, e3⟩ := bt_of HO4.out.1 HX.out.1.symm (by rw [HX.out.1]; omega) HIN.out
          subst e1
          have hv := HX.out.1
          refine ins_ok (r := true) (x := ⟨xg, xl, xc⟩) HH.out HO4.out.2 e3 e2 (by rw [← e]; exact HA5.out.1) HA5.out.2.1 HA5.out.2.2 rfl ?_
          rw [HCB.out.1, HCB.out.2]
          exact HX.out
      · have hv : insV (some c) z = false := decide_eq_false (fun h => hr h.2)
        have he : insE (some c) z = 0 := if_pos hb
        have HV := Lib.hid (And.intro hv he)
        have hlr : c.r ≤ N := by rw [← hN, h.len]; omega
        rw [hb]
        generalize hcb : c.b = cb at *
        generalize hcr : c.r = cr at *
        have d1 : decide ((cr : Int) ≤ (N : Int)) = true := decide_eq_true (by omega)
        clear hcb hcr h hA hr hb hv he hN
        go_enter Try.func32, Try.ntmps32
        go_wp2_with (go_at_call 31; refine HM.out.mono ?_; rintro e w1 ⟨rfl, rfl⟩)
        go_quiet (fail)
        go_wp2
        go_ret2
        exact ins_no' HO.out (belowN (Below.refl _ _) _) HV.out.1 _ HV.out.2
    · have hv : insV (some c) z = false := decide_eq_false (fun h => hb h.1)
      have he : insE (some c) z = 1 := if_neg hb
      have HV := Lib.hid (And.intro hv he)
      have hne : ¬ ((z.length : Nat) : Int) = (c.b : Nat) := by omega
      generalize z.length = zl at *
      generalize c.b = cb at *
      clear h hA hb hv he
      go_enter Try.func32, Try.ntmps32
      go_wp2_with (go_at_call 31; refine HM.out.mono ?_; rintro e w1 ⟨rfl, rfl⟩)
      go_ret2
      exact ins_no HO.out HV.out.1 _ HV.out.2
end Go.Proofs.Ytaefhhkdfepgmaa
