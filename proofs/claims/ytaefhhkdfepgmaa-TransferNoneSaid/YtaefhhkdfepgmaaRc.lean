/- The document's cache: Objects, Clone. -/
import Derived.Test.YtaefhhkdfepgmaaRb
namespace Go.Proofs.Ytaefhhkdfepgmaa
open Go.RowKit Go.Lib

theorem TcA.inr {r : Bool} {w : World} {O : Nat → Prop} {B : Nat} {V : Value} {X : List Bt} {c : Tc} (h : TcA r w O B V X c) : ∀ a ∈ c.L.flatten, InR a := fun a ha => by
  obtain ⟨l, h1, h2⟩ := List.mem_flatten.1 ha
  rw [← h.ms] at h1
  obtain ⟨x, hx, rfl⟩ := List.mem_map.1 h1
  obtain ⟨i, hi⟩ := List.mem_iff_getElem?.1 h2
  exact ((h.bt x hx).cell i a hi).2

set_option maxRecDepth 100000 in
set_option maxHeartbeats 4000000 in
theorem dObjects_any {O : Nat → Prop} {v : Value} {om : Option Tc} {w : World} (h : TOb true w O v om) : Calls Try.prog 38 #[v] w (ObjP w (objT om)) := by
  cases om with
  | none =>
    have HM := Lib.hid (dmade_no h.1)
    clear h
    go_enter Try.func38, Try.ntmps38
    go_wp2_with (go_at_call 31; refine HM.out.mono ?_; rintro e w1 ⟨rfl, rfl⟩)
    go_ret
    exact ⟨none, 0, rfl, IAt.nil _ _ _, Below.refl _ _⟩
  | some c =>
    obtain ⟨i0, hi, hz0, hz1, hz2⟩ := info_parts info3
    obtain ⟨B, V, X, rfl, h⟩ := h
    have HM := Lib.hid (dmade_any h)
    obtain ⟨A, cap, rfl, h1, h2⟩ := h.form
    have hmax := h.n8
    have HIN := Lib.hid h.inr
    have HLL := Lib.hid h.len
    have HX := Lib.hid (fun (k : Nat) (x : Bt) (hx : X[k]? = some x) => And.intro (h.at hx) (And.intro (h.bt x (List.mem_of_getElem? hx)) (h.blen hx)))
    have HFL := Lib.hid (fun k => flat_le (L := c.L) (by rw [← h.len]; exact hmax) (fun x hx => by rw [h.wf.sz x hx]; have := h.wf.b2; omega) k)
    have hbb := And.intro h.wf.b1 h.wf.b2
    obtain ⟨N, hN⟩ : ∃ N, X.length = N := ⟨_, rfl⟩
    have HN := Lib.hid hN
    rw [hN] at h h1 hmax
    have HSL := Lib.hid (fun (W : World) (hb : Below w.heap.size w W) (k : Nat) (x : Bt) (hx : X[k]? = some x) => (h.below hb).slot hx)
    have HC2 := Lib.hid (fun (W : World) (hb : Below w.heap.size w W) => (h.below hb).dc.1)
    obtain ⟨cb, hcb⟩ : ∃ cb, c.b = cb := ⟨_, rfl⟩
    have HCB := Lib.hid hcb
    rw [hcb] at hbb
    clear h hN hcb
    go_enter Try.func38, Try.ntmps38
    go_wp2_with (go_at_call 31; refine HM.out.mono ?_; rintro e w1 ⟨rfl, rfl⟩)
    go_loopw [3, 4] (fun s i wr => ∃ q : Nat, q ≤ N ∧ i = .int .i64 q ∧ wr.ownsRow w.heap.size 3 1 s (c.L.take q).flatten.length (cZ (c.L.take q).flatten) ∧ Below w.heap.size w wr) (fun _ i _ => N - (intOf i).toNat)
    case atStart => exact ⟨0, by omega, rfl, World.ownsRow_nil _ _ _ _, Below.refl _ _⟩
    case round =>
      obtain ⟨q, hq, rfl, hrow, hb⟩ := hrel
      obtain ⟨A5, c5, rfl⟩ := owns_form hrow
      have HR5 := Lib.hid hrow
      have HB := Lib.hid hb
      have b2 := HC2.out _ hb
      by_cases hlt : q < N
      · obtain ⟨x, hx⟩ : ∃ x, X[q]? = some x := ⟨_, List.getElem?_eq_getElem (by have := HN.out; omega)⟩
        obtain ⟨g, o, cap2, hV, hc⟩ := HSL.out _ hb q x hx
        obtain ⟨rfl, rfl⟩ : A = some ⟨g, o, none⟩ ∧ cap = cap2 := by injection hV; exact ⟨by assumption, by assumption⟩
        obtain ⟨hx1, hx2, hx3⟩ := HX.out q x hx
        have HT := Lib.hid (flat_take hx1)
        have hle := HFL.out q
        obtain ⟨S5, hS5⟩ : ∃ S5, (c.L.take q).flatten.length = S5 := ⟨_, rfl⟩
        have HS5 := Lib.hid hS5
        rw [hS5] at hle HR5
        have hln : x.l.length = cb := by rw [hx3, HCB.out]
        have HLN := Lib.hid (show (cZ x.l).length = cb * 1 by rw [cZ_len, Nat.mul_one]; exact hln)
        have HLM := Lib.hid hln
        have HCC := Lib.hid (show ∀ j u, (cZ x.l)[j]? = some u → wr.cell? ((⟨x.g, 0, none⟩ : Addr).add j) = some u from by
          obtain ⟨g', o', e, _, _, h5, _⟩ := ((hx2.block (hb.block _ hx2.lt)).iat (P := fun _ => True) trivial).some (by omega)
          cases e
          exact h5)
        rw [hln] at hc
        rw [hS5]
        clear hV hx hx1 hx2 hx3 hln hS5 hrow hb
        go_wp2_with (at_builtin; refine wpList_append_own _ rfl _ _ 32 rfl w.heap.size 3 i0 (.int .i64 0) 1 8 undInts hi hz0 hz1 hz2 rfl (by decide) _ _ _ rfl HR5.out ⟨x.g, 0, none⟩ cb x.c (cZ x.l) rfl HLN.out HCC.out (cZ_one x.l) (by unfold maxLen; omega) (by omega) HB.out.size ?_; intro v' w3 hown' hgrow _; have HO := Lib.hid hown'; have HB3 := Lib.hid (HB.out.grown hgrow HB.out.size (fun k hk => (HR5.out.lt k hk).1)); clear hown' hgrow)
        go_roundw
        case rel => exact ⟨q + 1, by omega, by go_num, by rw [HT.out, List.length_append, HS5.out, HLM.out, cZ_app]; exact HO.out, HB3.out⟩
        case measure => simp [intOf]; omega
      · obtain rfl : q = N := by omega
        have e : c.L.take q = c.L := List.take_of_length_le (by rw [← HLL.out, HN.out]; exact Nat.le_refl _)
        rw [e] at HR5
        rw [e]
        clear hrow hb e
        go_wp2_with fail
        go_ret
        exact objp_of HR5.out HIN.out HB.out

set_option maxRecDepth 100000 in
set_option maxHeartbeats 8000000 in
theorem dClone_any {O : Nat → Prop} {v : Value} {om : Option Tc} {w : World} (h : TOb true w O v om) : Calls Try.prog 14 #[v] w (TClnP true w om) := by
  cases om with
  | none =>
    have HM := Lib.hid (dmade_no h.1)
    clear h
    go_enter Try.func14, Try.ntmps14
    go_wp2_with (go_at_call 31; refine HM.out.mono ?_; rintro e w1 ⟨rfl, rfl⟩)
    go_ret
    exact ⟨none, rfl, ⟨.inl rfl, fun _ hk => hk.2⟩, ⟨fun _ => rfl, fun _ => rfl⟩, Below.refl _ _⟩
  | some c =>
    obtain ⟨j0, hj, hy0, hy1, hy2⟩ := info_parts infoInts
    obtain ⟨i0, hi, hz0, hz1, hz2⟩ := info_parts info3
    obtain ⟨B, V, X, rfl, h⟩ := h
    have HM := Lib.hid (dmade_any h)
    have hmax : X.length ≤ 8 := h.n8
    obtain ⟨A, cap, rfl, h1, h2⟩ := h.form
    have c0 := h.cells.1
    have c1 := h.cells.2
    obtain ⟨c2, c3⟩ := h.dc
    have HX := Lib.hid (fun (k : Nat) (x : Bt) (hx : X[k]? = some x) => And.intro (h.at hx) (And.intro (h.bt x (List.mem_of_getElem? hx)) (h.blen hx)))
    have HLL := Lib.hid h.len
    obtain ⟨N, hN⟩ : ∃ N, X.length = N := ⟨_, rfl⟩
    have HN := Lib.hid hN
    have HWF := Lib.hid h.wf
    have hbb := And.intro h.wf.b1 h.wf.b2
    rw [hN] at h c2 hmax h1
    have HSL := Lib.hid (fun (W : World) (hb : Below w.heap.size w W) (k : Nat) (x : Bt) (hx : X[k]? = some x) => (h.below hb).slot hx)
    have HC2 := Lib.hid (fun (W : World) (hb : Below w.heap.size w W) => (h.below hb).dc.1)
    have hst := cl_start (r := true) (t := 60) h.wf (belowN (Below.refl w.heap.size w) 1)
    obtain ⟨W0, hW0⟩ : ∃ W0, w.drew.alloc (.cells #[.int .i64 c.b, .int .i64 c.r, .slice none 0 0, .int .i64 c.lo] 60) = W0 := ⟨_, rfl⟩
    have hb0 : Below w.heap.size w W0 := by rw [← hW0]; exact (belowN (Below.refl _ _) 1).alloc (Nat.le_refl _) _
    have HST := Lib.hid (And.intro (show TcB true W0 (Nw w W0) w.heap.size (.slice none 0 0) [] (part c 0) c.lo from hW0 ▸ hst) hb0)
    have hmx : Try.prog.follows .mixedOrders = true := by kernel_rfl
    obtain ⟨cb, hcb⟩ : ∃ cb, c.b = cb := ⟨_, rfl⟩
    have HCB := Lib.hid hcb
    rw [hcb] at hbb
    clear h hN hb0 hst hcb
    go_enter Try.func14, Try.ntmps14
    go_wp2_with (go_at_call 31; refine HM.out.mono ?_; rintro e w1 ⟨rfl, rfl⟩)
    go_still_tail 13, hmx
    change wpList _ _ _ _ _ w.drew
    go_wp2
    clear hW0 c0 c1 c2 c3
    go_loopw [4] (fun i wr => ∃ (k : Nat) (V2 : Value) (X2 : List Bt), k ≤ N ∧ i = .int .i64 k ∧ TcB true wr (Nw w wr) w.heap.size V2 X2 (part c k) c.lo ∧ Below w.heap.size w wr) (fun i _ => N - (intOf i).toNat)
    case atStart => exact ⟨0, _, _, by omega, rfl, HST.out.1, HST.out.2⟩
    case round =>
      clear HST
      obtain ⟨k, V2, X2, hk, rfl, hL, hb⟩ := hrel
      have hform : ∃ A2 cap2, V2 = .slice A2 X2.length cap2 := by
        obtain ⟨A2, cap2, e, _⟩ := hL.row.form
        rw [bV_len] at e
        exact ⟨A2, cap2, e⟩
      obtain ⟨A2, c2, rfl⟩ := hform
      have HB := Lib.hid hb
      have b2 := HC2.out _ hb
      by_cases hlt : k < N
      · obtain ⟨x, hx⟩ : ∃ x, X[k]? = some x := ⟨_, List.getElem?_eq_getElem (by have := HN.out; omega)⟩
        obtain ⟨g, o, cap2, hV, hc⟩ := HSL.out _ hb k x hx
        obtain ⟨rfl, rfl⟩ : A = some ⟨g, o, none⟩ ∧ cap = cap2 := by injection hV; exact ⟨by assumption, by assumption⟩
        obtain ⟨hx1, hx2, hx3⟩ := HX.out k x hx
        have HMK := Lib.hid hx1
        have hxl : x.l.length = cb := by rw [hx3, HCB.out]
        have HXB := Lib.hid hxl
        rw [hxl] at hc
        have hXl : X2.length = k := by
          have h1 : (X2.map (·.l)).length = (part c k).L.length := by rw [hL.ms]
          rw [List.length_map] at h1
          rw [h1]
          show (c.L.take k).length = k
          rw [List.length_take]
          have := HLL.out
          have := HN.out
          omega
        have HXL := Lib.hid hXl
        rw [hXl] at hL
        have d3 : wr.cell? ⟨w.heap.size, 2, none⟩ = some (.slice A2 k c2) := hL.hd.cell 2 (by omega)
        have f3 := hL.hd.free 2 (by omega)
        have hzl := hL.hd.lt
        have HLI := Lib.hid hL
        have HDC := Lib.hid (fun w' (hb : Below wr.heap.size wr w') => And.intro ((hb.cell (p := ⟨w.heap.size, 2, none⟩) hzl).trans d3) (show w'.frozen? ⟨w.heap.size, 2, none⟩ = false from by rw [World.frozen?_of_block (a := ⟨w.heap.size, 2, none⟩) (hb.block _ hzl)]; exact f3))
        have HOW := Lib.hid (fun w' (hb : Below wr.heap.size wr w') => hL.row.below hb)
        have HD5 := Lib.hid (fun (w4 w5 : World) (hb : Below wr.heap.size wr w4) (hgr : w4.grownBy w5 (Value.slice A2 k c2).ownBlock) => show w5.cell? ⟨w.heap.size, 2, none⟩ = some (.slice A2 k c2) ∧ w5.frozen? ⟨w.heap.size, 2, none⟩ = false from by
          have hB5 : w5.heap[w.heap.size]? = wr.heap[w.heap.size]? := (hgr.block _ (Nat.lt_of_lt_of_le hzl hb.size) (fun e => (hL.rowO _ e.symm).2 rfl)).trans (hb.block _ hzl)
          have h5 := hL.hd.of_block hB5
          exact ⟨h5.cell 2 (by omega), h5.free 2 (by omega)⟩)
        have HXI := Lib.hid (And.intro hx2 (show ∀ a ∈ x.l, InR a from fun a ha => by
          obtain ⟨i, hi⟩ := List.mem_iff_getElem?.1 ha
          exact (hx2.cell i a hi).2))
        have hbr : Below wr.heap.size wr wr.drew := belowN (Below.refl _ _) 1
        obtain ⟨W0', hW0'⟩ : ∃ W0', wr.drew.alloc (.cells #[] 3) = W0' := ⟨_, rfl⟩
        have hb0 : Below wr.heap.size wr W0' := by rw [← hW0']; exact hbr.alloc hbr.size _
        have hE : W0'.ownsRow wr.heap.size 3 1 (.slice (some ⟨wr.heap.size, 0, none⟩) 0 0) 0 [] := own_empty hbr.size (by rw [← hW0']; exact World.alloc_heap_new wr.drew _)
        have HB0 := Lib.hid hb0
        have hbw0 := btr hb hb0 (Nat.le_refl _)
        have HE := Lib.hid (And.intro hE (show ∀ j u, (cZ x.l)[j]? = some u → W0'.cell? ((⟨x.g, 0, none⟩ : Addr).add j) = some u from by
          obtain ⟨g', o', e, _, _, h5, _⟩ := ((hx2.block (hbw0.block _ hx2.lt)).iat (P := fun _ => True) trivial).some (by omega)
          cases e
          exact h5))
        have HZL := Lib.hid (show (cZ x.l).length = cb * 1 by rw [cZ_len, Nat.mul_one]; exact hxl)
        have d4 := (HDC.out _ hb0).1
        have b4 := HC2.out _ hbw0
        obtain ⟨g9, o9, cap9, hV9, hc9⟩ := HSL.out _ hbw0 k x hx
        cases hV9
        rw [hxl] at hc9
        clear hL hV hx hx1 hx2 hx3 hxl hXl hb hE hb0 hbw0 hbr
        go_wp2_with fail
        go_region_law
          (first
          | (refine step_append_lies W0' (by rfl) (.tmp 36) (.tmp 43) 32 (by rfl) wr.heap.size 3 i0 (.int .i64 0) 1 8 undInts hi hz0 hz1 hz2 (by rfl) (by decide) _ 0 [] (by rfl) HE.out.1 ⟨x.g, 0, none⟩ cb x.c (cZ x.l) (by rfl) HZL.out HE.out.2 (cZ_one x.l) (by omega) (by unfold maxLen; omega) (by omega) HB0.out.size _ (by rfl) ?_; intro g4 cap4 w4 hown' hgrow _ _; simp only [Nat.zero_add, List.nil_append] at hown' ⊢; have hb4 : Below wr.heap.size wr w4 := HB0.out.grown hgrow HB0.out.size (fun k hk => (HE.out.1.lt k hk).1); have hd1 := (HDC.out _ hb4).1; have hd2 := (HDC.out _ (hb4.alloc hb4.size (.cells #[.slice (some ⟨g4, 0, none⟩) cb cap4] 32))).1; have HO4 := Lib.hid (And.intro hown' hb4); clear hown' hgrow hb4)
          | (have hOW1 := (HOW.out w4 HO4.out.2).below (bnew w4 (.cells #[.slice (some ⟨g4, 0, none⟩) cb cap4] 32)); have hCN := cells1_new w4 (.slice (some ⟨g4, 0, none⟩) cb cap4) 32; refine step_append_off _ (by rfl) (.tmp 35) (.tmp 45) 40 (by rfl) 32 j0 (.slice none 0 0) 24 undLL hj hy0 hy1 hy2 (by rfl) (.slice A2 k c2) (bV X2) (by rfl) hOW1 ⟨w4.heap.size, 0, none⟩ 1 (.slice (some ⟨g4, 0, none⟩) cb cap4) (by rfl) hCN (add0 _) (by rfl) (by rw [bV_len, HXL.out]; unfold maxLen; omega) (by rw [bV_len, HXL.out]; omega) ?_; intro g5 q5 cp5 w5 hown' hgrow hat; rw [bV_len, HXL.out] at hown' hat ⊢; obtain ⟨k1, k2⟩ := HD5.out _ _ (HO4.out.2.alloc HO4.out.2.size _) hgrow; have HA5 := Lib.hid (And.intro hown' (And.intro hgrow hat)); clear hown' hgrow hat hOW1 hCN))
        all_goals
          go_wp2
          obtain ⟨⟨xg, xl, xc⟩, e, e1, e2, e3⟩ := bt_of HO4.out.1 HXB.out.symm (by rw [HXB.out]; omega) HXI.out.2
          dsimp only at e1
          subst e1
          have HF := Lib.hid (cl_step (r := true) (x := ⟨xg, x.l, xc⟩) HLI.out HB.out HWF.out HMK.out HO4.out.2 e3 e2 (by rw [← e]; exact HA5.out.1) HA5.out.2.1 HA5.out.2.2 rfl)
          clear e e2 e3
          go_roundw
          case rel => exact ⟨k + 1, _, _, by omega, by go_num, HF.out.1, HF.out.2⟩
          case measure => simp [intOf]; omega
      · obtain rfl : k = N := by omega
        have HF := Lib.hid (show TcA true wr (Nw w wr) w.heap.size (.slice A2 X2.length c2) X2 c from cl_end (by rw [← HLL.out, HN.out]; exact hL) HWF.out)
        clear hL hb
        go_wp2_with fail
        go_ret
        exact ⟨_, rfl, HF.out.ob', ⟨(fun h => nomatch h), (fun h => nomatch h)⟩, HB.out⟩
end Go.Proofs.Ytaefhhkdfepgmaa
