/- Package central: Clone. -/
import Derived.Test.YtejfoefhaphacaaGreatCl
import Derived.Deep.AppendLies
namespace Go.Proofs.YtejfoefhaphacaaGreat
open Go.RowKit Go.Sort Go.Shelf Go.Lib

theorem undrewB {w w' : World} (h : Below w.drew.heap.size w.drew w') : Below w.heap.size w w' := ⟨h.os, h.tape, h.output, h.size, h.block⟩
/-- What Clone of a list leaves. -/
def LClnP (r : Bool) (w : World) (om : Option Ce) (e : Ending) (w' : World) : Prop := ∃ v, e = .returned (.pointer v) ∧ LOb r w' (Nw w w') (.pointer v) om ∧ (om = none ↔ v = none) ∧ Below w.heap.size w w'
theorem CWf.take {c : Ce} (h : CWf c) (k : Nat) : CWf { c with L := c.L.take k } :=
  ⟨h.z1, h.z2, h.z8, h.g1, h.g2, h.t1, h.t2, h.zg, fun x hx => ⟨(h.sp x (List.mem_of_mem_take hx)).wf, (h.sp x (List.mem_of_mem_take hx)).z, (h.sp x (List.mem_of_mem_take hx)).g, (h.sp x (List.mem_of_mem_take hx)).t⟩, h.od.sublist (List.take_sublist _ _)⟩
theorem ins_take {L : List Mo} {k : Nat} {m : Mo} (h : L[k]? = some m) : ins (L.take k) k m = L.take (k + 1) := by
  have hk := (List.getElem?_eq_some_iff.1 h).1
  unfold ins
  rw [List.take_of_length_le (by rw [List.length_take]; omega), List.drop_of_length_le (by rw [List.length_take]; omega), List.take_add_one, h]
  rfl
/-- A list of one's own, without spans yet. -/
theorem cl_start {r : Bool} {w w' : World} {Z : Nat} {c : Ce} {t : TypeId} (ht : t ≠ 3) (hwf : CWf c) (hb : Below w.heap.size w w') (hZ : Z = w'.heap.size) :
    LiA r (w'.alloc (.cells #[.int .i64 c.z, .int .i64 c.g, .int .i64 c.t, .slice none 0 0] t)) (Nw w (w'.alloc (.cells #[.int .i64 c.z, .int .i64 c.g, .int .i64 c.t, .slice none 0 0] t))) Z (.slice none 0 0) [] { c with L := c.L.take 0 } := by
  subst hZ
  have hs := hb.size
  exact ⟨hwf.take 0, cl_new4 ht, World.ownsRow_nil _ _ _ _, (fun g hg => nomatch hg), ⟨hs, by simp⟩, (fun i x e => by simp at e), (fun i x e => by simp at e), List.Pairwise.nil, rfl, fun k hk => hk.2⟩
/-- A span's clone is put behind the others. -/
theorem cl_step {r : Bool} {w wr w2 w4 w5 : World} {Z k : Nat} {V v' : Value} {Xn : List Sn} {c : Ce} {m : Mo} {p : Value} (h : LiA r wr (Nw w wr) Z V Xn { c with L := c.L.take k }) (hbw : Below w.heap.size w wr) (hwf : CWf c) (hk : c.L[k]? = some m)
    (hb : Below wr.heap.size wr w2) (hp : Ob r w2 (Nw wr w2) p (some m)) (hb4 : Below w2.heap.size w2 w4) (hrow : w5.ownsRow 0 (eT r) 1 v' (Xn.length + 1) (pV Xn ++ [p])) (hgr : w4.grownBy w5 V.ownBlock) (hat : v'.ownBlock = V.ownBlock ∨ v'.ownBlock = some w4.heap.size) :
    (∃ V2 X2, v' = V2 ∧ LiA r (w5.setCell ⟨Z, 3, none⟩ v') (Nw w (w5.setCell ⟨Z, 3, none⟩ v')) Z V2 X2 { c with L := c.L.take (k + 1) }) ∧ Below w.heap.size w (w5.setCell ⟨Z, 3, none⟩ v') := by
  obtain ⟨x, rfl, hxm, hxs, hxo⟩ := ob_sn hp
  have hlt := (List.getElem?_eq_some_iff.1 hk).1
  have hl : Xn.length = k := by rw [h.len]; show (c.L.take k).length = k; rw [List.length_take]; omega
  have hx : ∀ q, x.own q → wr.heap.size ≤ q ∧ q < w4.heap.size := fun q hq => ⟨(hxo q hq).1, Nat.lt_of_lt_of_le (hxo q hq).2 hb4.size⟩
  have e1 : ({ ({ c with L := c.L.take k } : Ce) with L := ins ({ c with L := c.L.take k } : Ce).L k x.m } : Ce) = { c with L := c.L.take (k + 1) } := by
    show ({ c with L := ins (c.L.take k) k x.m } : Ce) = _
    rw [hxm, ins_take hk]
  have hw := add_post (P := k) h (hb.trans (hb4.mono hb.size)) (by omega) (hxs.below hb4) hx (by rw [e1]; exact hwf.take _)
    (by rw [List.take_of_length_le (by unfold pV; rw [List.length_map]; omega), List.drop_of_length_le (by unfold pV; rw [List.length_map]; omega)]; exact hrow) hgr hat
  rw [e1] at hw
  obtain ⟨⟨B, V2, X2, e2, h2⟩, hk2⟩ := hw
  cases e2
  have hs1 := hbw.size
  have hs2 := hk2.size
  have hV : V2 = v' := by
    have h3 : some v' = some V2 := by
      rw [← h2.cells.2.2.2]
      exact (World.cell?_setCell_same _ _ _ (show w5.cell? ⟨Z, 3, none⟩ = some V from by
        have hZ5 : w5.heap[Z]? = w4.heap[Z]? := hgr.block Z (Nat.lt_of_lt_of_le (h.lt Z h.ob) (hb.trans (hb4.mono hb.size)).size) (fun e => (h.rowO Z e.symm).2 rfl)
        exact (World.cell?_of_block (a := ⟨Z, 3, none⟩) hZ5).trans (h.below (hb.trans (hb4.mono hb.size))).cells.2.2.2)).symm
    injection h3 with h3; exact h3.symm
  refine ⟨⟨V2, X2, hV.symm, h2.mono (fun q hq => ?_) (fun q hq => hq.2)⟩, hbw.trans (hk2.below hs1 (fun q hq => hq.1))⟩
  rcases hq with hq | hq
  · exact ⟨hq.1, Nat.lt_of_lt_of_le hq.2 hs2⟩
  · exact ⟨by omega, hq.2⟩

set_option maxRecDepth 100000 in
set_option maxHeartbeats 8000000 in
theorem cClone_any {O : Nat → Prop} {v : Value} {om : Option Ce} {w : World} (h : LOb false w O v om) : Calls Tryz.prog 9 #[v] w (LClnP false w om) := by
  cases om with
  | none =>
    have HM := Lib.hid (cmade_no h.1)
    clear h
    go_enter Tryz.func9, Tryz.ntmps9
    go_wp2_with (go_at_call 21; refine HM.out.mono ?_; rintro e w1 ⟨rfl, rfl⟩)
    go_ret
    exact ⟨none, rfl, ⟨.inl rfl, fun _ hk => hk.2⟩, ⟨fun _ => rfl, fun _ => rfl⟩, Below.refl _ _⟩
  | some c =>
    obtain ⟨j0, hj, hy0, hy1, hy2⟩ := info_parts infoPS
    obtain ⟨B, V, X, rfl, h⟩ := h
    have HM := Lib.hid (cmade_any h)
    have HH := Lib.hid h
    have hmax : X.length ≤ 1024 := by rw [h.len]; exact h.wf.len
    obtain ⟨A, cap, rfl⟩ := owns_form h.row
    obtain ⟨d0, d1, d2, d3⟩ := h.cells
    obtain ⟨N, hN⟩ : ∃ N, X.length = N := ⟨_, rfl⟩
    have HN := Lib.hid hN
    rw [hN] at d3 hmax
    obtain ⟨Z, hZ⟩ : ∃ Z, Z = w.heap.size := ⟨_, rfl⟩
    obtain ⟨W0, hW0⟩ : ∃ W0, w.alloc (.cells #[.int .i64 c.z, .int .i64 c.g, .int .i64 c.t, .slice none 0 0] 44) = W0 := ⟨_, rfl⟩
    have hst := cl_start (r := false) (t := 44) (by decide) h.wf (Below.refl w.heap.size w) hZ
    rw [hW0] at hst
    have hb0 : Below w.heap.size w W0 := by rw [← hW0]; exact bnew _ _
    have d3' : W0.cell? ⟨B, 3, none⟩ = some (.slice A N cap) := (hb0.cell (p := ⟨B, 3, none⟩) (World.block_lt_of_cell? _ _ d3)).trans d3
    have HST := Lib.hid (And.intro hst hb0)
    have HWF := Lib.hid h.wf
    have HZ := Lib.hid hZ
    have HLL := Lib.hid (show c.L.length = N by rw [← h.len]; exact hN)
    subst hZ
    clear h hN hst hb0 HZ
    go_enter Tryz.func9, Tryz.ntmps9
    go_wp2_with (go_at_call 21; refine HM.out.mono ?_; rintro e w1 ⟨rfl, rfl⟩)
    clear hW0 d0 d1 d2 d3 d3'
    go_loopw [20] (fun i wr => ∃ (k : Nat) (V2 : Value) (X2 : List Sn), k ≤ N ∧ i = .int .i64 k ∧ LiA false wr (Nw w wr) w.heap.size V2 X2 { c with L := c.L.take k } ∧ Below w.heap.size w wr) (fun i _ => N - (intOf i).toNat)
    case atStart => exact ⟨0, _, _, by omega, rfl, HST.out.1, HST.out.2⟩
    case round =>
      clear HST
      obtain ⟨k, V2, X2, hk, rfl, hL, hb⟩ := hrel
      obtain ⟨A2, c2, rfl⟩ := owns_form hL.row
      have d3 := hL.cells.2.2.2
      have f3 := hL.hd.free 3 (by omega)
      have hzl := hL.hd.lt
      have HLI := Lib.hid hL
      have HB := Lib.hid hb
      by_cases hlt : k < N
      · obtain ⟨x, hx⟩ : ∃ x, X[k]? = some x := ⟨_, List.getElem?_eq_getElem (by have := HN.out; omega)⟩
        obtain ⟨g, cap2, hV, hc⟩ := (HH.out.below hb).slot hx
        obtain ⟨rfl, rfl⟩ : A = some ⟨g, 0, none⟩ ∧ cap = cap2 := by injection hV; exact ⟨by assumption, by assumption⟩
        have HMK := Lib.hid (HH.out.at hx)
        have HCL := Lib.hid (show Calls Tryz.prog 22 #[.pointer (some ⟨x.B, 0, none⟩)] wr.drew (ClnP false wr.drew (some x.m)) from Clone_any (((HH.out.below hb).span hx).below (Below.refl _ _).drew))
        have hXl : X2.length = k := by rw [hL.len]; show (c.L.take k).length = k; rw [List.length_take]; have := HLL.out; omega
        have HXL := Lib.hid hXl
        have HDC := Lib.hid (fun w' (hb : Below wr.heap.size wr w') => And.intro ((hb.cell (p := ⟨w.heap.size, 3, none⟩) hzl).trans d3) (show w'.frozen? ⟨w.heap.size, 3, none⟩ = false from by rw [World.frozen?_of_block (a := ⟨w.heap.size, 3, none⟩) (hb.block _ hzl)]; exact f3))
        have HOW := Lib.hid (fun w' (hb : Below wr.heap.size wr w') => owns_below hL.row hb)
        have HD5 := Lib.hid (fun (w4 w5 : World) (hb : Below wr.heap.size wr w4) (hgr : w4.grownBy w5 (Value.slice A2 X2.length c2).ownBlock) => show w5.cell? ⟨w.heap.size, 3, none⟩ = some (.slice A2 X2.length c2) ∧ w5.frozen? ⟨w.heap.size, 3, none⟩ = false from by
          have hB5 : w5.heap[w.heap.size]? = w4.heap[w.heap.size]? := hgr.block _ (Nat.lt_of_lt_of_le hzl hb.size) (fun e => (hL.rowO _ e.symm).2 rfl)
          have h5 := (hL.below hb).hd.of_block hB5
          exact ⟨h5.cell 3 (by omega), h5.free 3 (by omega)⟩)
        clear hL hV hx hXl
        go_wp2_with fail
        go_region_law
          (first
          | (go_simp; go_at_call 22; refine HCL.out.mono ?_; rintro e W ⟨p, rfl, hob, _, hne, hbW⟩; obtain ⟨q, rfl⟩ : ∃ q, p = some q := (by cases p with | none => exact absurd rfl (hne (by simp)) | some q => exact ⟨q, rfl⟩); have hBW : Below wr.heap.size wr W := undrewB hbW; have hd1 := (HDC.out _ hBW).1; have hd2 := (HDC.out _ (hBW.alloc hBW.size (.cells #[.pointer (some q)] 63))).1; have HOB := Lib.hid (And.intro hob hBW); clear hob hne hbW)
          | (have hOW1 := (HOW.out W HOB.out.2).alloc (.cells #[.pointer (some q)] 63); have hCN := cells1_new W (.pointer (some q)) 63; refine step_append_lies _ (by rfl) (.tmp 28) (.tmp 31) 42 (by rfl) 0 63 j0 (.pointer none) 1 8 undSpans hj hy0 hy1 hy2 (by rfl) (by decide) (.slice A2 X2.length c2) X2.length (pV X2) (by rfl) hOW1 ⟨W.heap.size, 0, none⟩ 1 1 [.pointer (some q)] (by rfl) (by rfl) hCN (by simp [Value.oneCell']) (by decide) (by unfold maxLen; have := HXL.out; omega) (by have := HXL.out; omega) (Nat.zero_le _) _ (by rfl) ?_; intro g5 cap5 w5 hown' hgrow hat hlt5; obtain ⟨k1, k2⟩ := HD5.out _ _ (HOB.out.2.alloc HOB.out.2.size _) hgrow; have HA5 := Lib.hid (And.intro hown' (And.intro hgrow hat)); clear hown' hgrow hat hlt5 hOW1 hCN))
        all_goals
          go_wp2
          have HF := Lib.hid (cl_step HLI.out HB.out HWF.out HMK.out HOB.out.2 (HOB.out.1.mono (fun q hq => ⟨hq.1, hq.2⟩) (fun q hq => hq.2)) (bnew W (.cells #[.pointer (some q)] 63)) HA5.out.1 HA5.out.2.1 (HA5.out.2.2.elim (fun e => .inl e.symm) (fun e => .inr (by rw [e]; rfl))))
          go_roundw
          case rel => exact ⟨k + 1, _, HF.out.1.choose_spec.choose, by omega, by go_num, HF.out.1.choose_spec.choose_spec.2, HF.out.2⟩
          case measure => simp [intOf]; omega
      · obtain rfl : k = N := by omega
        have HE := Lib.hid (show ({ c with L := c.L.take k } : Ce) = c from by rw [List.take_of_length_le (by rw [HLL.out]; exact Nat.le_refl _)])
        clear hL
        go_wp2_with fail
        go_ret
        have h2 := HLI.out
        rw [HE.out] at h2
        exact ⟨_, rfl, h2.lob, ⟨(fun h => nomatch h), (fun h => nomatch h)⟩, HB.out⟩

end Go.Proofs.YtejfoefhaphacaaGreat
