/- The document's list: Clone. -/
import Derived.Test.YtejfoefhaphacaaGreatDf
namespace Go.Proofs.YtejfoefhaphacaaGreat
open Go.RowKit Go.Shelf Go.Lib

set_option maxRecDepth 100000 in
set_option maxHeartbeats 8000000 in
theorem dClone_any {O : Nat → Prop} {v : Value} {om : Option Ce} {w : World} (h : LOb true w O v om) : Calls Tryz.prog 10 #[v] w (LClnP true w om) := by
  cases om with
  | none =>
    have HM := Lib.hid (dmade_no h.1)
    clear h
    go_enter Tryz.func10, Tryz.ntmps10
    go_wp2_with (go_at_call 23; refine HM.out.mono ?_; rintro e w1 ⟨rfl, rfl⟩)
    go_ret
    exact ⟨none, rfl, ⟨.inl rfl, fun _ hk => hk.2⟩, ⟨fun _ => rfl, fun _ => rfl⟩, Below.refl _ _⟩
  | some c =>
    obtain ⟨j0, hj, hy0, hy1, hy2⟩ := info_parts infoPRS
    obtain ⟨B, V, X, rfl, h⟩ := h
    have HM := Lib.hid (dmade_any h)
    have HH := Lib.hid h
    have hmax : X.length ≤ 1024 := by rw [h.len]; exact h.wf.len
    obtain ⟨A, cap, rfl⟩ := owns_form h.row
    obtain ⟨d0, d1, d2, d3⟩ := h.cells
    obtain ⟨N, hN⟩ : ∃ N, X.length = N := ⟨_, rfl⟩
    have HN := Lib.hid hN
    rw [hN] at hmax
    obtain ⟨Z, hZ⟩ : ∃ Z, Z = w.heap.size := ⟨_, rfl⟩
    obtain ⟨W0, hW0⟩ : ∃ W0, w.alloc (.cells #[.int .i64 c.z, .int .i64 c.g, .int .i64 c.t, .slice none 0 0] 62) = W0 := ⟨_, rfl⟩
    have hst := cl_start (r := true) (t := 62) (by decide) h.wf (Below.refl w.heap.size w) hZ
    rw [hW0] at hst
    have hb0 : Below w.heap.size w W0 := by rw [← hW0]; exact bnew _ _
    have HST := Lib.hid (And.intro hst hb0)
    have HWF := Lib.hid h.wf
    have HLL := Lib.hid (show c.L.length = N by rw [← h.len]; exact hN)
    subst hZ
    clear h hN hst hb0
    go_enter Tryz.func10, Tryz.ntmps10
    go_wp2_with (go_at_call 23; refine HM.out.mono ?_; rintro e w1 ⟨rfl, rfl⟩)
    clear hW0 d0 d1 d2 d3
    go_loopw [4] (fun i wr => ∃ (k : Nat) (V2 : Value) (X2 : List Sn), k ≤ N ∧ i = .int .i64 k ∧ LiA true wr (Nw w wr) w.heap.size V2 X2 { c with L := c.L.take k } ∧ Below w.heap.size w wr) (fun i _ => N - (intOf i).toNat)
    case atStart => exact ⟨0, _, _, by omega, rfl, HST.out.1, HST.out.2⟩
    case round =>
      clear HST
      obtain ⟨k, V2, X2, hk, rfl, hL, hb⟩ := hrel
      obtain ⟨A2, c2, rfl⟩ := owns_form hL.row
      have c3 := (HH.out.below hb).cells.2.2.2
      rw [HN.out] at c3
      have HLI := Lib.hid hL
      have HB := Lib.hid hb
      by_cases hlt : k < N
      · obtain ⟨x, hx⟩ : ∃ x, X[k]? = some x := ⟨_, List.getElem?_eq_getElem (by have := HN.out; omega)⟩
        obtain ⟨g, cap2, hV, hc⟩ := (HH.out.below hb).slot hx
        obtain ⟨rfl, rfl⟩ : A = some ⟨g, 0, none⟩ ∧ cap = cap2 := by injection hV; exact ⟨by assumption, by assumption⟩
        have HMK := Lib.hid (HH.out.at hx)
        have HCL := Lib.hid (rClone_any ((HH.out.below hb).span hx))
        have hXl : X2.length = k := by rw [hL.len]; show (c.L.take k).length = k; rw [List.length_take]; have := HLL.out; omega
        have HXL := Lib.hid hXl
        have hzl := hL.hd.lt
        have HDC := Lib.hid (fun w' (hb : Below wr.heap.size wr w') => And.intro ((hb.cell (p := ⟨w.heap.size, 3, none⟩) hzl).trans hL.cells.2.2.2) (show w'.frozen? ⟨w.heap.size, 3, none⟩ = false from by rw [World.frozen?_of_block (a := ⟨w.heap.size, 3, none⟩) (hb.block _ hzl)]; exact hL.hd.free 3 (by omega)))
        have HOW := Lib.hid (fun w' (hb : Below wr.heap.size wr w') => owns_below hL.row hb)
        have HD5 := Lib.hid (fun (w4 w5 : World) (hb : Below wr.heap.size wr w4) (hgr : w4.grownBy w5 (Value.slice A2 X2.length c2).ownBlock) => show w5.cell? ⟨w.heap.size, 3, none⟩ = some (.slice A2 X2.length c2) ∧ w5.frozen? ⟨w.heap.size, 3, none⟩ = false from by
          have hB5 : w5.heap[w.heap.size]? = w4.heap[w.heap.size]? := hgr.block _ (Nat.lt_of_lt_of_le hzl hb.size) (fun e => (hL.rowO _ e.symm).2 rfl)
          have h5 := (hL.below hb).hd.of_block hB5
          exact ⟨h5.cell 3 (by omega), h5.free 3 (by omega)⟩)
        clear hL hV hx hXl hb hzl
        go_wp2_with fail
        refine HCL.out.mono ?_
        rintro e W ⟨p, rfl, hob, hn0, hne, hbW⟩
        obtain ⟨q, rfl⟩ : ∃ q, p = some q := (by cases p with | none => exact absurd rfl (hne (by simp)) | some q => exact ⟨q, rfl⟩)
        have HOB := Lib.hid (And.intro hob hbW)
        obtain ⟨e3, _⟩ := HDC.out _ hbW
        clear hob hn0 hne hbW c3 hc
        go_wp2_with (at_builtin; refine wpList_append_own_at _ rfl _ _ 60 rfl 0 65 j0 (.pointer none) 1 8 undDSpans hj hy0 hy1 hy2 rfl (by decide) (.slice A2 X2.length c2) X2.length (pV X2) rfl ((HOW.out W HOB.out.2).alloc (.cells #[.pointer (some q)] 65)) ⟨W.heap.size, 0, none⟩ 1 1 [.pointer (some q)] rfl rfl (World.news_of_block (World.alloc_heap_new W _)) (by simp [Value.oneCell']) (by unfold maxLen; have := HXL.out; omega) (by have := HXL.out; omega) (Nat.zero_le _) ?_; intro v5 w5 hown' hgrow _ hat; have HA5 := Lib.hid (And.intro hown' (And.intro hgrow hat)); obtain ⟨k1, k2⟩ := HD5.out _ _ (HOB.out.2.alloc HOB.out.2.size _) hgrow; obtain ⟨A9, c9, rfl⟩ := owns_form hown'; clear hown' hgrow hat)
        have HF := Lib.hid (cl_step HLI.out HB.out HWF.out HMK.out HOB.out.2 HOB.out.1 (bnew W (.cells #[.pointer (some q)] 65)) HA5.out.1 HA5.out.2.1 (HA5.out.2.2.elim .inl (fun e => .inr e)))
        go_roundw
        case rel => exact ⟨k + 1, _, HF.out.1.choose_spec.choose, by omega, by go_num, HF.out.1.choose_spec.choose_spec.2, HF.out.2⟩
        case measure => simp [intOf]; omega
      · obtain rfl : k = N := by omega
        have HE := Lib.hid (show ({ c with L := c.L.take k } : Ce) = c from by rw [List.take_of_length_le (by rw [HLL.out]; exact Nat.le_refl _)])
        clear hL hb
        go_wp2_with fail
        go_ret
        have h2 := HLI.out
        rw [HE.out] at h2
        exact ⟨_, rfl, h2.lob, ⟨(fun h => nomatch h), (fun h => nomatch h)⟩, HB.out⟩
end Go.Proofs.YtejfoefhaphacaaGreat
