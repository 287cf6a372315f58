/- The document's list: Take. -/
import Derived.Test.YtejfoefhaphacaaGreatDi
namespace Go.Proofs.YtejfoefhaphacaaGreat
open Go.RowKit Go.Sort Go.Shelf Go.Lib

def bI : Option Nat → Int
  | none => -1
  | some b => b
theorem owns_len {W : World} {base : Nat} {e : TypeId} {size n N cap : Nat} {A : Option Addr} {xs : List Value} (h : W.ownsRow base e size (.slice A N cap) n xs) : n = N := by
  rcases h.2 with ⟨e, rfl⟩ | ⟨_, _, _, e, _⟩
  · injection e with _ e _
    exact e.symm
  · injection e with _ e _
    exact e.symm
/-- The document's list while objects are taken. -/
structure TkD (w wr : World) (O : Nat → Prop) (B : Nat) (V : Value) (c : Ce) (out : List Nat) (L2 : List Mo) : Prop where
  st : ∃ X2, LiA true wr O B V X2 { c with L := L2 }
  kp : Keep O w wr
  tk : Tkn c.L out L2
section
variable {w wr w' : World} {O : Nat → Prop} {B : Nat} {V : Value} {X X2 : List Sn} {c : Ce} {out : List Nat} {L2 : List Mo}
theorem TkD.start (h : LiA true w O B V X c) : TkD w w O B V c [] c.L := ⟨⟨X, h⟩, Keep.refl _ _, Tkn.nil _⟩
theorem TkD.below (h : TkD w wr O B V c out L2) (hb : Below wr.heap.size wr w') : TkD w w' O B V c out L2 := by
  obtain ⟨X2, h2⟩ := h.st
  exact ⟨⟨X2, h2.below hb⟩, h.kp.trans (Keep.of hb), h.tk⟩
theorem TkD.row {t : Value} (hO : ∀ k, O k → k < w.heap.size) (h : TkD w wr O B V c out L2) (hg : wr.grownBy w' t.ownBlock) (ht : ∀ k, t.ownBlock = some k → w.heap.size ≤ k) : TkD w w' O B V c out L2 := by
  obtain ⟨X2, h2⟩ := h.st
  exact ⟨⟨X2, h2.keep (O1 := fun k => t.ownBlock = some k) ⟨hg.os, hg.tape, hg.output, hg.size, fun k hk ho => hg.block k hk (fun e => ho e.symm)⟩ (fun k h1 h2 => by have := hO k h1; have := ht k h2; omega)⟩, grown_keep h.kp hg (fun g hg' => .inr (ht g hg')), h.tk⟩
theorem TkD.step (h : TkD w wr O B V c out L2) (hX : LiA true wr O B V X2 { c with L := L2 }) {j o : Nat} {x : Sn} (hx : X2[j]? = some x) (ho : ff x.m = some o) (hb : bst L2 L2.length = some j) (hM : Mut true wr x.own (.pointer (some ⟨x.B, 0, none⟩)) (some (x.m.set o true)) w') :
    TkD w w' O B V c (out ++ [adr x.m o]) (L2.set j (x.m.set o true)) ∧ Keep O wr w' := by
  have hm : L2[j]? = some x.m := hX.at hx
  obtain ⟨hk, y, _, _, hst⟩ := hX.step hx hM (hX.wf.set hm o true)
  exact ⟨⟨⟨_, hst⟩, h.kp.trans (hk.mono fun _ _ ho => .inl ho), h.tk.snoc (stp_some hb hm ho)⟩, hk⟩
theorem TkD.outl (h : TkD w wr O B V c out L2) : out.length ≤ 131072 := by
  obtain ⟨X2, hX⟩ := h.st
  have h1 := tkL_sum out.length c.L
  have h2 := h.tk
  unfold Tkn at h2
  rw [h2] at h1
  have h3 := sumL_le (f := tc) (b := 128) L2 (fun m hm => by have := tc_le m; have := (hX.wf.sp m hm).wf.n2; omega)
  have h4 : L2.length ≤ 1024 := hX.wf.len
  have h5 := Nat.mul_le_mul_right 128 h4
  simp only at h1
  omega
theorem TkD.fin {n c6 : Nat} {A6 : Option Addr} (h : LiA true w O B V X c) (hrow : wr.ownsRow w.heap.size 3 1 (.slice A6 out.length c6) out.length (cellsI out)) (hM : TkD w wr O B V c out L2) (hfin : tkL n c.L = (out, L2)) :
    TkP true w O (.pointer (some ⟨B, 0, none⟩)) (tkL n c.L).1 0 (some { c with L := (tkL n c.L).2 }) (.returned (.tuple #[.slice A6 out.length c6, .int .i64 0])) wr := by
  obtain ⟨X2, hX⟩ := hM.st
  have hlat := lat_of hrow
  have hsh : LShp true w O (.pointer (some ⟨B, 0, none⟩)) (some { c with L := L2 }) A6 wr := LShp.of hX.lob
  have hz : A6 = none → c6 = 0 := fun h0 => by
    rcases hrow.2 with ⟨h1, _⟩ | ⟨g, cap, _, e1, _, _⟩
    · injection h1
    · cases e1; cases h0
  rw [hfin]
  exact ⟨A6, c6, rfl, hlat.1, ⟨hlat.2, hsh, hz⟩, ⟨(hX.mono (fun _ hk => .inl hk) (Ext.lt h.lt hM.kp.size)).lob, hM.kp⟩⟩
end

set_option maxRecDepth 100000 in
set_option maxHeartbeats 8000000 in
theorem dTake_some {O : Nat → Prop} {B : Nat} {V : Value} {X : List Sn} {c : Ce} {w : World} (h : LiA true w O B V X c) (n : Nat) (hn : n ≤ 9223372036854775807) :
    Calls Tryz.prog 26 #[.pointer (some ⟨B, 0, none⟩), .int .i64 n] w (TkP true w O (.pointer (some ⟨B, 0, none⟩)) (tkL n c.L).1 0 (some { c with L := (tkL n c.L).2 })) := by
  obtain ⟨i0, hi, hz0, hz1, hz2⟩ := info_parts info3
  have HM := Lib.hid (dmade_any h)
  have HH := Lib.hid h
  obtain ⟨A, cap, rfl⟩ := owns_form h.row
  obtain ⟨N, hN⟩ : ∃ N, X.length = N := ⟨_, rfl⟩
  have hN4 : N ≤ 1024 := by rw [← hN, h.len]; exact h.wf.len
  rw [hN] at HH
  have HST := Lib.hid (TkD.start HH.out)
  have HO1 := Lib.hid h.lt
  have hn0 : decide ((n : Int) < 0) = false := decide_eq_false (by omega)
  clear h hN
  go_enter Tryz.func26, Tryz.ntmps26
  go_wp2_with (go_at_call 23; refine HM.out.mono ?_; rintro e _ ⟨rfl, rfl⟩)
  go_loopw [6] (fun t wr => ∃ (out : List Nat) (L2 : List Mo), out.length ≤ n ∧ (∃ A2 c2, t = .slice A2 out.length c2) ∧ wr.ownsRow w.heap.size 3 1 t out.length (cellsI out) ∧ TkD w wr O B (.slice A N cap) c out L2) (fun t _ => n - lenV t)
  case atStart => exact ⟨[], c.L, Nat.zero_le _, ⟨none, 0, rfl⟩, World.ownsRow_nil _ _ _ _, HST.out⟩
  case round =>
    obtain ⟨out, L2, hon, ⟨A2, c2, rfl⟩, hrow, hM⟩ := hrel
    have HR := Lib.hid hrow
    have HMM := Lib.hid hM
    by_cases hl : out.length < n
    · obtain ⟨X2, hX⟩ := hM.st
      have hXN := owns_len hX.row
      have hLN : L2.length = N := by rw [← hXN]; exact hX.len.symm
      have HLN := Lib.hid hLN
      have HXN := Lib.hid hXN
      have HX := Lib.hid hX
      have hbnd := hM.outl
      clear hrow hM hX hXN hLN
      go_wp2_with fail
      clear hn0
      obtain ⟨W0, hW0⟩ : ∃ W0, wr = W0 := ⟨_, rfl⟩
      subst hW0
      go_loopw [7, 8] (fun bv i wv => ∃ k : Nat, k ≤ N ∧ i = .int .i64 k ∧ bv = .int .i64 (bI (bst L2 k)) ∧ Below wr.heap.size wr wv) (fun _ i _ => N - (intOf i).toNat)
      case atStart => exact ⟨0, by omega, rfl, rfl, Below.refl _ _⟩
      case round =>
        obtain ⟨k, hk, rfl, rfl, hb⟩ := hrel
        have HB := Lib.hid hb
        have hLi := HX.out.below hb
        have HLi := Lib.hid hLi
        have c3 : wr.cell? ⟨B, 3, none⟩ = some (.slice A N cap) := hLi.cells.2.2.2
        by_cases hlt : k < N
        · obtain ⟨x, hx⟩ : ∃ x, X2[k]? = some x := ⟨_, List.getElem?_eq_getElem (by have := HXN.out; omega)⟩
          obtain ⟨g, cap2, hV, hc⟩ := hLi.slot hx
          obtain ⟨rfl, rfl⟩ : A = some ⟨g, 0, none⟩ ∧ cap = cap2 := by injection hV; exact ⟨by assumption, by assumption⟩
          clear hV
          have hcx : L2[k]? = some x.m := hLi.at hx
          have HCX := Lib.hid hcx
          have htl := tc_le x.m
          have hn2 := (hLi.wf.at hcx).wf.n2
          have HRT := Lib.hid (fun W (hb2 : Below wr.heap.size wr W) => show Calls Tryz.prog 60 #[.pointer (some ⟨x.B, 0, none⟩)] W fun e w' => e = .returned (.int .i64 (tc x.m : Nat)) ∧ Below W.heap.size W w' from rTaken_any ((HLi.out.below hb2).span hx))
          have HRO := Lib.hid (fun W (hb2 : Below wr.heap.size wr W) => show Calls Tryz.prog 61 #[.pointer (some ⟨x.B, 0, none⟩)] W fun e w' => e = .returned (.int .i64 (x.m.n : Nat)) ∧ Below W.heap.size W w' from (rObjects_any ((HLi.out.below hb2).span hx)).mono fun _ _ h => ⟨h.1, by rw [← h.2]; exact Below.refl _ _⟩)
          have hkN : k < N := hlt
          go_wp2_with fail
          have G3 := CW.cell (N := wr.heap.size) (a := ⟨B, 3, none⟩) (World.block_lt_of_cell? _ _ c3) c3
          have G5 := CW.cell (N := wr.heap.size) (a := ⟨g, k, none⟩) (World.block_lt_of_cell? _ _ hc) hc
          by_cases hf : tc x.m < x.m.n
          · cases hbk : bst L2 k with
            | none =>
              have HS := Lib.hid (bst_first hcx hf hbk)
              rw [show bI none = -1 from rfl]
              have d1 : decide ((tc x.m : Int) < (x.m.n : Int)) = true := decide_eq_true (by omega)
              have d1n : decide (tc x.m < x.m.n) = true := decide_eq_true (by omega)
              clear c3 hc hcx hbk hb hf hx hLi
              generalize tc x.m = tm at *
              generalize x.m.n = nm at *
              generalize x.B = xb at *
              refine region_below2 (CW.mk (N := wr.heap.size) wr (Below.refl _ _)) (by kernel_rfl) (by kernel_rfl) ?_
              repeat (first | go_big_quiet_step (first | (go_at_call 60; exact quietB2 HRT.out) | (go_at_call 61; exact quietB2 HRO.out)) | quiet_step (first | (go_at_call 60; exact quietB2 HRT.out) | (go_at_call 61; exact quietB2 HRO.out)))
              refine wpQuiet_nil ?_
              rintro _ ⟨nq, rfl⟩
              have HQ := Lib.hid (btr HB.out nq.bel (Nat.le_refl _))
              generalize nq.wd = wq at *
              go_wp2_with fail
              go_roundw
              case rel => exact ⟨k + 1, by omega, by go_num, by rw [HS.out]; rfl, HQ.out⟩
              case measure => simp [intOf]; omega
            | some bb =>
              have hbk2 := ((bst_spec L2 k).1 bb hbk).lt
              obtain ⟨y, hy⟩ : ∃ y, X2[bb]? = some y := ⟨_, List.getElem?_eq_getElem (by have := HXN.out; omega)⟩
              have hcy : L2[bb]? = some y.m := hLi.at hy
              obtain ⟨g', cap', hV', hc'⟩ := hLi.slot hy
              obtain rfl : g = g' := by injection hV' with e1 _ _; injection e1 with e1; injection e1
              have HTA := tcA_at hcy
              have HRY := Lib.hid (fun W (hb2 : Below wr.heap.size wr W) => show Calls Tryz.prog 60 #[.pointer (some ⟨y.B, 0, none⟩)] W fun e w' => e = .returned (.int .i64 (tc y.m : Nat)) ∧ Below W.heap.size W w' from rTaken_any ((HLi.out.below hb2).span hy))
              have G4 := CW.cell (N := wr.heap.size) (a := ⟨g, bb, none⟩) (World.block_lt_of_cell? _ _ hc') hc'
              have d2 : decide ((bb : Int) < 0) = false := decide_eq_false (by omega)
              have d1 : decide ((tc x.m : Int) < (x.m.n : Int)) = true := decide_eq_true (by omega)
              have d1n : decide (tc x.m < x.m.n) = true := decide_eq_true (by omega)
              rw [show bI (some bb) = (bb : Int) from rfl]
              have hbN : bb < N := by omega
              by_cases hg : tc y.m < tc x.m
              · have HS := Lib.hid (bst_more hcx hf hbk (by rw [HTA]; exact hg))
                have d3 : decide ((tc y.m : Int) < (tc x.m : Int)) = true := decide_eq_true (by omega)
                have d3n : decide (tc y.m < tc x.m) = true := decide_eq_true (by omega)
                clear c3 hc hcx hbk hb hf hx hLi hcy hy hV' hc' HTA hg
                generalize tc x.m = tm at *
                generalize x.m.n = nm at *
                generalize tc y.m = ty at *
                generalize x.B = xb at *
                generalize y.B = yb at *
                refine region_below2 (CW.mk (N := wr.heap.size) wr (Below.refl _ _)) (by kernel_rfl) (by kernel_rfl) ?_
                repeat (first | go_big_quiet_step (first | (go_at_call 60; first | exact quietB2 HRT.out | exact quietB2 HRY.out) | (go_at_call 61; exact quietB2 HRO.out)) | quiet_step (first | (go_at_call 60; first | exact quietB2 HRT.out | exact quietB2 HRY.out) | (go_at_call 61; exact quietB2 HRO.out)))
                refine wpQuiet_nil ?_
                rintro _ ⟨nq, rfl⟩
                have HQ := Lib.hid (btr HB.out nq.bel (Nat.le_refl _))
                generalize nq.wd = wq at *
                go_wp2_with fail
                go_roundw
                case rel => exact ⟨k + 1, by omega, by go_num, by rw [HS.out]; rfl, HQ.out⟩
                case measure => simp [intOf]; omega
              · have HS := Lib.hid (bst_less hcx hf hbk (by rw [HTA]; exact hg))
                have d3 : decide ((tc y.m : Int) < (tc x.m : Int)) = false := decide_eq_false (by omega)
                have d3n : decide (tc y.m < tc x.m) = false := decide_eq_false (by omega)
                clear c3 hc hcx hbk hb hf hx hLi hcy hy hV' hc' HTA hg
                generalize tc x.m = tm at *
                generalize x.m.n = nm at *
                generalize tc y.m = ty at *
                generalize x.B = xb at *
                generalize y.B = yb at *
                refine region_below2 (CW.mk (N := wr.heap.size) wr (Below.refl _ _)) (by kernel_rfl) (by kernel_rfl) ?_
                repeat (first | go_big_quiet_step (first | (go_at_call 60; first | exact quietB2 HRT.out | exact quietB2 HRY.out) | (go_at_call 61; exact quietB2 HRO.out)) | quiet_step (first | (go_at_call 60; first | exact quietB2 HRT.out | exact quietB2 HRY.out) | (go_at_call 61; exact quietB2 HRO.out)))
                refine wpQuiet_nil ?_
                rintro _ ⟨nq, rfl⟩
                have HQ := Lib.hid (btr HB.out nq.bel (Nat.le_refl _))
                generalize nq.wd = wq at *
                go_wp2_with fail
                go_roundw
                case rel => exact ⟨k + 1, by omega, by go_num, by rw [HS.out]; rfl, HQ.out⟩
                case measure => simp [intOf]; omega
          · have HS := Lib.hid (bst_full hcx hf)
            have d1 : decide ((tc x.m : Int) < (x.m.n : Int)) = false := decide_eq_false (by omega)
            have d1n : decide (tc x.m < x.m.n) = false := decide_eq_false (by omega)
            clear c3 hc hcx hb hf hx hLi
            generalize tc x.m = tm at *
            generalize x.m.n = nm at *
            generalize x.B = xb at *
            generalize hbv : bI (bst L2 k) = bv at *
            refine region_below2 (CW.mk (N := wr.heap.size) wr (Below.refl _ _)) (by kernel_rfl) (by kernel_rfl) ?_
            repeat (first | go_big_quiet_step (first | (go_at_call 60; exact quietB2 HRT.out) | (go_at_call 61; exact quietB2 HRO.out)) | quiet_step (first | (go_at_call 60; exact quietB2 HRT.out) | (go_at_call 61; exact quietB2 HRO.out)))
            refine wpQuiet_nil ?_
            rintro _ ⟨nq, rfl⟩
            have HQ := Lib.hid (btr HB.out nq.bel (Nat.le_refl _))
            generalize nq.wd = wq at *
            go_wp2_with fail
            go_roundw
            case rel => exact ⟨k + 1, by omega, by go_num, by rw [HS.out, hbv], HQ.out⟩
            case measure => simp [intOf]; omega
        · obtain rfl : k = N := by omega
          cases hbk : bst L2 k with
          | none =>
            have HFIN := Lib.hid (HMM.out.tk.all (stp_none (by rw [HLN.out]; exact hbk)) hon)
            rw [show bI none = -1 from rfl]
            clear hb hLi hbk
            go_wp2_with fail
            go_ret2
            exact TkD.fin HH.out (owns_below HR.out HB.out) (HMM.out.below HB.out) HFIN.out
          | some bb =>
            obtain ⟨m, hm, hf⟩ := ((bst_spec L2 k).1 bb hbk).free
            have hbl := ((bst_spec L2 k).1 bb hbk).lt
            obtain ⟨y, hy⟩ : ∃ y, X2[bb]? = some y := ⟨_, List.getElem?_eq_getElem (by have := HXN.out; omega)⟩
            obtain rfl : y.m = m := by have h1 : L2[bb]? = some y.m := hLi.at hy; rw [h1] at hm; injection hm
            obtain ⟨o, ho⟩ := ff_tc hf
            have hT := rTake_any (hLi.span hy)
            rw [tkV_some ho, tkE_some ho, tkD_some ho] at hT
            have HT := Lib.hid hT
            obtain ⟨g, cap2, hV, hc⟩ := hLi.slot hy
            obtain ⟨rfl, rfl⟩ : A = some ⟨g, 0, none⟩ ∧ cap = cap2 := by injection hV; exact ⟨by assumption, by assumption⟩
            have d2 : decide ((bb : Int) < 0) = false := decide_eq_false (by omega)
            have HST2 := Lib.hid (fun w3 hmt => TkD.step (w' := w3) (HMM.out.below HB.out) HLi.out hy ho (by rw [HLN.out]; exact hbk) hmt)
            have HR1 := Lib.hid (owns_below HR.out HB.out)
            rw [show bI (some bb) = (bb : Int) from rfl]
            clear hm hf hy hT hV hb hLi hbk ho
            generalize adr y.m o = ad at *
            go_wp2_with (first
              | (go_at_call 62; refine HT.out.mono ?_; rintro e w3 ⟨rfl, hmt⟩; have hs := HST2.out w3 hmt; have HS := Lib.hid hs; have hr3 : w3.ownsRow w.heap.size 3 1 (.slice A2 out.length c2) out.length (cellsI out) := owns_block HR1.out (fun q hq hl => hs.2.block q hl (fun ho => by have := (owns_at HR1.out hq).1; have := HO1.out q ho; omega)); have HR3 := Lib.hid hr3; clear hmt hs hr3)
              | (at_builtin; refine wpList_append_own _ rfl _ _ 34 rfl w.heap.size 3 i0 (.int .i64 0) 1 8 Tryz.underlying34 hi hz0 hz1 hz2 rfl (by decide) _ _ _ rfl (HR3.out.alloc _) ⟨w3.heap.size, 0, none⟩ 1 1 [.int .i64 (ad : Nat)] rfl rfl (cells1_new w3 _ _) (by simp [Value.oneCell']) (by unfold maxLen; omega) (by omega) (by have := HS.out.1.kp.size; simp; omega) ?_; intro v' w4 hown' hgrow _; have HO4 := Lib.hid (And.intro hown' hgrow); obtain ⟨A4, c4, rfl⟩ := owns_form hown'; clear hown' hgrow))
            have HM4 := Lib.hid ((HS.out.1.below (bnew w3 (.cells #[.int .i64 (ad : Nat)] 3))).row HO1.out HO4.out.2 (fun k e => (HR3.out.lt k e).1))
            have hlen4 : (out ++ [ad]).length = out.length + 1 := by rw [List.length_append]; rfl
            have HL4 := Lib.hid hlen4
            clear hlen4
            go_roundw
            case rel => exact ⟨out ++ [ad], _, by rw [HL4.out]; omega, ⟨A4, c4, by rw [HL4.out]⟩, by rw [HL4.out, cellsI_snoc]; exact HO4.out.1, HM4.out⟩
            case measure => simp [lenV]; omega
    · have heq : out.length = n := by omega
      have HFIN := Lib.hid (show tkL n c.L = (out, L2) from by
        have := HMM.out.tk
        unfold Tkn at this
        rw [heq] at this
        exact this)
      clear hrow hM heq
      go_wp2_with fail
      go_ret2
      exact TkD.fin HH.out HR.out HMM.out HFIN.out

theorem dTake_any {O : Nat → Prop} {v : Value} {om : Option Ce} {w : World} (h : LOb true w O v om) (n : Int) (hn : InR n) :
    Calls Tryz.prog 26 #[v, .int .i64 n] w (TkP true w O v (tkR om n) (tkEr om n) (tkDr om n)) := by
  cases om with
  | none =>
    have HH := Lib.hid h
    have HM := Lib.hid (dmade_no h.1)
    clear h
    go_enter Tryz.func26, Tryz.ntmps26
    go_wp2_with (go_at_call 23; refine HM.out.mono ?_; rintro e w1 ⟨rfl, rfl⟩)
    go_ret2
    exact ⟨none, 0, rfl, fun i x hi => by simp [tkR] at hi, ⟨(fun x hx => nomatch hx), LShp.same HH.out (Below.refl _ _), fun _ => rfl⟩, LMut.same HH.out (Below.refl _ _)⟩
  | some c =>
    obtain ⟨B, V, X, rfl, h⟩ := h
    by_cases hneg : n < 0
    · have HM := Lib.hid (dmade_any h)
      have HH := Lib.hid h
      rw [show tkR (some c) n = [] from if_pos hneg, show tkEr (some c) n = 1 from if_pos hneg, show tkDr (some c) n = some c from if_pos hneg]
      clear h
      go_enter Tryz.func26, Tryz.ntmps26
      go_wp2_with (go_at_call 23; refine HM.out.mono ?_; rintro e w1 ⟨rfl, rfl⟩)
      go_ret2
      exact ⟨none, 0, rfl, fun i x hi => by simp at hi, ⟨(fun x hx => nomatch hx), LShp.same HH.out.lob (Below.refl _ _), fun _ => rfl⟩, LMut.same HH.out.lob (Below.refl _ _)⟩
    · rw [show tkR (some c) n = (tkL n.toNat c.L).1 from if_neg hneg, show tkEr (some c) n = 0 from if_neg hneg, show tkDr (some c) n = some { c with L := (tkL n.toNat c.L).2 } from if_neg hneg]
      have h2 := dTake_some h n.toNat (by unfold InR at hn; omega)
      rw [show ((n.toNat : Nat) : Int) = n by omega] at h2
      exact h2
end Go.Proofs.YtejfoefhaphacaaGreat
