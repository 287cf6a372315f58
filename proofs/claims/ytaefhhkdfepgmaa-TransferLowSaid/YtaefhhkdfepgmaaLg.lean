/- Package transfer: Clone. -/
import Derived.Test.YtaefhhkdfepgmaaLf
namespace Go.Proofs.Ytaefhhkdfepgmaa
open Go.RowKit Go.Lib

/-- What Clone of a cache leaves. -/
def TClnP (r : Bool) (w : World) (om : Option Tc) (e : Ending) (w' : World) : Prop := ∃ p, e = .returned (.pointer p) ∧ TOb r w' (Nw w w') (.pointer p) om ∧ (om = none ↔ p = none) ∧ Below w.heap.size w w'
def part (c : Tc) (k : Nat) : Tc := { c with L := c.L.take k, lo := 0 }
theorem part_wf {c : Tc} (h : TWf c) (k : Nat) : TWf (part c k) := ⟨h.b1, h.b2, h.r2, by show (c.L.take k).length ≤ c.r; rw [List.length_take]; have := h.len; omega, Nat.zero_le _, fun x hx => h.sz x (List.mem_of_mem_take hx)⟩
theorem part_next {c : Tc} {k : Nat} {l : List Int} (h : c.L[k]? = some l) : part c (k + 1) = { part c k with L := (part c k).L ++ [l] } := by
  show ({ c with L := c.L.take (k + 1), lo := 0 } : Tc) = { c with L := c.L.take k ++ [l], lo := 0 }
  rw [List.take_add_one, h]; rfl
/-- A cache of one's own, without batches yet. -/
theorem cl_start {r : Bool} {w w' : World} {c : Tc} {t : TypeId} (hwf : TWf c) (hb : Below w.heap.size w w') :
    TcB r (w'.alloc (.cells #[.int .i64 c.b, .int .i64 c.r, tF r c (.slice none 0 0) 2, tF r c (.slice none 0 0) 3] t)) (Nw w (w'.alloc (.cells #[.int .i64 c.b, .int .i64 c.r, tF r c (.slice none 0 0) 2, tF r c (.slice none 0 0) 3] t))) w'.heap.size (.slice none 0 0) [] (part c 0) c.lo := by
  have hs := hb.size
  refine ⟨part_wf hwf 0, (Cl.new w').congr fun i hi => ?_, OffR.nil _ _, (fun g hg => nomatch hg), ⟨hs, by simp⟩, (fun x hx => by cases hx), (fun x hx => by cases hx), rfl, fun k hk => hk.2⟩
  have : i = 0 ∨ i = 1 ∨ i = 2 ∨ i = 3 := by omega
  rcases this with rfl | rfl | rfl | rfl <;> cases r <;> simp [tF, part]
/-- A batch's clone is put behind the others. -/
theorem cl_step {r : Bool} {w wr W w5 w6 : World} {Z k : Nat} {V v' : Value} {X : List Bt} {c : Tc} {x : Bt} {tmp : Obj} (h : TcB r wr (Nw w wr) Z V X (part c k) c.lo) (hbw : Below w.heap.size w wr) (hwf : TWf c) (hk : c.L[k]? = some x.l)
    (hb : Below wr.heap.size wr W) (hx : BtAt W x) (hxg : wr.heap.size ≤ x.g) (hrow : OffR w5 32 v' (bV X ++ [x.v])) (hgr : (W.alloc tmp).grownBy w5 V.ownBlock) (hat : v'.ownBlock = V.ownBlock ∨ v'.ownBlock = some (W.alloc tmp).heap.size)
    (hs : w6 = w5.setCell ⟨Z, (if r = true then 2 else 3), none⟩ v') : TcB r w6 (Nw w w6) Z v' (X ++ [x]) (part c (k + 1)) c.lo ∧ Below w.heap.size w w6 := by
  obtain ⟨h4, h5⟩ := h.add hb hx hxg hrow hgr hat hs (part_wf hwf (k + 1)) (part_next hk)
  have s0 := hbw.size
  have s1 := h5.size
  refine ⟨⟨h4.wf, h4.hd, h4.row, fun g hg => ⟨?_, (h4.rowO g hg).2⟩, ?_, h4.bt, fun y hy => ⟨?_, (h4.bo y hy).2⟩, h4.ms, fun k hk => hk.2⟩, hbw.trans (h5.below s0 (fun q hq => hq.1))⟩
  · exact nwx (h4.rowO g hg).1 s0 s1
  · exact nwx h4.ob s0 s1
  · exact nwx (h4.bo y hy).1 s0 s1
where
  nwx {w wr w6 : World} {k : Nat} (h : Ext (Nw w wr) wr w6 k) (s0 : w.heap.size ≤ wr.heap.size) (s1 : wr.heap.size ≤ w6.heap.size) : Nw w w6 k := by
    rcases h with h | h
    · exact ⟨h.1, by have := h.2; omega⟩
    · exact ⟨by omega, h.2⟩
theorem cl_end {r : Bool} {w wr : World} {Z : Nat} {V : Value} {X : List Bt} {c : Tc} (h : TcB r wr (Nw w wr) Z V X (part c c.L.length) c.lo) (hwf : TWf c) : TcA r wr (Nw w wr) Z V X c := by
  have e : c.L.take c.L.length = c.L := List.take_of_length_le (Nat.le_refl _)
  have hd := h.hd
  have hm := h.ms
  rw [show (part c c.L.length).L = c.L from e] at hm
  refine ⟨hwf, hd.congr fun i hi => ?_, h.row, h.rowO, h.ob, h.bt, h.bo, hm, h.lt⟩
  cases r <;> rfl

set_option maxRecDepth 100000 in
set_option maxHeartbeats 8000000 in
theorem cClone_any {O : Nat → Prop} {v : Value} {om : Option Tc} {w : World} (h : TOb false w O v om) : Calls Try.prog 13 #[v] w (TClnP false w om) := by
  cases om with
  | none =>
    have HM := Lib.hid (cmade_no h.1)
    clear h
    go_enter Try.func13, Try.ntmps13
    go_wp2_with (go_at_call 29; refine HM.out.mono ?_; rintro e w1 ⟨rfl, rfl⟩)
    go_ret
    exact ⟨none, rfl, ⟨.inl rfl, fun _ hk => hk.2⟩, ⟨fun _ => rfl, fun _ => rfl⟩, Below.refl _ _⟩
  | some c =>
    obtain ⟨j0, hj, hy0, hy1, hy2⟩ := info_parts infoInts
    obtain ⟨B, V, X, rfl, h⟩ := h
    have HM := Lib.hid (cmade_any h)
    have hmax : X.length ≤ 8 := h.n8
    obtain ⟨A, cap, rfl, h1, h2⟩ := h.form
    have c0 := h.cells.1
    have c1 := h.cells.2
    obtain ⟨c2, c3⟩ := h.pc
    have HX := Lib.hid (fun (k : Nat) (x : Bt) (hx : X[k]? = some x) => And.intro (h.at hx) (And.intro (h.bt x (List.mem_of_getElem? hx)) (h.blen hx)))
    have HSL := Lib.hid (fun (W : World) (hb : Below w.heap.size w W) (k : Nat) (x : Bt) (hx : X[k]? = some x) => (h.below hb).slot hx)
    have HLL := Lib.hid h.len
    obtain ⟨N, hN⟩ : ∃ N, X.length = N := ⟨_, rfl⟩
    have HN := Lib.hid hN
    have HWF := Lib.hid h.wf
    have hbb := And.intro h.wf.b1 h.wf.b2
    rw [hN] at c3 hmax HSL h1
    have hst := cl_start (r := false) (t := 42) h.wf (belowN (Below.refl w.heap.size w) 1)
    obtain ⟨W0, hW0⟩ : ∃ W0, w.drew.alloc (.cells #[.int .i64 c.b, .int .i64 c.r, .int .i64 c.lo, .slice none 0 0] 42) = W0 := ⟨_, rfl⟩
    have hb0 : Below w.heap.size w W0 := by rw [← hW0]; exact (belowN (Below.refl _ _) 1).alloc (Nat.le_refl _) _
    have d3 : W0.cell? ⟨B, 3, none⟩ = some (.slice A N cap) := (hb0.cell (p := ⟨B, 3, none⟩) (World.block_lt_of_cell? _ _ c3)).trans c3
    have HST := Lib.hid (And.intro (show TcB false W0 (Nw w W0) w.heap.size (.slice none 0 0) [] (part c 0) c.lo from hW0 ▸ hst) hb0)
    have hmx : Try.prog.follows .mixedOrders = true := by kernel_rfl
    obtain ⟨cb, hcb⟩ : ∃ cb, c.b = cb := ⟨_, rfl⟩
    have HCB := Lib.hid hcb
    rw [hcb] at hbb
    clear h hN hb0 hst hcb
    go_enter Try.func13, Try.ntmps13
    go_wp2_with (go_at_call 29; refine HM.out.mono ?_; rintro e w1 ⟨rfl, rfl⟩)
    go_still_tail 13, hmx
    change wpList _ _ _ _ _ w.drew
    go_wp2
    clear hW0 c0 c1 c2 c3 d3
    go_loopw [28] (fun i wr => ∃ (k : Nat) (V2 : Value) (X2 : List Bt), k ≤ N ∧ i = .int .i64 k ∧ TcB false wr (Nw w wr) w.heap.size V2 X2 (part c k) c.lo ∧ Below w.heap.size w wr) (fun i _ => N - (intOf i).toNat)
    case atStart => exact ⟨0, _, _, by omega, rfl, HST.out.1, HST.out.2⟩
    case round =>
      clear HST
      obtain ⟨k, V2, X2, hk, rfl, hL, hb⟩ := hrel
      have hform : ∃ A2 cap2, V2 = .slice A2 X2.length cap2 := by
        obtain ⟨A2, cap2, e, _⟩ := hL.row.form
        rw [bV_len] at e
        exact ⟨A2, cap2, e⟩
      obtain ⟨A2, c2, rfl⟩ := hform
      have HB := Lib.hid hb
      by_cases hlt : k < N
      · obtain ⟨x, hx⟩ : ∃ x, X[k]? = some x := ⟨_, List.getElem?_eq_getElem (by have := HN.out; omega)⟩
        obtain ⟨g, o, cap2, hV, hc⟩ := HSL.out _ hb k x hx
        obtain ⟨rfl, rfl⟩ : A = some ⟨g, o, none⟩ ∧ cap = cap2 := by injection hV; exact ⟨by assumption, by assumption⟩
        obtain ⟨hx1, hx2, hx3⟩ := HX.out k x hx
        have HMK := Lib.hid hx1
        have hxl : x.l.length = cb := by rw [hx3, HCB.out]
        have HXB := Lib.hid hxl
        have HCL := Lib.hid (show Calls Try.prog 30 #[.slice (some ⟨x.g, 0, none⟩) cb x.c] wr.drew (BtP wr.drew x.l cb) from by
          have := slClone_any (P := fun _ => True) (some ⟨x.g, 0, none⟩) x.c x.l wr.drew (by omega) (by omega) ((hx2.block (hb.block _ hx2.lt)).iat trivial)
          rw [hxl] at this
          exact this)
        rw [hxl] at hc
        have hXl : X2.length = k := by
          have h1 : (X2.map (·.l)).length = (part c k).L.length := by rw [hL.ms]
          rw [List.length_map] at h1
          rw [h1]
          show (c.L.take k).length = k
          rw [List.length_take]
          have := HLL.out
          have := HN.out
          omega
        have HXL := Lib.hid hXl
        rw [hXl] at hL
        have d3 : wr.cell? ⟨w.heap.size, 3, none⟩ = some (.slice A2 k c2) := hL.hd.cell 3 (by omega)
        have f3 := hL.hd.free 3 (by omega)
        have hzl := hL.hd.lt
        have HLI := Lib.hid hL
        have HDC := Lib.hid (fun w' (hb : Below wr.heap.size wr w') => And.intro ((hb.cell (p := ⟨w.heap.size, 3, none⟩) hzl).trans d3) (show w'.frozen? ⟨w.heap.size, 3, none⟩ = false from by rw [World.frozen?_of_block (a := ⟨w.heap.size, 3, none⟩) (hb.block _ hzl)]; exact f3))
        have HOW := Lib.hid (fun w' (hb : Below wr.heap.size wr w') => hL.row.below hb)
        have HD5 := Lib.hid (fun (w4 w5 : World) (hb : Below wr.heap.size wr w4) (hgr : w4.grownBy w5 (Value.slice A2 k c2).ownBlock) => show w5.cell? ⟨w.heap.size, 3, none⟩ = some (.slice A2 k c2) ∧ w5.frozen? ⟨w.heap.size, 3, none⟩ = false from by
          have hB5 : w5.heap[w.heap.size]? = wr.heap[w.heap.size]? := (hgr.block _ (Nat.lt_of_lt_of_le hzl hb.size) (fun e => (hL.rowO _ e.symm).2 rfl)).trans (hb.block _ hzl)
          have h5 := hL.hd.of_block hB5
          exact ⟨h5.cell 3 (by omega), h5.free 3 (by omega)⟩)
        clear hL hV hx hx1 hx2 hx3 hxl hXl hb
        go_wp2_with fail
        go_region_law
          (first
          | (go_simp; go_at_call 30; refine HCL.out.mono ?_; rintro e W ⟨xg, xc, rfl, hxg, hxa, hbW⟩; have hBW : Below wr.heap.size wr W := undrewB hbW; have hd1 := (HDC.out _ hBW).1; have hd2 := (HDC.out _ (hBW.alloc hBW.size (.cells #[.slice (some ⟨xg, 0, none⟩) cb xc] 32))).1; have HXX := Lib.hid (And.intro hxg (And.intro hxa hBW)); clear hxg hxa hbW)
          | (have hOW1 := (HOW.out W HXX.out.2.2).below (bnew W (.cells #[.slice (some ⟨xg, 0, none⟩) cb xc] 32)); have hCN := cells1_new W (.slice (some ⟨xg, 0, none⟩) cb xc) 32; refine step_append_off _ (by rfl) (.tmp 36) (.tmp 39) 40 (by rfl) 32 j0 (.slice none 0 0) 24 undLL hj hy0 hy1 hy2 (by rfl) (.slice A2 k c2) (bV X2) (by rfl) hOW1 ⟨W.heap.size, 0, none⟩ 1 (.slice (some ⟨xg, 0, none⟩) cb xc) (by rfl) hCN (add0 _) (by rfl) (by rw [bV_len, HXL.out]; unfold maxLen; omega) (by rw [bV_len, HXL.out]; omega) ?_; intro g5 q5 cp5 w5 hown' hgrow hat; rw [bV_len, HXL.out] at hown' hat ⊢; obtain ⟨k1, k2⟩ := HD5.out _ _ (HXX.out.2.2.alloc HXX.out.2.2.size _) hgrow; have HA5 := Lib.hid (And.intro hown' (And.intro hgrow hat)); clear hown' hgrow hat hOW1 hCN))
        all_goals
          go_wp2
          have hv : (⟨xg, x.l, xc⟩ : Bt).v = .slice (some ⟨xg, 0, none⟩) cb xc := by rw [← HXB.out]; rfl
          have HF := Lib.hid (cl_step (r := false) (x := ⟨xg, x.l, xc⟩) HLI.out HB.out HWF.out HMK.out HXX.out.2.2 HXX.out.2.1 HXX.out.1 (by rw [hv]; exact HA5.out.1) HA5.out.2.1 HA5.out.2.2 rfl)
          clear hv
          go_roundw
          case rel => exact ⟨k + 1, _, _, by omega, by go_num, HF.out.1, HF.out.2⟩
          case measure => simp [intOf]; omega
      · obtain rfl : k = N := by omega
        have HF := Lib.hid (show TcA false wr (Nw w wr) w.heap.size (.slice A2 X2.length c2) X2 c from cl_end (by rw [← HLL.out, HN.out]; exact hL) HWF.out)
        clear hL hb
        go_wp2_with fail
        go_ret
        exact ⟨_, rfl, HF.out.ob', ⟨(fun h => nomatch h), (fun h => nomatch h)⟩, HB.out⟩
end Go.Proofs.Ytaefhhkdfepgmaa
