/- Package central: Take. -/
import Derived.Test.YtejfoefhaphacaaGreatCi
namespace Go.Proofs.YtejfoefhaphacaaGreat
open Go.RowKit Go.Sort Go.Shelf Go.Lib

def tkR : Option Ce → Int → List Nat
  | none, _ => []
  | some c, n => if n < 0 then [] else (tkL n.toNat c.L).1
def tkEr : Option Ce → Int → Int
  | none, _ => 5
  | some _, n => if n < 0 then 1 else 0
def tkDr : Option Ce → Int → Option Ce
  | none, _ => none
  | some c, n => if n < 0 then some c else some { c with L := (tkL n.toNat c.L).2 }
/-- What Take returns and leaves. -/
def TkP (r : Bool) (w : World) (O : Nat → Prop) (v : Value) (L : List Nat) (er : Int) (om : Option Ce) (e : Ending) (w' : World) : Prop := ∃ A c, e = .returned (.tuple #[.slice A L.length c, .int .i64 er]) ∧ LAt w' A L ∧ (NewA w A ∧ LShp r w O v om A w' ∧ (A = none → c = 0)) ∧ LMut r w O v om w'

theorem lat_of {w w' : World} {A : Option Addr} {c : Nat} {l : List Nat} (h : w'.ownsRow w.heap.size 3 1 (.slice A l.length c) l.length (cellsI l)) : LAt w' A l ∧ NewA w A := by
  refine ⟨fun i x hi => ?_, fun x hx => ?_⟩
  · have hu : (cellsI l)[i]? = some (.int .i64 (x : Nat)) := by unfold cellsI; rw [List.getElem?_map, hi]; rfl
    obtain ⟨g, cap, e1, _, e3, e4⟩ := owns_cell h hu
    cases e1
    exact ⟨g, rfl, e3, e4⟩
  · subst hx
    rcases h.2 with ⟨h0, _⟩ | ⟨g, cap, _, e, hb, _⟩
    · cases h0
    · cases e; exact hb

/-- The list while objects are taken. -/
structure TkM (w wr : World) (O : Nat → Prop) (B : Nat) (V : Value) (X X' : List Sn) (c : Ce) (out : List Nat) : Prop where
  st : LiA false wr O B V X' { c with L := X'.map (·.m) }
  bs : ∀ (j : Nat) (x x' : Sn), X[j]? = some x → X'[j]? = some x' → x'.B = x.B
  ln : X'.length = X.length
  kp : Keep O w wr
  tk : Tkn c.L out (X'.map (·.m))
section
variable {w wr w' : World} {O : Nat → Prop} {B : Nat} {V : Value} {X X' : List Sn} {c : Ce} {out : List Nat}
theorem TkM.start (h : LiA false w O B V X c) : TkM w w O B V X X c [] :=
  ⟨by rw [h.ms]; exact h, fun j x x' h1 h2 => by rw [h1] at h2; cases h2; rfl, rfl, Keep.refl _ _, by rw [h.ms]; exact Tkn.nil _⟩
theorem TkM.below (h : TkM w wr O B V X X' c out) (hb : Below wr.heap.size wr w') : TkM w w' O B V X X' c out :=
  ⟨h.st.below hb, h.bs, h.ln, h.kp.trans (Keep.of hb), h.tk⟩
/-- A row of the call's own has grown. -/
theorem TkM.row {t : Value} (hO : ∀ k, O k → k < w.heap.size) (h : TkM w wr O B V X X' c out) (hg : wr.grownBy w' t.ownBlock) (ht : ∀ k, t.ownBlock = some k → w.heap.size ≤ k) : TkM w w' O B V X X' c out :=
  ⟨h.st.keep (O1 := fun k => t.ownBlock = some k) ⟨hg.os, hg.tape, hg.output, hg.size, fun k hk ho => hg.block k hk (fun e => ho e.symm)⟩ (fun k h1 h2 => by have := hO k h1; have := ht k h2; omega), h.bs, h.ln,
    grown_keep h.kp hg (fun g hg' => .inr (ht g hg')), h.tk⟩
/-- An object has been taken of a span. -/
theorem TkM.step (h : TkM w wr O B V X X' c out) {j o : Nat} {x' : Sn} (hx' : X'[j]? = some x') (ho : ff x'.m = some o) (hb : bst (X'.map (·.m)) (X'.map (·.m)).length = some j) (hM : Mut false wr x'.own (.pointer (some ⟨x'.B, 0, none⟩)) (some (x'.m.set o true)) w') :
    ∃ x2 : Sn, x2.m = x'.m.set o true ∧ TkM w w' O B V X (X'.set j x2) c (out ++ [adr x'.m o]) ∧ Keep O wr w' := by
  have hm : (X'.map (·.m))[j]? = some x'.m := by rw [List.getElem?_map, hx']; rfl
  obtain ⟨hk, y, hyB, hym, hst⟩ := h.st.step hx' hM (h.st.wf.set hm o true)
  have hms : (X'.set j y).map (·.m) = (X'.map (·.m)).set j (x'.m.set o true) := by rw [List.map_set, hym]
  refine ⟨y, hym, ⟨?_, fun i x z h1 h2 => ?_, by rw [List.length_set, h.ln], h.kp.trans (hk.mono fun _ _ ho => .inl ho), ?_⟩, hk⟩
  · rw [hms]; exact hst
  · rw [List.getElem?_set] at h2
    split at h2
    · rename_i hji
      subst hji
      have hlt := (List.getElem?_eq_some_iff.1 hx').1
      have : y = z := by simpa [hlt] using h2
      subst this
      rw [hyB]
      exact h.bs j x x' h1 hx'
    · exact h.bs i x z h1 h2
  · rw [hms]
    exact h.tk.snoc (stp_some hb hm ho)
/-- Take of a full span leaves it. -/
theorem TkM.same (h : TkM w wr O B V X X' c out) {j : Nat} {x' : Sn} (hx' : X'[j]? = some x') (hM : Mut false wr x'.own (.pointer (some ⟨x'.B, 0, none⟩)) (some x'.m) w') :
    ∃ X2 : List Sn, TkM w w' O B V X X2 c out ∧ (∀ (i : Nat) (z : Sn), X2[i]? = some z → ∃ z0, X'[i]? = some z0 ∧ z0.m = z.m) ∧ Keep O wr w' := by
  have hm : (X'.map (·.m))[j]? = some x'.m := by rw [List.getElem?_map, hx']; rfl
  have hself : (X'.map (·.m)).set j x'.m = X'.map (·.m) := by
    refine List.ext_getElem? fun i => ?_
    rw [List.getElem?_set]
    split
    · rename_i hji
      subst hji
      rw [hm, if_pos (List.getElem?_eq_some_iff.1 hm).1]
    · rfl
  obtain ⟨hk, y, hyB, hym, hst⟩ := h.st.step hx' hM (by show CWf { c with L := (X'.map (·.m)).set j x'.m }; rw [hself]; exact h.st.wf)
  have hlt := (List.getElem?_eq_some_iff.1 hx').1
  have hms : (X'.set j y).map (·.m) = X'.map (·.m) := by rw [List.map_set, hym, hself]
  refine ⟨X'.set j y, ⟨?_, fun i x z h1 h2 => ?_, by rw [List.length_set, h.ln], h.kp.trans (hk.mono fun _ _ ho => .inl ho), by rw [hms]; exact h.tk⟩, fun i z h2 => ?_, hk⟩
  · rw [hms]
    have e : ({ c with L := (X'.map (·.m)).set j x'.m } : Ce) = { c with L := X'.map (·.m) } := by rw [hself]
    exact e ▸ hst
  · rw [List.getElem?_set] at h2
    split at h2
    · rename_i hji
      subst hji
      have : y = z := by simpa [hlt] using h2
      subst this
      rw [hyB]
      exact h.bs j x x' h1 hx'
    · exact h.bs i x z h1 h2
  · rw [List.getElem?_set] at h2
    split at h2
    · rename_i hji
      subst hji
      have : y = z := by simpa [hlt] using h2
      subst this
      exact ⟨x', hx', hym.symm⟩
    · exact ⟨z, h2, rfl⟩
theorem TkB.cong {X X' X2 Y : List Sn} {p : Nat} (h : TkB X X' Y p) (hc : ∀ (i : Nat) (z : Sn), X2[i]? = some z → ∃ z0, X'[i]? = some z0 ∧ z0.m = z.m) : TkB X X2 Y p := by
  refine ⟨⟨fun q i z z' hq e1 e2 e3 => ?_, fun q i z z' hq e1 e2 e3 => ?_⟩, fun i z z' e1 e2 e3 => ?_⟩
  · obtain ⟨z0, h0, e0⟩ := hc i z' e3
    rw [← e0]; exact h.full q i z z0 hq e1 e2 h0
  · obtain ⟨z0, h0, e0⟩ := hc i z' e3
    rw [← e0]; exact h.same q i z z0 hq e1 e2 h0
  · obtain ⟨z0, h0, e0⟩ := hc i z' e3
    rw [← e0]; exact h.here i z z0 e1 e2 h0
theorem TkM.outl (h : TkM w wr O B V X X' c out) : out.length ≤ 131072 := by
  have h1 := tkL_sum out.length c.L
  have h2 := h.tk
  unfold Tkn at h2
  rw [h2] at h1
  have h3 := sumL_le (f := tc) (b := 128) (X'.map (·.m)) (fun m hm => by have := tc_le m; have := (h.st.wf.sp m hm).wf.n2; omega)
  have h4 : (X'.map (·.m)).length ≤ 1024 := h.st.wf.len
  have h5 := Nat.mul_le_mul_right 128 h4
  simp only at h1
  omega
end

def lenV : Value → Nat
  | .slice _ n _ => n
  | _ => 0
set_option maxRecDepth 100000 in
set_option maxHeartbeats 8000000 in
theorem cTake_some {O : Nat → Prop} {B : Nat} {V : Value} {X : List Sn} {c : Ce} {w : World} (h : LiA false w O B V X c) (n : Nat) (hn : n ≤ 9223372036854775807) :
    Calls Tryz.prog 14 #[.pointer (some ⟨B, 0, none⟩), .int .i64 n] w (TkP false w O (.pointer (some ⟨B, 0, none⟩)) (tkL n c.L).1 0 (some { c with L := (tkL n c.L).2 })) := by
  obtain ⟨i0, hi, hz0, hz1, hz2⟩ := info_parts info3
  have HM := Lib.hid (cmade_any h)
  have HRK := Lib.hid (show Calls Tryz.prog 46 #[.pointer (some ⟨B, 0, none⟩)] w (fun e w' => ∃ A c Y, e = .returned (.slice A X.length c) ∧ Rkd X Y ∧ RkAt w' A Y ∧ NewA w A ∧ Below w.heap.size w w') from ranking_any h)
  have HH := Lib.hid h
  obtain ⟨N, hN⟩ : ∃ N, X.length = N := ⟨_, rfl⟩
  have HN := Lib.hid hN
  rw [hN] at HRK
  have hN4 : N ≤ 1024 := by rw [← hN, h.len]; exact h.wf.len
  have HWF := Lib.hid h.wf
  have HMS := Lib.hid h.ms
  have HDX := Lib.hid (nodup_at h.nodup)
  have hn0 : decide ((n : Int) < 0) = false := decide_eq_false (by omega)
  clear h hN
  go_enter Tryz.func14, Tryz.ntmps14
  go_wp2_with (first
    | (go_at_call 21; refine HM.out.mono ?_; rintro e _ ⟨rfl, rfl⟩)
    | (go_at_call 46; refine HRK.out.mono ?_; rintro e w1 ⟨RA, rc, Y, rfl, hY, hRA, hRN, hb1⟩; have HY := Lib.hid hY; have HRA := Lib.hid hRA; have HRN := Lib.hid hRN; have HB1 := Lib.hid hb1; clear hY hRA hRN hb1))
  have h1 := HH.out.below HB1.out
  have HO1 := Lib.hid h1.lt
  have HYL := Lib.hid (show Y.length = N by rw [HY.out.1.length_eq]; exact HN.out)
  have HDY := Lib.hid (nodup_at (HY.out.1.nodup_iff.2 h1.nodup))
  have HST := Lib.hid (TkM.start h1)
  clear h1
  go_loopw [6, 19] (fun t i wr => ∃ (p : Nat) (X' : List Sn) (out : List Nat), p ≤ N ∧ i = .int .i64 p ∧ out.length ≤ n ∧ wr.ownsRow w1.heap.size 3 1 t out.length (cellsI out) ∧ TkM w1 wr O B V X X' c out ∧ (out.length = n ∨ TkB X X' Y p)) (fun _ i _ => N - (intOf i).toNat)
  case atStart => exact ⟨0, X, [], by omega, rfl, Nat.zero_le _, World.ownsRow_nil _ _ _ _, HST.out, .inr (TkB.start X Y)⟩
  case round =>
    obtain ⟨p, X', out, hp, rfl, hon, hrow, hM, hor⟩ := hrel
    have HR := Lib.hid hrow
    have HMM := Lib.hid hM
    have HOR := Lib.hid hor
    by_cases hlt : p < N
    · obtain ⟨y, hy⟩ : ∃ y, Y[p]? = some y := ⟨_, List.getElem?_eq_getElem (by have := HYL.out; omega)⟩
      obtain ⟨j, hj⟩ : ∃ j : Nat, X[j]? = some y := List.mem_iff_getElem?.1 (HY.out.1.mem_iff.1 (List.mem_of_getElem? hy))
      obtain ⟨g, hRg, hgw, hc0, hc1, hc2⟩ := HRA.out p y hy
      obtain rfl := hRg
      have hgN := HRN.out _ rfl
      have HYP := Lib.hid hy
      have HJ := Lib.hid hj
      -- the ranking's cells and the round's box
      have hkeep : wr.heap[g]? = w1.heap[g]? := hM.kp.block g hgw (fun ho => by have h1 := HH.out.lt g ho; have h2 : w.heap.size ≤ g := hgN; omega)
      have d0 := (World.cell?_of_block (a := ⟨g, p * 3, none⟩) hkeep).trans hc0
      have d1 := (World.cell?_of_block (a := ⟨g, p * 3 + 1, none⟩) hkeep).trans hc1
      have d2 := (World.cell?_of_block (a := ⟨g, p * 3 + 2, none⟩) hkeep).trans hc2
      obtain ⟨A6, c6, rfl⟩ := owns_form hrow
      clear hrow hM hor hy hj hc0 hc1 hc2 hgw hkeep
      have hw1r : w1.heap.size ≤ wr.heap.size := HMM.out.kp.size
      go_wp2_with fail
      clear d0 d1 d2
      obtain ⟨W2, hW2⟩ : ∃ W2, wr.alloc (.cells #[.int .i64 (tc y.m : Nat), .int .i64 (y.m.s : Nat), .pointer (some ⟨y.B, 0, none⟩)] 83) = W2 := ⟨_, rfl⟩
      rw [hW2]
      have hbx : W2.heap[wr.heap.size]? = some (.cells #[.int .i64 (tc y.m : Nat), .int .i64 (y.m.s : Nat), .pointer (some ⟨y.B, 0, none⟩)] 83 (0, 0)) := by rw [← hW2]; exact World.alloc_heap_new wr _
      have hb2 : Below wr.heap.size wr W2 := by rw [← hW2]; exact bnew _ _
      have HBX := Lib.hid hbx
      have HM2 := Lib.hid (HMM.out.below hb2)
      have HR2 := Lib.hid (owns_below HR.out hb2)
      have HOI := Lib.hid (show out.length = n ∨ TkI X X' Y p from HOR.out.imp id TkB.inner)
      clear hW2 hbx hb2
      generalize hb8 : wr.heap.size = b8 at *
      clear hb8
      generalize tc y.m = ty at *
      generalize y.m.s = sy at *
      go_loopw [6] (fun t wv => ∃ (X2 : List Sn) (out2 : List Nat), out2.length ≤ n ∧ (∃ A2 c2, t = .slice A2 out2.length c2) ∧ wv.ownsRow w1.heap.size 3 1 t out2.length (cellsI out2) ∧ TkM w1 wv O B V X X2 c out2 ∧ wv.heap[b8]? = some (.cells #[.int .i64 (ty : Nat), .int .i64 (sy : Nat), .pointer (some ⟨y.B, 0, none⟩)] 83 (0, 0)) ∧ (out2.length = n ∨ TkI X X2 Y p)) (fun t _ => n - lenV t)
      case atStart => exact ⟨X', out, hon, ⟨_, _, rfl⟩, HR2.out, HM2.out, HBX.out, HOI.out⟩
      case round =>
        clear HBX HM2 HR2 HOI HR HMM HOR
        obtain ⟨X2, out2, hon2, ⟨A2, c2, rfl⟩, hrow2, hM2, hbx2, hor2⟩ := hrel
        have HR := Lib.hid hrow2
        have HMM := Lib.hid hM2
        have HBX := Lib.hid hbx2
        by_cases hl : out2.length < n
        · have HTI := Lib.hid (show TkI X X2 Y p from hor2.resolve_left (by omega))
          obtain ⟨x', hx'⟩ : ∃ x', X2[j]? = some x' := ⟨_, List.getElem?_eq_getElem (by rw [hM2.ln]; exact (List.getElem?_eq_some_iff.1 HJ.out).1)⟩
          have hBB : x'.B = y.B := hM2.bs j y x' HJ.out hx'
          have d8 := cell_of_cells hbx2 2
          rw [show (#[Value.int .i64 (ty : Nat), .int .i64 (sy : Nat), .pointer (some ⟨y.B, 0, none⟩)] : Array Value)[2]? = some (.pointer (some ⟨y.B, 0, none⟩)) from rfl] at d8
          have hT := Take_any (hM2.st.span hx')
          have HXX := Lib.hid hx'
          rw [hBB] at hT
          cases hff : ff x'.m with
          | none =>
            rw [tkV_none hff, tkE_none hff, tkD_none hff] at hT
            have HT := Lib.hid hT
            have HFF := Lib.hid (tc_none hff)
            have HBB := Lib.hid hBB
            clear hrow2 hM2 hbx2 hor2 hx' hBB hT hff
            go_wp2_with (go_at_call 47; refine HT.out.mono ?_; rintro e w3 ⟨rfl, hmt⟩; rw [← HBB.out] at hmt; have HMT := Lib.hid hmt; clear hmt)
            obtain ⟨X3, hM3, hc3, hk3⟩ := HMM.out.same HXX.out HMT.out
            have HF := Lib.hid (And.intro hM3 (And.intro ((HTI.out.next HDX.out HYP.out HJ.out HXX.out HFF.out).cong hc3) (owns_block HR.out (fun q hq hl => hk3.block q hl (fun ho => by have := (owns_at HR.out hq).1; have := HO1.out q ho; omega)))))
            clear hM3 hc3 hk3
            go_roundw
            case rel => exact ⟨p + 1, X3, out2, by omega, by go_num, hon2, HF.out.2.2, HF.out.1, .inr HF.out.2.1⟩
            case measure => simp [intOf]; omega
          | some o =>
            rw [tkV_some hff, tkE_some hff, tkD_some hff] at hT
            have HT := Lib.hid hT
            have HFF := Lib.hid hff
            have HBB := Lib.hid hBB
            have hbnd := hM2.outl
            clear hrow2 hM2 hbx2 hor2 hx' hBB hT hff
            go_wp2_with (first
              | (go_at_call 47; refine HT.out.mono ?_; rintro e w3 ⟨rfl, hmt⟩; rw [← HBB.out] at hmt; obtain ⟨x2, hx2, hM3, hk3⟩ := HMM.out.step HXX.out HFF.out (HTI.out.best HMS.out HWF.out HMM.out.ln HY.out HYP.out HJ.out HXX.out (tc_ff HFF.out)) hmt; have HM3 := Lib.hid (And.intro hx2 (And.intro hM3 hk3)); have hr3 : w3.ownsRow w1.heap.size 3 1 (.slice A2 out2.length c2) out2.length (cellsI out2) := owns_block HR.out (fun q hq hl => hk3.block q hl (fun ho => by have := (owns_at HR.out hq).1; have := HO1.out q ho; omega)); have HR3 := Lib.hid hr3; clear hmt hx2 hM3 hk3 hr3)
              | (at_builtin; refine wpList_append_own _ rfl _ _ 34 rfl w1.heap.size 3 i0 (.int .i64 0) 1 8 Tryz.underlying34 hi hz0 hz1 hz2 rfl (by decide) _ _ _ rfl (HR3.out.alloc _) ⟨w3.heap.size, 0, none⟩ 1 1 [.int .i64 (adr x'.m o : Nat)] rfl rfl (cells1_new w3 _ _) (by simp [Value.oneCell']) (by unfold maxLen; omega) (by omega) (by have := HM3.out.2.1.kp.size; simp; omega) ?_; intro v' w4 hown' hgrow _; have HO4 := Lib.hid (And.intro hown' hgrow); obtain ⟨A4, c4, rfl⟩ := owns_form hown'; clear hown' hgrow))
            have HM4 := Lib.hid ((HM3.out.2.1.below (bnew w3 (.cells #[.int .i64 (adr x'.m o : Nat)] 3))).row HO1.out HO4.out.2 (fun k e => (HR3.out.lt k e).1))
            have HBX4 := Lib.hid (show w4.heap[b8]? = some (.cells #[.int .i64 (ty : Nat), .int .i64 (sy : Nat), .pointer (some ⟨y.B, 0, none⟩)] 83 (0, 0)) from by
              have hb : b8 < wr.heap.size := (Array.getElem?_eq_some_iff.1 HBX.out).1
              have h3 : w3.heap[b8]? = _ := (HM3.out.2.2.block b8 hb (fun ho => by have := HO1.out b8 ho; omega)).trans HBX.out
              have hb3 : b8 < w3.heap.size := (Array.getElem?_eq_some_iff.1 h3).1
              have h4 := (Below.heap_alloc w3 (.cells #[.int .i64 (adr x'.m o : Nat)] 3) b8 hb3).trans h3
              exact (HO4.out.2.block b8 (by simp; omega) (fun e => by
                obtain ⟨_, _, cur, hcur⟩ := owns_at (HR3.out.alloc (.cells #[.int .i64 (adr x'.m o : Nat)] 3)) e.symm
                rw [h4] at hcur
                cases hcur)).trans h4)
            have HTI4 := Lib.hid (HTI.out.take (x2 := x2) HDY.out HYP.out HJ.out HXX.out (by rw [HM3.out.1, tc_on (ff_get HFF.out).1 (ff_get HFF.out).2.1]; omega))
            have hlen4 : (out2 ++ [adr x'.m o]).length = out2.length + 1 := by rw [List.length_append]; rfl
            have HL4 := Lib.hid hlen4
            clear hlen4
            go_roundw
            case rel => exact ⟨X2.set j x2, out2 ++ [adr x'.m o], by rw [HL4.out]; omega, ⟨A4, c4, by rw [HL4.out]⟩, by rw [HL4.out, cellsI_snoc]; exact HO4.out.1, HM4.out, HBX4.out, .inr HTI4.out⟩
            case measure => simp [lenV]; omega
        · have heq : out2.length = n := by omega
          have HEQ := Lib.hid heq
          clear hrow2 hM2 hbx2 hor2 heq
          go_wp2_with fail
          go_roundw
          case rel => exact ⟨p + 1, X2, out2, by omega, by go_num, hon2, HR.out, HMM.out, .inl HEQ.out⟩
          case measure => simp [intOf]; omega
    · obtain rfl : p = N := by omega
      obtain ⟨A6, c6, rfl⟩ := owns_form hrow
      have hfin : tkL n c.L = (out, X'.map (·.m)) := by
        rcases hor with h1 | h1
        · have := hM.tk
          unfold Tkn at this
          rw [h1] at this
          exact this
        · exact hM.tk.all (h1.done (by rw [HYL.out]; exact Nat.le_refl _) hM.ln HY.out) hon
      have hlat := lat_of hrow
      have hsh : LShp false w O (.pointer (some ⟨B, 0, none⟩)) (some { c with L := X'.map (·.m) }) A6 wr := LShp.of hM.st.lob
      have hz : A6 = none → c6 = 0 := fun h0 => by
        rcases hrow.2 with ⟨h1, _⟩ | ⟨g, cap, _, e1, _, _⟩
        · injection h1
        · cases e1; cases h0
      have HSH := Lib.hid (And.intro hsh hz)
      have hM0 : LMut false w O (.pointer (some ⟨B, 0, none⟩)) (some { c with L := X'.map (·.m) }) wr :=
        LMut.after HB1.out ⟨(hM.st.mono (fun _ hk => .inl hk) (Ext.lt HO1.out hM.kp.size)).lob, hM.kp⟩
      have HFIN := Lib.hid hfin
      have HL := Lib.hid (And.intro hlat hM0)
      have HB := Lib.hid HB1.out.size
      clear hrow hM hor hfin hlat hM0 hsh hz
      go_wp2_with fail
      go_ret2
      rw [HFIN.out]
      exact ⟨A6, c6, rfl, HL.out.1.1, ⟨(fun x hx => Nat.le_trans HB.out (HL.out.1.2 x hx)), HSH.out⟩, HL.out.2⟩

end Go.Proofs.YtejfoefhaphacaaGreat
