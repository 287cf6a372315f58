/- Package transfer: Insert. -/
import Derived.Test.YtaefhhkdfepgmaaLd
import Derived.Deep.RegionLaw
import Derived.Deep.AppendLies
namespace Go.Proofs.Ytaefhhkdfepgmaa
open Go.RowKit Go.Lib

theorem cells1_new (w : World) (a : Value) (t : TypeId) : (w.alloc (.cells #[a] t)).cell? ⟨w.heap.size, 0, none⟩ = some a := by go_simp
theorem add0 (b : Nat) : (⟨b, 0, none⟩ : Addr).add 0 = ⟨b, 0, none⟩ := by rw [Addr.add_lit]
theorem undrewB {w w' : World} (h : Below w.drew.heap.size w.drew w') : Below w.heap.size w w' := ⟨h.os, h.tape, h.output, h.size, h.block⟩
/-- What Insert returns and leaves. -/
def InsP (r : Bool) (w : World) (O : Nat → Prop) (v : Value) (z : List Int) (om : Option Tc) (e : Ending) (w' : World) : Prop := e = .returned (.tuple #[.bool (insV om z), .int .i64 (insE om z)]) ∧ TMut r O w O v (insD om z) w' ∧ (insV om z = false → Below w.heap.size w w')
theorem ins_no {r : Bool} {w : World} {O : Nat → Prop} {v : Value} {z : List Int} {om : Option Tc} (h : TOb r w O v om) (hv : insV om z = false) (er : Int) (he : insE om z = er) : InsP r w O v z om (.returned (.tuple #[.bool false, .int .i64 er])) w := by
  have hd : insD om z = om := by
    cases om with
    | none => rfl
    | some c =>
      have hv : decide (z.length = c.b ∧ c.L.length < c.r) = false := hv
      show (if _ then _ else _) = _
      rw [if_neg (by simpa using hv)]
  exact ⟨by rw [hv, he], by rw [hd]; exact TMut.same h (Below.refl _ _), fun _ => Below.refl _ _⟩
theorem ins_no' {r : Bool} {w w' : World} {O : Nat → Prop} {v : Value} {z : List Int} {om : Option Tc} (h : TOb r w O v om) (hb : Below w.heap.size w w') (hv : insV om z = false) (er : Int) (he : insE om z = er) : InsP r w O v z om (.returned (.tuple #[.bool false, .int .i64 er])) w' := by
  have hd : insD om z = om := by
    cases om with
    | none => rfl
    | some c =>
      have hv : decide (z.length = c.b ∧ c.L.length < c.r) = false := hv
      show (if _ then _ else _) = _
      rw [if_neg (by simpa using hv)]
  exact ⟨by rw [hv, he], by rw [hd]; exact TMut.same h hb, fun _ => hb⟩
/-- A batch is put behind the others. -/
theorem TcB.add {r : Bool} {w W w5 w6 : World} {O : Nat → Prop} {B lo : Nat} {V v' : Value} {X : List Bt} {c c' : Tc} {x : Bt} {tmp : Obj} (h : TcB r w O B V X c lo) (hb : Below w.heap.size w W) (hx : BtAt W x) (hxg : w.heap.size ≤ x.g)
    (hrow : OffR w5 32 v' (bV X ++ [x.v])) (hgr : (W.alloc tmp).grownBy w5 V.ownBlock) (hat : v'.ownBlock = V.ownBlock ∨ v'.ownBlock = some (W.alloc tmp).heap.size)
    (hs : w6 = w5.setCell ⟨B, (if r = true then 2 else 3), none⟩ v') (hwf : TWf c') (hc' : c' = { c with L := c.L ++ [x.l] }) : TcB r w6 (Ext O w w6) B v' (X ++ [x]) c' lo ∧ Keep O w w6 := by
  have s1 := hb.size
  have s2 : W.heap.size + 1 ≤ w5.heap.size := by have := hgr.size; simp at this; omega
  have s6 : w6.heap.size = w5.heap.size := by rw [hs, World.size_setCell]
  have hk5 : Keep O w w5 := by
    have hk1 : Keep O w (W.alloc tmp) := (Keep.of hb).alloc tmp
    exact hk1.grown (v := V) hgr (fun g hg => .inl (h.rowO g hg).1)
  have hk6 : Keep O w w6 := by rw [hs]; exact keep_set hk5 h.ob _
  have old : ∀ k, k < w.heap.size → V.ownBlock ≠ some k → w5.heap[k]? = w.heap[k]? := fun k hk hne => (hgr.block k (by simp; omega) (fun e => hne e.symm)).trans ((Below.heap_alloc _ _ _ (by omega)).trans (hb.block k hk))
  have hB5 : w5.heap[B]? = w.heap[B]? := old B (h.lt _ h.ob) (fun e => (h.rowO _ e).2 rfl)
  have hvo : ∀ g, v'.ownBlock = some g → (O g ∨ w.heap.size ≤ g) ∧ g ≠ B := fun g hg => by
    rcases hat with e | e
    · rw [e] at hg; exact ⟨.inl (h.rowO g hg).1, (h.rowO g hg).2⟩
    · rw [e] at hg
      injection hg with hg
      have := h.lt _ h.ob
      simp at hg
      exact ⟨.inr (by omega), by omega⟩
  have hvl := hrow.lt
  have six : ∀ k, k ≠ B → w6.heap[k]? = w5.heap[k]? := fun k hk => by rw [hs]; exact Below.heap_setCell _ _ _ _ hk
  have hxW : x.g < W.heap.size := hx.lt
  have hVo : ∀ g, V.ownBlock = some g → g < w.heap.size := fun g hg => h.lt _ (h.rowO g hg).1
  have hBlt := h.lt _ h.ob
  refine ⟨⟨hwf, ?_, ?_, fun g hg => ⟨?_, (hvo g hg).2⟩, .inl h.ob, fun y hy => ?_, fun y hy => ?_, by rw [hc', List.map_append, h.ms]; rfl, ?_⟩, hk6⟩
  · rw [hs]
    refine ((h.hd.of_block hB5).set _ v').congr fun i hi => ?_
    have : i = 0 ∨ i = 1 ∨ i = 2 ∨ i = 3 := by omega
    rw [hc']
    rcases this with rfl | rfl | rfl | rfl <;> cases r <;> simp [tF]
  · have : bV (X ++ [x]) = bV X ++ [x.v] := by unfold bV; rw [List.map_append]; rfl
    rw [this]
    exact hrow.block fun g hg _ => six g (hvo g hg).2
  · rcases (hvo g hg).1 with h1 | h1
    · exact .inl h1
    · exact .inr ⟨h1, by rw [s6]; exact hvl g hg⟩
  · rcases List.mem_append.1 hy with h1 | h1
    · have h2 := h.bo y h1
      exact (h.bt y h1).block ((six _ h2.2.1).trans (old _ (h.bt y h1).lt h2.2.2))
    · rw [List.mem_singleton.1 h1]
      refine hx.block ((six _ (by omega)).trans ((hgr.block _ (by simp; omega) (fun e => by have := hVo _ e.symm; omega)).trans (Below.heap_alloc _ _ _ hxW)))
  · rcases List.mem_append.1 hy with h1 | h1
    · have h2 := h.bo y h1
      refine ⟨.inl h2.1, h2.2.1, fun e => ?_⟩
      rcases hat with e' | e'
      · exact h2.2.2 (e' ▸ e)
      · rw [e'] at e
        injection e with e
        have := (h.bt y h1).lt
        simp at e
        omega
    · rw [List.mem_singleton.1 h1]
      refine ⟨.inr ⟨hxg, by omega⟩, by omega, fun e => ?_⟩
      rcases hat with e' | e'
      · rw [e'] at e; have := hVo _ e; omega
      · rw [e'] at e
        injection e with e
        simp at e
        omega
  · intro k hk
    rcases hk with hk | hk
    · exact Nat.lt_of_lt_of_le (h.lt k hk) hk6.size
    · exact hk.2
theorem ins_ok {r : Bool} {w W w5 w6 : World} {O : Nat → Prop} {B : Nat} {V v' : Value} {X : List Bt} {c : Tc} {x : Bt} {tmp : Obj} (h : TcA r w O B V X c) (hb : Below w.heap.size w W) (hx : BtAt W x) (hxg : w.heap.size ≤ x.g)
    (hrow : OffR w5 32 v' (bV X ++ [x.v])) (hgr : (W.alloc tmp).grownBy w5 V.ownBlock) (hat : v'.ownBlock = V.ownBlock ∨ v'.ownBlock = some (W.alloc tmp).heap.size)
    (hs : w6 = w5.setCell ⟨B, (if r = true then 2 else 3), none⟩ v') (hz : x.l.length = c.b ∧ c.L.length < c.r) : InsP r w O (.pointer (some ⟨B, 0, none⟩)) x.l (some c) (.returned (.tuple #[.bool true, .int .i64 0])) w6 := by
  have h1 : insV (some c) x.l = true := decide_eq_true hz
  have h2 : insE (some c) x.l = 0 := if_pos hz.1
  have h3 : insD (some c) x.l = some { c with L := c.L ++ [x.l] } := if_pos hz
  obtain ⟨h4, h5⟩ := TcB.add h hb hx hxg hrow hgr hat hs (h.wf.ins hz) rfl
  exact ⟨by rw [h1, h2], by rw [h3]; exact ⟨TcA.ob' h4, h5⟩, fun e => by rw [h1] at e; cases e⟩

set_option maxRecDepth 100000 in
set_option maxHeartbeats 4000000 in
theorem cInsert_any {P O : Nat → Prop} {v : Value} {om : Option Tc} {w : World} (h : TOb false w O v om) (A : Option Addr) (cap : Nat) (z : List Int) (hz : z.length ≤ 60) (hA : IAt P w A z) : Calls Try.prog 19 #[v, .slice A z.length cap] w (InsP false w O v z om) := by
  cases om with
  | none =>
    have HM := Lib.hid (cmade_no h.1)
    have HH := Lib.hid h
    clear h
    go_enter Try.func19, Try.ntmps19
    go_wp2_with (go_at_call 29; refine HM.out.mono ?_; rintro e w1 ⟨rfl, rfl⟩)
    go_ret2
    exact ins_no HH.out rfl _ rfl
  | some c =>
    have HO := Lib.hid h
    obtain ⟨B, V, X, rfl, h⟩ := h
    have HM := Lib.hid (cmade_any h)
    have c0 := h.cells.1
    have c1 := h.cells.2
    have HWF := Lib.hid h.wf
    by_cases hb : z.length = c.b
    · obtain ⟨A2, cap2, rfl, h1, h2⟩ := h.form
      have hN8 := h.n8
      have HL := Lib.hid h.len
      obtain ⟨N, hN⟩ : ∃ N, X.length = N := ⟨_, rfl⟩
      have HN := Lib.hid hN
      rw [hN] at h h1 hN8
      have c3 := h.pc.2
      have f3 := h.hd.free 3 (by omega)
      have hb1 := h.wf.b1
      have hr8 := h.wf.r2
      by_cases hr : c.L.length < c.r
      · obtain ⟨j0, hj, hy0, hy1, hy2⟩ := info_parts infoInts
        have HX := Lib.hid (And.intro hb hr)
        have HH := Lib.hid h
        have HC := Lib.hid (fun W (hb' : Below w.heap.size w W) => slClone_any A cap z W (by omega) hz (hA.below hb'))
        have HR := Lib.hid (fun (W : World) (hb : Below w.heap.size w W) => h.row.below hb)
        have HD := Lib.hid (fun (W : World) (hb : Below w.heap.size w W) => And.intro (h.below hb).pc.2 ((h.below hb).hd.free 3 (by omega)))
        have HD5 := Lib.hid (fun (w4 w5 : World) (hb : Below w.heap.size w w4) (hgr : w4.grownBy w5 (Value.slice A2 N cap2).ownBlock) => show w5.cell? ⟨B, 3, none⟩ = some (.slice A2 N cap2) ∧ w5.frozen? ⟨B, 3, none⟩ = false from by
          have hB5 : w5.heap[B]? = w4.heap[B]? := hgr.block _ (Nat.lt_of_lt_of_le (h.lt _ h.ob) hb.size) (fun e => (h.rowO _ e.symm).2 rfl)
          have h5 := (h.below hb).hd.of_block hB5
          exact ⟨h5.cell 3 (by omega), h5.free 3 (by omega)⟩)
        rw [show z.length = c.b from hb] at HC
        rw [hb]
        have hlr : N < c.r := by rw [← hN, h.len]; exact hr
        generalize hcb : c.b = cb at *
        generalize hcr : c.r = cr at *
        have HCB := Lib.hid (And.intro hcb hcr)
        clear hcb hcr h hA hr hb
        go_enter Try.func19, Try.ntmps19
        go_wp2_with (go_at_call 29; refine HM.out.mono ?_; rintro e w1 ⟨rfl, rfl⟩)
        have d1 : decide ((cr : Int) ≤ (N : Int)) = false := decide_eq_false (by omega)
        clear hN
        go_quiet (fail)
        go_wp2
        have hbq : Below w.heap.size w (w.drewN nq) := belowN (Below.refl _ _) nq
        have HBQ := Lib.hid hbq
        have HCL := Lib.hid (HC.out (w.drewN nq).drew (belowN HBQ.out 1))
        clear hbq d1
        go_region_law
          (first
          | (go_simp; go_at_call 30; refine HCL.out.mono ?_; rintro e W ⟨xg, xc, rfl, hxg, hxa, hbW⟩; have hBW : Below w.heap.size w W := btr (belowN HBQ.out 1) hbW (Nat.le_refl _); have hd1 := (HD.out _ hBW).1; have hd2 := (HD.out _ (hBW.alloc hBW.size (.cells #[.slice (some ⟨xg, 0, none⟩) cb xc] 32))).1; have HXX := Lib.hid (And.intro hxg (And.intro hxa hBW)); clear hxg hxa hbW)
          | (have hOW1 := (HR.out W HXX.out.2.2).below (bnew W (.cells #[.slice (some ⟨xg, 0, none⟩) cb xc] 32)); have hCN := cells1_new W (.slice (some ⟨xg, 0, none⟩) cb xc) 32; refine step_append_off _ (by rfl) (.tmp 30) (.tmp 33) 40 (by rfl) 32 j0 (.slice none 0 0) 24 undLL hj hy0 hy1 hy2 (by rfl) (.slice A2 N cap2) (bV X) (by rfl) hOW1 ⟨W.heap.size, 0, none⟩ 1 (.slice (some ⟨xg, 0, none⟩) cb xc) (by rfl) hCN (add0 _) (by rfl) (by rw [bV_len, HN.out]; unfold maxLen; omega) (by rw [bV_len, HN.out]; omega) ?_; intro g5 q5 cp5 w5 hown' hgrow hat; rw [bV_len, HN.out] at hown' hat ⊢; obtain ⟨k1, k2⟩ := HD5.out _ _ (HXX.out.2.2.alloc HXX.out.2.2.size _) hgrow; have HA5 := Lib.hid (And.intro hown' (And.intro hgrow hat)); clear hown' hgrow hat hOW1 hCN))
        all_goals
          go_wp2
          go_ret2
          have hz1 := HX.out.1
          have hv : (⟨xg, z, xc⟩ : Bt).v = .slice (some ⟨xg, 0, none⟩) cb xc := by rw [← hz1]; rfl
          refine ins_ok (r := false) (x := ⟨xg, z, xc⟩) HH.out HXX.out.2.2 HXX.out.2.1 HXX.out.1 (by rw [hv]; exact HA5.out.1) HA5.out.2.1 HA5.out.2.2 rfl ?_
          rw [HCB.out.1, HCB.out.2]
          exact HX.out
      · have hv : insV (some c) z = false := decide_eq_false (fun h => hr h.2)
        have he : insE (some c) z = 0 := if_pos hb
        have HV := Lib.hid (And.intro hv he)
        have hlr : c.r ≤ N := by rw [← hN, h.len]; omega
        rw [hb]
        generalize hcb : c.b = cb at *
        generalize hcr : c.r = cr at *
        have d1 : decide ((cr : Int) ≤ (N : Int)) = true := decide_eq_true (by omega)
        clear hcb hcr h hA hr hb hv he hN
        go_enter Try.func19, Try.ntmps19
        go_wp2_with (go_at_call 29; refine HM.out.mono ?_; rintro e w1 ⟨rfl, rfl⟩)
        go_quiet (fail)
        go_wp2
        go_ret2
        exact ins_no' HO.out (belowN (Below.refl _ _) _) HV.out.1 _ HV.out.2
    · have hv : insV (some c) z = false := decide_eq_false (fun h => hb h.1)
      have he : insE (some c) z = 1 := if_neg hb
      have HV := Lib.hid (And.intro hv he)
      have hne : ¬ ((z.length : Nat) : Int) = (c.b : Nat) := by omega
      generalize z.length = zl at *
      generalize c.b = cb at *
      clear h hA hb hv he
      go_enter Try.func19, Try.ntmps19
      go_wp2_with (go_at_call 29; refine HM.out.mono ?_; rintro e w1 ⟨rfl, rfl⟩)
      go_ret2
      exact ins_no HO.out HV.out.1 _ HV.out.2
end Go.Proofs.Ytaefhhkdfepgmaa
