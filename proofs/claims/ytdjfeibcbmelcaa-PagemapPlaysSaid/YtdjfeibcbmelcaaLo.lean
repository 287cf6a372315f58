/- Package pagemap: clone of a middle; Clone. -/
import Derived.Test.YtdjfeibcbmelcaaLm
namespace Go.Proofs.Ytdjfeibcbmelcaa
open Go.RowKit Go.Shelf

attribute [local go_sem] Oper.semAt_some

theorem Cl.grown {X Y : World} {b n : Nat} {f : Nat → Value} {row : Option Nat} (h : Cl X b n f) (hg : X.grownBy Y row) (hr : ∀ r, row = some r → ∃ o : Obj, X.heap[r]? = some o ∧ o.isCells = false) : Cl Y b n f :=
  h.of_block (((KpC.refl (fun _ => False) X).grown hg hr).same b h.nr (fun h => h))

/-- A middle that is being copied: its leaves so far. -/
structure McI (w : World) (Cm : Nat) (F : Nat → Nat → Int) (pre : List Nat) (lf : Nat → Option Nat) (X : World) : Prop where
  c : Cl X Cm 8 (fun s => pt (lf s))
  mem : ∀ s, lf s ≠ none ↔ s ∈ pre
  l : ∀ s b, lf s = some b → Cm < b ∧ b < X.heap.size ∧ Cl X b 8 (fun n => .int .i64 (F s n))
  inj : ∀ s s' b, lf s = some b → lf s' = some b → s = s'
  bel : Below w.heap.size w X
  cw : w.heap.size ≤ Cm
def fK {V : Nat → Option Nat} {N : Nat} (l : List (El52 V N)) : List Nat := l.map (·.1)
theorem fK_snoc {V : Nat → Option Nat} {N : Nat} (l : List (El52 V N)) (x : El52 V N) : fK (l ++ [x]) = fK l ++ [x.1] := by unfold fK; rw [List.map_append, List.map_singleton]
theorem mcI_own (w : World) (Cm : Nat) (F : Nat → Nat → Int) {V : Nat → Option Nat} {N B : Nat} (hB : w.heap.size ≤ B) : OwnFrom B (fun (pre : List (El52 V N)) X => ∃ lf, McI w Cm F (fK pre) lf X) := fun pre X Y row hs hg hr => by
  obtain ⟨lf, h⟩ := hs
  have hr' := fun r e => (hr r e).2
  exact ⟨lf, h.c.grown hg hr', h.mem, fun s b e => ⟨(h.l s b e).1, Nat.lt_of_lt_of_le (h.l s b e).2.1 hg.size, (h.l s b e).2.2.grown hg hr'⟩, h.inj, h.bel.grown hg (Nat.le_trans h.bel.size (Nat.le_refl _)) (fun k e => by have := (hr k e).1; omega), h.cw⟩

theorem mc_step {w X Y : World} {Cm s : Nat} {G : Nat → Nat → Int} {F : Nat → Int} {pre : List Nat} {lf : Nat → Option Nat} (h : McI w Cm G pre lf X) (hY : X.alloc (.cells #[.int .i64 (F 0), .int .i64 (F 1), .int .i64 (F 2), .int .i64 (F 3), .int .i64 (F 4), .int .i64 (F 5), .int .i64 (F 6), .int .i64 (F 7)] 84) = Y)
    (hF : ∀ n, G s n = F n) : McI w Cm G (pre ++ [s]) (upd lf s (some X.heap.size)) (Y.setCell ⟨Cm, s, none⟩ (.pointer (some ⟨X.heap.size, 0, none⟩))) := by
  have hbY : Below X.heap.size X Y := by rw [← hY]; exact bnew _ _
  have hzY : Y.heap.size = X.heap.size + 1 := by rw [← hY]; simp
  have hCY : Cl Y X.heap.size 8 (fun n => .int .i64 (G s n)) := by
    rw [← hY]
    refine Cl.new X (by decide) (fun i hi => ?_)
    rw [hF]
    rcases (show i = 0 ∨ i = 1 ∨ i = 2 ∨ i = 3 ∨ i = 4 ∨ i = 5 ∨ i = 6 ∨ i = 7 by omega) with rfl | rfl | rfl | rfl | rfl | rfl | rfl | rfl <;> rfl
  have hlt := h.c.lt
  refine ⟨?_, fun s' => ?_, fun s' b e => ?_, fun a b x e1 e2 => ?_, (h.bel.trans (hbY.mono h.bel.size)).setCell (p := ⟨Cm, s, none⟩) h.cw _, h.cw⟩
  · refine ((h.c.of_block (hbY.block _ hlt)).set s (.pointer (some ⟨X.heap.size, 0, none⟩))).congr fun i hi => ?_
    by_cases e : i = s
    · rw [if_pos e, e, upd_at]; rfl
    · rw [if_neg e, upd_ne _ e]
  · rw [List.mem_append, List.mem_singleton, ← h.mem s']
    by_cases e : s' = s
    · rw [e, upd_at]
      exact ⟨fun _ => .inr rfl, (fun _ h => nomatch h)⟩
    · rw [upd_ne _ e]
      exact ⟨fun h => .inl h, fun h => h.elim id (fun h => absurd h e)⟩
  · rw [World.size_setCell, hzY]
    by_cases e2 : s' = s
    · rw [e2, upd_at] at e
      cases e
      refine ⟨by omega, by omega, ?_⟩
      rw [e2]
      exact hCY.other (a := ⟨Cm, s, none⟩) (by show X.heap.size ≠ Cm; omega) _
    · rw [upd_ne _ e2] at e
      obtain ⟨h1, h2, h3⟩ := h.l s' b e
      exact ⟨h1, by omega, (h3.of_block (hbY.block _ h2)).other (a := ⟨Cm, s, none⟩) (by show b ≠ Cm; omega) _⟩
  · by_cases ea : a = s
    · by_cases eb : b = s
      · rw [ea, eb]
      · rw [ea, upd_at] at e1
        rw [upd_ne _ eb] at e2
        cases e1
        have := (h.l b _ e2).2.1
        omega
    · by_cases eb : b = s
      · rw [eb, upd_at] at e2
        rw [upd_ne _ ea] at e1
        cases e2
        have := (h.l a _ e1).2.1
        omega
      · rw [upd_ne _ ea] at e1
        rw [upd_ne _ eb] at e2
        exact h.inj a b x e1 e2

set_option maxRecDepth 100000 in
set_option maxHeartbeats 4000000 in
theorem mclone_any {O : Nat → Prop} {B R bm t : Nat} {cm cl : Nat → Option Nat} {T : Nat → Nat} {M : Nat → Int} {w : World} (h : TrA w O B R cm cl T M) (ht : t < 16) (hbm : cm t = some bm) :
    Calls Try.prog 35 #[.pointer (some ⟨bm, 0, none⟩)] w fun e w' => ∃ Cm lf, e = .returned (.pointer (some ⟨Cm, 0, none⟩)) ∧ McI w Cm (fun s n => M (8 * (8 * t + s) + n)) (hl (fun s => (cl (8 * t + s)).isSome) 0 8) lf w' := by
  have hz73 : pt none = .pointer none := rfl
  obtain ⟨Wa, hWa⟩ : ∃ Wa, w.alloc (.cells #[.pointer none, .pointer none, .pointer none, .pointer none, .pointer none, .pointer none, .pointer none, .pointer none] 82) = Wa := ⟨_, rfl⟩
  have hca : Cl Wa w.heap.size 8 (fun _ => pt none) := by rw [← hWa]; exact Cl.new w (by decide) (fun i hi => rep_at (n := 8) hi)
  have hza : Wa.heap.size = w.heap.size + 1 := by rw [← hWa]; simp
  have hba : Below w.heap.size w Wa := by rw [← hWa]; exact bnew _ _
  obtain ⟨Wb, hWb⟩ : ∃ Wb, (Wa.alloc (.cells #[.pointer none] 58)).setCell ⟨Wa.heap.size, 0, none⟩ (.pointer (some ⟨w.heap.size, 0, none⟩)) = Wb := ⟨_, rfl⟩
  have hbb : Below Wa.heap.size Wa Wb := by rw [← hWb, alloc_set]; exact bnew _ _
  have xb : Boxed Wb Wa.heap.size 58 (.pointer (some ⟨w.heap.size, 0, none⟩)) := by rw [← hWb, alloc_set]; exact Boxed.new _ _ _
  have hzb : Wb.heap.size = Wa.heap.size + 1 := by rw [← hWb, alloc_set]; simp
  have HN := Lib.hid (held45_any (some ⟨bm, 0, none⟩) 8 8 0 Wb)
  have HXB := Lib.hid xb
  have HCB := Lib.hid (hca.of_block (hbb.block _ (by omega)))
  have HBB := Lib.hid (btr hba hbb (Nat.le_refl _))
  have HZ := Lib.hid (And.intro hza hzb)
  have HT := Lib.hid h
  clear h xb hca hba hbb hza hzb
  refine (callsIn_wide (n := 20)).1 ?_
  refine callsIn_of_wp_marks Try.func35 rfl trivial ?_ rfl
  simp only [Try.ntmps35, List.size_toArray, List.length_cons, List.length_nil, Nat.reduceAdd, Nat.reduceSub, Array.replicate_succ, Array.replicate_zero, List.push_toArray, List.append_toArray, List.nil_append, List.cons_append]
  gi_wp2_with ((refine ⟨trivial, ?_⟩; gi_at_call 45; refine (callsIn_wide.2 HN.out).mono ?_; rintro x W3 ⟨rfl, hW3⟩))
  have hb3 : Below Wb.heap.size Wb W3 := by rw [← hW3]; exact (bnew _ _).alloc (by simp) _
  have hsz3 : W3.heap.size = Wb.heap.size + 2 := by rw [← hW3]; simp
  have w1 : Boxed W3 (Wb.heap.size + 1) 3 (.int .i64 ((0 : Nat) : Int)) := by
    rw [← hW3]
    have := Boxed.new (Wb.alloc (.cells #[.slice (some ⟨bm, 0, none⟩) 8 8] 79)) 3 (.int .i64 0)
    rwa [World.size_alloc] at this
  have w2 : Boxed W3 Wb.heap.size 79 (.slice (some ⟨bm, 0, none⟩) 8 8) := by rw [← hW3]; exact (Boxed.new Wb 79 _).alloc _
  have hbW := btr HBB.out hb3 (Nat.le_refl _)
  have hT3 := HT.out.below hbW
  have hc3 := HCB.out.of_block (hb3.block _ HCB.out.lt)
  have x3 : Boxed W3 Wa.heap.size 58 (.pointer (some ⟨w.heap.size, 0, none⟩)) := (hb3.block _ HXB.out.lt).trans HXB.out
  have hOw := HT.out.lt
  have hzz := HZ.out
  obtain ⟨Zs, hZs⟩ : ∃ Zs : Nat → Prop, Zs = fun b => b = w.heap.size := ⟨_, rfl⟩
  have zne : ∀ b, b ≠ w.heap.size → ¬ Zs b := fun b hb h => by rw [hZs] at h; exact hb h
  have zC : Zs w.heap.size := by rw [hZs]
  have zO : ∀ b, O b → ¬ Zs b := fun b hb => zne b (by have := hOw b hb; omega)
  have zb6 : ¬ Zs (Wb.heap.size + 1) := zne _ (by omega)
  have zb7 : ¬ Zs Wb.heap.size := zne _ (by omega)
  have zZc : ¬ Zs Wa.heap.size := zne _ (by omega)
  have zbm : ¬ Zs bm := zO _ (hT3.om t ht bm hbm)
  have hlt : w.heap.size + 4 ≤ W3.heap.size := by omega
  have hcw : w.heap.size < Wa.heap.size := by omega
  obtain ⟨Cm, hCm⟩ : ∃ Cm, w.heap.size = Cm := ⟨_, rfl⟩
  obtain ⟨Zc, hZc⟩ : ∃ Zc, Wa.heap.size = Zc := ⟨_, rfl⟩
  obtain ⟨b6, hb6e⟩ : ∃ b6, Wb.heap.size + 1 = b6 := ⟨_, rfl⟩
  obtain ⟨b7, hb7e⟩ : ∃ b7, Wb.heap.size = b7 := ⟨_, rfl⟩
  have hI0 : McI w Cm (fun s n => M (8 * (8 * t + s) + n)) [] (fun _ => none) W3 :=
    ⟨by rw [← hCm]; exact hc3, fun s => ⟨fun h => absurd rfl h, (fun h => nomatch h)⟩, (fun s b e => nomatch e), (fun s s' b e => nomatch e), hbW, by omega⟩
  rw [hCm] at x3 zC ⊢
  rw [hZc] at x3 zZc ⊢
  rw [hb6e] at w1 zb6 ⊢
  rw [hb7e] at w2 zb7 ⊢
  have HCW := Lib.hid (show Cm < Zc ∧ w.heap.size = Cm ∧ Zc < W3.heap.size from ⟨by omega, hCm, by omega⟩)
  clear hW3 hWa hWb hsz3 hzz hc3 hCm hZc hb6e hb7e hcw HZ zne hZs
  gi_wp2
  refine wpIn_rangeFunc_ownH rfl (by omega) (gf := 52) (lb := #[.pointer (some ⟨b6, 0, none⟩), .pointer (some ⟨b7, 0, none⟩)]) rfl trivial (enters_of Try.func52 (by kernel_rfl) rfl)
    (it52_stops 19 (Zs := Zs) (V := fun s => cl (8 * t + s)) (f := 0) (by omega) (by omega) zb6 zb7 zbm W3 w1 w2 (hT3.m t ht bm hbm)) (fun h k => KpC.trans h k) (fun W l o o' _ h hc _ => kpC_b W l o o' h hc) (Below.refl _ _) (fun _ => rfl)
    (fun pre X => (∃ lf, McI w Cm (fun s n => M (8 * (8 * t + s) + n)) (fK pre) lf X) ∧ KpC Zs W3 X)
    (fun _ _ _ => False)
    (OwnFrom.and (mcI_own w Cm _ (by omega)) (kpC_own _ _ _))
    (fun _ _ _ _ _ hs _ _ => hs)
    ⟨⟨_, hI0⟩, KpC.refl _ _⟩
    (fun x a' _ => ∃ bl, cl (8 * t + x.1) = some bl ∧ a' = { tmps := #[.pointer (some ⟨bm, 0, none⟩), undef, .pointer none, .pointer (some ⟨Zc, 0, none⟩), .int .i64 x.1, .pointer (some ⟨bl, 0, none⟩), undef, .pointer (some ⟨Cm, 0, none⟩), .pointer (some ⟨bm, 0, none⟩), .pointer (some ⟨bm, 0, none⟩), .slice (some ⟨bm, 0, none⟩) 8 8, .func (.func 52) #[] #[.pointer (some ⟨b6, 0, none⟩), .pointer (some ⟨b7, 0, none⟩)], .int .i64 x.1, .pointer (some ⟨bl, 0, none⟩), undef, undef, undef, undef, undef, undef, undef, undef], defers := [] })
    (fun _ _ _ _ _ _ hs _ _ => hs)
    ?assign ?body ?done ?stop
  case assign =>
    rintro lw pre ⟨x, hx, hx2⟩ X K hs hK
    unfold enc52
    dsimp only at hx2 ⊢
    cases hcl : cl (8 * t + x) with
    | none => rw [hcl] at hx2; cases hx2
    | some bl =>
      rw [pt_some]
      gi_wp2
      exact hK _ _ (KeepsFrom.refl _ _) (KpC.refl _ _) hs ⟨bl, hcl, rfl⟩
  case stop =>
    rintro D c pre X hD hP h hD2
    exact h.elim
  case done =>
    rintro D xs X hD hS ⟨⟨lf, hI⟩, hK⟩ hD2
    have c1 := (bx_kp x3 (by decide) zZc hK).cell
    rw [show fK xs = hl (fun s => (cl (8 * t + s)).isSome) 0 8 from hS] at hI
    have HI := Lib.hid hI
    have hw3 := hK.size
    clear hS hK hI
    gi_wp2
    refine ⟨by simp, .inl ⟨_, _, rfl, run_takeDeferred hD2, ?_⟩⟩
    have hg := grownBy_putObj' X D (.deferred none)
    have hr : ∀ r, some D = some r → ∃ o : Obj, X.heap[r]? = some o ∧ o.isCells = false := fun r e => by cases e; exact ⟨_, hD2, rfl⟩
    refine ⟨.pointer (some ⟨Cm, 0, none⟩), by simp [results, Try.results35, go_sem], Cm, lf, rfl, HI.out.c.grown hg hr, HI.out.mem, fun s b e => ⟨(HI.out.l s b e).1, Nat.lt_of_lt_of_le (HI.out.l s b e).2.1 hg.size, (HI.out.l s b e).2.2.grown hg hr⟩, HI.out.inj, HI.out.bel.trans (belowK_b (w := w) (Nat.le_refl _) X D _ _ (by omega) hD2 rfl rfl), HI.out.cw⟩
  case body =>
    rintro l1 pre ⟨s, hs, hs2⟩ a' X hl1 _ ⟨⟨lf, hI⟩, hK⟩ ⟨bl, hbl, rfl⟩ hlen
    dsimp only at hbl ⊢
    have c1 := (bx_kp x3 (by decide) zZc hK).cell
    have hL := (hT3.l (8 * t + s) (by omega) bl hbl).kp (zO bl (hT3.ol _ (by omega) bl hbl)) hK
    obtain ⟨F, hF⟩ : ∃ F : Nat → Int, ∀ n, F n = M (8 * (8 * t + s) + n) := ⟨_, fun _ => rfl⟩
    have hLF : Cl X bl 8 (fun n => .int .i64 (F n)) := hL.congr fun n _ => by rw [hF]
    have k0 := hLF.cell 0 (by omega)
    have k1 := hLF.cell 1 (by omega)
    have k2 := hLF.cell 2 (by omega)
    have k3 := hLF.cell 3 (by omega)
    have k4 := hLF.cell 4 (by omega)
    have k5 := hLF.cell 5 (by omega)
    have k6 := hLF.cell 6 (by omega)
    have k7 := hLF.cell 7 (by omega)
    obtain ⟨Y, hY⟩ : ∃ Y, X.alloc (.cells #[.int .i64 (F 0), .int .i64 (F 1), .int .i64 (F 2), .int .i64 (F 3), .int .i64 (F 4), .int .i64 (F 5), .int .i64 (F 6), .int .i64 (F 7)] 84) = Y := ⟨_, rfl⟩
    have hbY : Below X.heap.size X Y := by rw [← hY]; exact bnew _ _
    have hzY : Y.heap.size = X.heap.size + 1 := by rw [← hY]; simp
    have hCY : Cl Y X.heap.size 8 (fun n => .int .i64 (F n)) := by rw [← hY]; exact Cl.new X (by decide) (fun i hi => by rcases (show i = 0 ∨ i = 1 ∨ i = 2 ∨ i = 3 ∨ i = 4 ∨ i = 5 ∨ i = 6 ∨ i = 7 by omega) with rfl | rfl | rfl | rfl | rfl | rfl | rfl | rfl <;> rfl)
    have hcC := hI.c.of_block (hbY.block _ hI.c.lt)
    have d1 := (hbY.cell (p := ⟨Zc, 0, none⟩) (World.block_lt_of_cell? _ _ c1)).trans c1
    have d2 := hcC.cell s hs
    have f2 := hcC.free s hs
    have HFIN := Lib.hid (mc_step hI hY (fun n => (hF n).symm))
    have HKY := Lib.hid (show KpC Zs X (Y.setCell ⟨Cm, s, none⟩ (.pointer (some ⟨X.heap.size, 0, none⟩))) from ((KpC.refl Zs X).below hbY).trans (kpC_step (grown_set _ _ _) (fun g e => .inl (by cases e; exact zC))))
    have HFY := Lib.hid (show KeepsFrom W3.heap.size X (Y.setCell ⟨Cm, s, none⟩ (.pointer (some ⟨X.heap.size, 0, none⟩))) from (kf_below hbY).trans ((KeepsOthers.setCell _ _ _).from _))
    have HHK := Lib.hid hK
    clear hL hF hLF hbY hzY hCY hcC hI hK
    gi_wp2
    refine ⟨HFY.out, HKY.out, ⟨_, by rw [fK_snoc]; exact HFIN.out⟩, HHK.out.trans HKY.out⟩

end Go.Proofs.Ytdjfeibcbmelcaa
