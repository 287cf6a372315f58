/- The document's list: Sweep. -/
import Derived.Test.YtejfoefhaphacaaGreatDe
namespace Go.Proofs.YtejfoefhaphacaaGreat
open Go.RowKit Go.Shelf

theorem undDSpans : Tryz.prog.underlying 60 = some (.slice 65) := by kernel_rfl
theorem infoPRS : (Tryz.prog.info? 65).map (fun i => (i.zero, i.size, i.bytes)) = some (some (.pointer none), 1, 8) := by kernel_rfl
def SwPd (w : World) (O : Nat → Prop) (v : Value) (L : List (Nat × Nat)) (om : Option Ce) (e : Ending) (w' : World) : Prop := ∃ A c, e = .returned (.slice A L.length c) ∧ RsAt w' A L ∧ (NewA w A ∧ LShp true w O v om A w') ∧ LMut true w O v om w'

set_option maxRecDepth 100000 in
set_option maxHeartbeats 4000000 in
theorem dSweep_any {O : Nat → Prop} {v : Value} {om : Option Ce} {w : World} (h : LOb true w O v om) : Calls Tryz.prog 29 #[v] w (SwPd w O v (swV om) (swD om)) := by
  cases om with
  | none =>
    have HH := Lib.hid h
    have HM := Lib.hid (dmade_no h.1)
    clear h
    go_enter Tryz.func29, Tryz.ntmps29
    go_wp2_with (go_at_call 23; refine HM.out.mono ?_; rintro e w1 ⟨rfl, rfl⟩)
    go_ret
    exact ⟨none, 0, rfl, fun i a b hi => by simp [swV] at hi, ⟨(fun x hx => nomatch hx), LShp.same HH.out (Below.refl _ _)⟩, LMut.same HH.out (Below.refl _ _)⟩
  | some c =>
    obtain ⟨i0, hi, hz0, hz1, hz2⟩ := info_parts infoRun
    obtain ⟨j0, hj, hy0, hy1, hy2⟩ := info_parts infoPRS
    obtain ⟨B, V, X, rfl, h⟩ := h
    have HM := Lib.hid (dmade_any h)
    have HH := Lib.hid h
    have hmax : X.length ≤ 1024 := by rw [h.len]; exact h.wf.len
    obtain ⟨A, cap, rfl⟩ := owns_form h.row
    have c3 := h.cells.2.2.2
    obtain ⟨N, hN⟩ : ∃ N, X.length = N := ⟨_, rfl⟩
    have HN := Lib.hid hN
    rw [hN] at c3 hmax
    have HC3 := Lib.hid (fun (W : World) (hb : Below w.heap.size w W) => show W.cell? ⟨B, 3, none⟩ = some (.slice A N cap) ∧ W.frozen? ⟨B, 3, none⟩ = false from by
      have h5 := (h.below hb).hd
      exact ⟨by rw [← hN]; exact h5.cell 3 (by omega), h5.free 3 (by omega)⟩)
    have HE := Lib.hid (show swV (some c) = goS X from by rw [goS_ms, h.ms]; rfl)
    have HE2 := Lib.hid (show swD (some c) = some { c with L := live c.L } from rfl)
    generalize swV (some c) = SV at *
    generalize swD (some c) = SD at *
    clear h hN
    go_enter Tryz.func29, Tryz.ntmps29
    go_wp2_with (go_at_call 23; refine HM.out.mono ?_; rintro e w1 ⟨rfl, rfl⟩)
    clear c3
    go_loopw [3, 4, 5] (fun t u i wr => ∃ k : Nat, k ≤ N ∧ i = .int .i64 k ∧ wr.ownsRow w.heap.size 55 2 t (goS (X.take k)).length (cellsR (goS (X.take k))) ∧ wr.ownsRow w.heap.size 65 1 u (kpS (X.take k)).length (pV (kpS (X.take k))) ∧ Below w.heap.size w wr) (fun _ _ i _ => N - (intOf i).toNat)
    case atStart => exact ⟨0, by omega, rfl, World.ownsRow_nil _ _ _ _, World.ownsRow_nil _ _ _ _, Below.refl _ _⟩
    case round =>
      obtain ⟨k, hk, rfl, hrow, hrow2, hb⟩ := hrel
      have c3 := (HC3.out wr hb).1
      obtain ⟨A', c', rfl⟩ := owns_form hrow
      obtain ⟨A2, c2, rfl⟩ := owns_form hrow2
      have HR := Lib.hid hrow
      have HR2 := Lib.hid hrow2
      have HB := Lib.hid hb
      have hll : (goS (X.take k)).length ≤ 1024 := by
        unfold goS
        rw [List.length_map]
        have := List.length_filter_le (fun x : Sn => decide (tc x.m = 0)) (X.take k)
        rw [List.length_take] at this
        omega
      have hll2 : (kpS (X.take k)).length ≤ 1024 := by
        unfold kpS
        have := List.length_filter_le (fun x : Sn => decide (tc x.m ≠ 0)) (X.take k)
        rw [List.length_take] at this
        omega
      by_cases hlt : k < N
      · obtain ⟨x, hx⟩ : ∃ x, X[k]? = some x := ⟨_, List.getElem?_eq_getElem (by have := HN.out; omega)⟩
        obtain ⟨g, cap2, hV, hc⟩ := (HH.out.below hb).slot hx
        obtain ⟨rfl, rfl⟩ : A = some ⟨g, 0, none⟩ ∧ cap = cap2 := by injection hV; exact ⟨by assumption, by assumption⟩
        have HT := Lib.hid (rTaken_any ((HH.out.below hb).span hx))
        rw [show (tkO (some x.m)).length = tc x.m from rfl] at HT
        have HD := Lib.hid (fun W (hbW : Below w.heap.size w W) => rRun_any ((HH.out.below hbW).span hx))
        rw [show runV (some x.m) = .agg #[.int .i64 x.m.s, .int .i64 x.m.g] from rfl] at HD
        by_cases ht : tc x.m = 0
        · have hs1 : goS (X.take (k + 1)) = goS (X.take k) ++ [(x.m.s, x.m.g)] := by
            unfold goS
            rw [filt_take hx, if_pos (by simpa using ht), List.map_append]; rfl
          have hs2 : kpS (X.take (k + 1)) = kpS (X.take k) := by
            unfold kpS
            rw [filt_take hx, if_neg (by simpa using ht), List.append_nil]
          have HS := Lib.hid (And.intro hs1 hs2)
          rw [ht] at HT
          clear hV hx hs1 hs2 hrow hrow2 hb ht
          generalize goS (X.take k) = L at *
          generalize kpS (X.take k) = K at *
          generalize x.m.s = sx at *
          generalize x.m.g = gx at *
          go_wp2_with (first
            | (go_at_call 60; refine HT.out.mono ?_; rintro e w2 ⟨rfl, hbq⟩; have hc2 := (hbq.cell (p := ⟨g, k, none⟩) (World.block_lt_of_cell? _ _ hc)).trans hc; have HB2 := Lib.hid (btr HB.out hbq (Nat.le_refl _)); have HQ2 := Lib.hid hbq; obtain ⟨c32, _⟩ := HC3.out _ HB2.out; clear hbq c3 hc)
            | (go_at_call 66; refine (HD.out _ HB2.out).mono ?_; rintro e w3 ⟨rfl, hbq⟩; have HB3 := Lib.hid (btr HB2.out hbq (Nat.le_refl _)); have HQ3 := Lib.hid (btr HQ2.out hbq (Nat.le_refl _)); have hr3 := owns_below HR.out (btr HQ2.out hbq (Nat.le_refl _)); have HR3 := Lib.hid hr3; clear hbq hr3)
            | (at_builtin; refine wpList_append_own _ rfl _ _ 49 rfl w.heap.size 55 i0 (.agg #[.int .i64 0, .int .i64 0]) 2 16 undRuns hi hz0 hz1 hz2 rfl (by decide) _ _ _ rfl (HR3.out.alloc _) ⟨w3.heap.size, 0, none⟩ 1 1 [.int .i64 sx, .int .i64 gx] rfl rfl (cells2_new w3 _ _ _) (by simp [Value.oneCell']) (by unfold maxLen; omega) (by omega) (by have := HB3.out.size; simp; omega) ?_; intro v' w4 hown' hgrow _; have HB4 := Lib.hid ((HB3.out.alloc HB3.out.size _).grown hgrow (by have := HB3.out.size; simp; omega) (fun k e => (HR3.out.lt k e).1)); have HO4 := Lib.hid hown'; have HK4 := Lib.hid (owns_block ((owns_below HR2.out HQ3.out).alloc _) (fun g hg hl => hgrow.block g hl (fun e => owns_ne (HR3.out.alloc (.cells #[.int .i64 sx, .int .i64 gx] 55)) ((owns_below HR2.out HQ3.out).alloc _) (by decide) e.symm hg))); clear hown' hgrow))
          go_roundw
          case rel => exact ⟨k + 1, by omega, by go_num, by rw [HS.out.1, cellsR_app, List.length_append]; exact HO4.out, by rw [HS.out.2]; exact HK4.out, HB4.out⟩
          case measure => simp [intOf]; omega
        · have hs1 : goS (X.take (k + 1)) = goS (X.take k) := by
            unfold goS
            rw [filt_take hx, if_neg (by simpa using ht), List.append_nil]
          have hs2 : kpS (X.take (k + 1)) = kpS (X.take k) ++ [x] := by
            unfold kpS
            rw [filt_take hx, if_pos (by simpa using ht)]
          have HS := Lib.hid (And.intro hs1 hs2)
          have ht0 : ((tc x.m : Int) == 0) = false := by simp; omega
          have HXV := Lib.hid (show pV [x] = [.pointer (some ⟨x.B, 0, none⟩)] from rfl)
          clear hV hx hs1 hs2 hrow hrow2 hb ht HD
          generalize goS (X.take k) = L at *
          generalize kpS (X.take k) = K at *
          generalize tc x.m = tx at *
          generalize x.B = xb at *
          go_wp2_with (first
            | (go_at_call 60; refine HT.out.mono ?_; rintro e w2 ⟨rfl, hbq⟩; have hc2 := (hbq.cell (p := ⟨g, k, none⟩) (World.block_lt_of_cell? _ _ hc)).trans hc; have HB2 := Lib.hid (btr HB.out hbq (Nat.le_refl _)); have hr3 := owns_below HR.out hbq; have HR3 := Lib.hid hr3; have hk3 := owns_below HR2.out hbq; have HK3 := Lib.hid hk3; obtain ⟨c32, _⟩ := HC3.out _ HB2.out; clear hbq hr3 hk3 c3 hc)
            | (at_builtin; refine wpList_append_own _ rfl _ _ 60 rfl w.heap.size 65 j0 (.pointer none) 1 8 undDSpans hj hy0 hy1 hy2 rfl (by decide) _ _ _ rfl (HK3.out.alloc _) ⟨w2.heap.size, 0, none⟩ 1 1 [.pointer (some ⟨xb, 0, none⟩)] rfl rfl (cells1_new w2 _ _) (by simp [Value.oneCell']) (by unfold maxLen; omega) (by omega) (by have := HB2.out.size; simp; omega) ?_; intro v' w4 hown' hgrow _; have HB4 := Lib.hid ((HB2.out.alloc HB2.out.size _).grown hgrow (by have := HB2.out.size; simp; omega) (fun k e => (HK3.out.lt k e).1)); have HO4 := Lib.hid hown'; have HK4 := Lib.hid (owns_block (HR3.out.alloc _) (fun g hg hl => hgrow.block g hl (fun e => owns_ne (HK3.out.alloc (.cells #[.pointer (some ⟨xb, 0, none⟩)] 65)) (HR3.out.alloc _) (by decide) e.symm hg))); clear hown' hgrow))
          go_roundw
          case rel => exact ⟨k + 1, by omega, by go_num, by rw [HS.out.1]; exact HK4.out, by rw [HS.out.2, pV_app, List.length_append, HXV.out]; exact HO4.out, HB4.out⟩
          case measure => simp [intOf]; omega
      · obtain rfl : k = N := by omega
        have e : X.take k = X := List.take_of_length_le (by rw [HN.out]; exact Nat.le_refl _)
        rw [e, ← HE.out] at HR
        rw [e] at HR2
        have HL := Lib.hid (show (goS (X.take k)).length = SV.length by rw [e, HE.out])
        have HL2 := Lib.hid (show (kpS (X.take k)).length = (kpS X).length by rw [e])
        obtain ⟨k1, k2⟩ := HC3.out wr hb
        clear hrow hrow2 hb e hll hll2
        generalize (goS (X.take k)).length = n1 at *
        generalize (kpS (X.take k)).length = n2 at *
        go_wp2_with fail
        go_ret
        have hp := sweep_post HH.out HB.out (v' := .slice A2 n2 c2) (by rw [← HL2.out]; rw [← HL2.out] at HR2; exact HR2.out)
        have hs := sweep_sharp HH.out HB.out (v' := .slice A2 n2 c2) (by rw [← HL2.out]; rw [← HL2.out] at HR2; exact HR2.out)
        rw [HL.out]
        obtain ⟨f1, f2⟩ := rs_of HR.out
        have hsh : LShp true w O (.pointer (some ⟨B, 0, none⟩)) (some { c with L := live c.L }) A' (wr.setCell ⟨B, 3, none⟩ (.slice A2 n2 c2)) := by
          refine ⟨_, hs, fun k hk => hk.imp id fun hk0 => ?_⟩
          have hk : (Value.slice A2 (kpS X).length c2).ownBlock = some k := by cases A2 <;> exact hk0
          refine ⟨(owns_at HR2.out hk).1, fun x hx e => ?_⟩
          have how : (Value.slice A' SV.length c').ownBlock = some k := by
            rcases HR.out.2 with ⟨h0, _⟩ | ⟨g, cap, _, e1, _, _⟩
            · rw [hx] at h0; cases h0
            · cases e1; cases hx; subst e; rfl
          exact owns_ne HR.out HR2.out (by decide) how hk
        refine ⟨A', c', rfl, fun i a b hi => ?_, ⟨f2, by rw [HE2.out]; exact hsh⟩, by rw [HE2.out]; exact hp⟩
        obtain ⟨g, eg, h1, h2, h3⟩ := f1 i a b hi
        have hgB : g ≠ B := by
          have : w.heap.size ≤ g := f2 _ eg
          have := HH.out.lt B HH.out.ob
          intro e
          subst e
          omega
        have hblk : (wr.setCell ⟨B, 3, none⟩ (.slice A2 n2 c2)).heap[g]? = wr.heap[g]? := Below.heap_setCell _ _ _ _ hgB
        exact ⟨g, eg, by rw [World.size_setCell]; exact h1, (World.cell?_of_block (a := ⟨g, i * 2, none⟩) hblk).trans h2, (World.cell?_of_block (a := ⟨g, i * 2 + 1, none⟩) hblk).trans h3⟩

end Go.Proofs.YtejfoefhaphacaaGreat
