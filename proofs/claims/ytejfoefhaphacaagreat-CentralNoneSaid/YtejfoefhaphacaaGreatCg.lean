/- Package central: Sweep. -/
import Derived.Test.YtejfoefhaphacaaGreatCf
namespace Go.Proofs.YtejfoefhaphacaaGreat
open Go.RowKit Go.Shelf

theorem filt_take {α : Type} {p : α → Bool} {L : List α} {k : Nat} {m : α} (h : L[k]? = some m) : (L.take (k + 1)).filter p = (L.take k).filter p ++ (if p m = true then [m] else []) := by
  rw [List.take_add_one, h, List.filter_append]
  congr 1
  by_cases hp : p m = true <;> simp [hp]
/-- The spans that stay; the runs of those that go. -/
def kpS (X : List Sn) : List Sn := X.filter (fun x => decide (tc x.m ≠ 0))
def goS (X : List Sn) : List (Nat × Nat) := (X.filter (fun x => decide (tc x.m = 0))).map (fun x => (x.m.s, x.m.g))
theorem kpS_ms (X : List Sn) : (kpS X).map (·.m) = live (X.map (·.m)) := by unfold kpS live; rw [List.filter_map]; rfl
theorem goS_ms (X : List Sn) : goS X = (dead (X.map (·.m))).map (fun m => (m.s, m.g)) := by unfold goS dead; rw [List.filter_map, List.map_map]; rfl
theorem pV_app (X Y : List Sn) : pV (X ++ Y) = pV X ++ pV Y := by unfold pV; exact List.map_append

/-- What Sweep leaves. -/
theorem sweep_sharp {r : Bool} {O : Nat → Prop} {B : Nat} {V v' : Value} {X : List Sn} {c : Ce} {w w5 : World} (h : LiA r w O B V X c) (hb : Below w.heap.size w w5)
    (hrow : w5.ownsRow w.heap.size (eT r) 1 v' (kpS X).length (pV (kpS X))) : LOb r (w5.setCell ⟨B, 3, none⟩ v') (fun k => O k ∨ v'.ownBlock = some k) (.pointer (some ⟨B, 0, none⟩)) (some { c with L := live c.L }) := by
  have h4 := h.below hb
  have sz := hb.size
  have hBw := h.lt B h.ob
  have hsz6 : (w5.setCell ⟨B, 3, none⟩ v').heap.size = w5.heap.size := World.size_setCell _ _ _
  have hv : ∀ g, v'.ownBlock = some g → w.heap.size ≤ g ∧ g < w5.heap.size := fun g hg => ⟨(owns_at hrow hg).1, (owns_at hrow hg).2.1⟩
  have hget : ∀ (i : Nat) (y : Sn), (kpS X)[i]? = some y → ∃ j : Nat, X[j]? = some y := fun i y hy => List.mem_iff_getElem?.1 (List.mem_filter.1 (List.mem_of_getElem? hy)).1
  refine ⟨B, v', kpS X, rfl, h.wf.swept, ?_, ?_, fun g hg => ⟨.inr hg, fun e => ?_⟩, .inl h.ob, fun i y hy => ?_, fun i y hy k hk => ?_, h.dj.sublist List.filter_sublist, ?_, fun k hk => ?_⟩
  · exact (h4.hd.set 3 v').congr fun i hi => by
      have : i = 0 ∨ i = 1 ∨ i = 2 ∨ i = 3 := by omega
      rcases this with rfl | rfl | rfl | rfl <;> rfl
  · exact owns_block (owns_base hrow (Nat.zero_le _)) fun g hg _ => Below.heap_setCell _ _ _ _ (fun (e : g = B) => by have := (hv g hg).1; omega)
  · have := (hv g hg).1; omega
  · obtain ⟨j, hj⟩ := hget i y hy
    have hso := h4.so j y hj
    exact (h4.sp j y hj).blocks (Below.heap_setCell _ _ _ _ (hso _ (.inl rfl)).2.1) (Below.heap_setCell _ _ _ _ (hso _ (.inr rfl)).2.1) (by rw [hsz6]; exact Nat.le_refl _)
  · obtain ⟨j, hj⟩ := hget i y hy
    have hso := h.so j y hj k hk
    exact ⟨.inl hso.1, hso.2.1, fun e => by have := (hv k e).1; have := h.lt k hso.1; omega⟩
  · rw [kpS_ms, h.ms]
  · rcases hk with hk | hk
    · rw [hsz6]; have := h.lt k hk; omega
    · rw [hsz6]; exact (hv k hk).2

theorem sweep_post {r : Bool} {O : Nat → Prop} {B : Nat} {V v' : Value} {X : List Sn} {c : Ce} {w w5 : World} (h : LiA r w O B V X c) (hb : Below w.heap.size w w5)
    (hrow : w5.ownsRow w.heap.size (eT r) 1 v' (kpS X).length (pV (kpS X))) : LMut r w O (.pointer (some ⟨B, 0, none⟩)) (some { c with L := live c.L }) (w5.setCell ⟨B, 3, none⟩ v') := by
  have hl := h.lt
  have hsz6 : (w5.setCell ⟨B, 3, none⟩ v').heap.size = w5.heap.size := World.size_setCell _ _ _
  refine ⟨(sweep_sharp h hb hrow).mono (fun k hk => ?_) (Ext.lt hl (by rw [hsz6]; exact hb.size)), (Keep.of hb).set (.inl h.ob) _⟩
  rcases hk with hk | hk
  · exact .inl hk
  · exact .inr ⟨(owns_at hrow hk).1, by rw [hsz6]; exact (owns_at hrow hk).2.1⟩

/-- What Sweep returns and leaves. -/
def SwP (w : World) (O : Nat → Prop) (v : Value) (L : List (Nat × Nat)) (om : Option Ce) (e : Ending) (w' : World) : Prop := ∃ A c, e = .returned (.slice A L.length c) ∧ RsAt w' A L ∧ (NewA w A ∧ LShp false w O v om A w') ∧ LMut false w O v om w'

set_option maxRecDepth 100000 in
set_option maxHeartbeats 4000000 in
theorem cSweep_any {O : Nat → Prop} {v : Value} {om : Option Ce} {w : World} (h : LOb false w O v om) : Calls Tryz.prog 28 #[v] w (SwP w O v (swV om) (swD om)) := by
  cases om with
  | none =>
    have HH := Lib.hid h
    have HM := Lib.hid (cmade_no h.1)
    clear h
    go_enter Tryz.func28, Tryz.ntmps28
    go_wp2_with (go_at_call 21; refine HM.out.mono ?_; rintro e w1 ⟨rfl, rfl⟩)
    go_ret
    exact ⟨none, 0, rfl, fun i a b hi => by simp [swV] at hi, ⟨(fun x hx => nomatch hx), LShp.same HH.out (Below.refl _ _)⟩, LMut.same HH.out (Below.refl _ _)⟩
  | some c =>
    obtain ⟨i0, hi, hz0, hz1, hz2⟩ := info_parts infoRun
    obtain ⟨j0, hj, hy0, hy1, hy2⟩ := info_parts infoPS
    obtain ⟨B, V, X, rfl, h⟩ := h
    have HM := Lib.hid (cmade_any h)
    have HH := Lib.hid h
    have hmax : X.length ≤ 1024 := by rw [h.len]; exact h.wf.len
    obtain ⟨A, cap, rfl⟩ := owns_form h.row
    have c3 := h.cells.2.2.2
    obtain ⟨N, hN⟩ : ∃ N, X.length = N := ⟨_, rfl⟩
    have HN := Lib.hid hN
    rw [hN] at c3 hmax
    have HC3 := Lib.hid (fun (W : World) (hb : Below w.heap.size w W) => show W.cell? ⟨B, 3, none⟩ = some (.slice A N cap) ∧ W.frozen? ⟨B, 3, none⟩ = false from by
      have h5 := (h.below hb).hd
      exact ⟨by rw [← hN]; exact h5.cell 3 (by omega), h5.free 3 (by omega)⟩)
    have HE := Lib.hid (show swV (some c) = goS X from by rw [goS_ms, h.ms]; rfl)
    have HE2 := Lib.hid (show swD (some c) = some { c with L := live c.L } from rfl)
    generalize swV (some c) = SV at *
    generalize swD (some c) = SD at *
    clear h hN
    go_enter Tryz.func28, Tryz.ntmps28
    go_wp2_with (go_at_call 21; refine HM.out.mono ?_; rintro e w1 ⟨rfl, rfl⟩)
    clear c3
    go_loopw [3, 4, 15] (fun t u i wr => ∃ k : Nat, k ≤ N ∧ i = .int .i64 k ∧ wr.ownsRow w.heap.size 55 2 t (goS (X.take k)).length (cellsR (goS (X.take k))) ∧ wr.ownsRow w.heap.size 63 1 u (kpS (X.take k)).length (pV (kpS (X.take k))) ∧ Below w.heap.size w wr) (fun _ _ i _ => N - (intOf i).toNat)
    case atStart => exact ⟨0, by omega, rfl, World.ownsRow_nil _ _ _ _, World.ownsRow_nil _ _ _ _, Below.refl _ _⟩
    case round =>
      obtain ⟨k, hk, rfl, hrow, hrow2, hb⟩ := hrel
      obtain ⟨A', c', rfl⟩ := owns_form hrow
      obtain ⟨A2, c2, rfl⟩ := owns_form hrow2
      have HR := Lib.hid hrow
      have HR2 := Lib.hid hrow2
      have HB := Lib.hid hb
      have hll : (goS (X.take k)).length ≤ 1024 := by
        unfold goS
        rw [List.length_map]
        have := List.length_filter_le (fun x : Sn => decide (tc x.m = 0)) (X.take k)
        rw [List.length_take] at this
        omega
      have hll2 : (kpS (X.take k)).length ≤ 1024 := by
        unfold kpS
        have := List.length_filter_le (fun x : Sn => decide (tc x.m ≠ 0)) (X.take k)
        rw [List.length_take] at this
        omega
      by_cases hlt : k < N
      · obtain ⟨x, hx⟩ : ∃ x, X[k]? = some x := ⟨_, List.getElem?_eq_getElem (by have := HN.out; omega)⟩
        obtain ⟨g, cap2, hV, hc⟩ := (HH.out.below hb).slot hx
        obtain ⟨rfl, rfl⟩ : A = some ⟨g, 0, none⟩ ∧ cap = cap2 := by injection hV; exact ⟨by assumption, by assumption⟩
        have HT := Lib.hid (Taken_any ((HH.out.below hb).span hx))
        rw [show (tkO (some x.m)).length = tc x.m from rfl] at HT
        have HD := Lib.hid (fun W (hbW : Below w.heap.size w W) => Run_any ((HH.out.below hbW).span hx))
        rw [show runV (some x.m) = .agg #[.int .i64 x.m.s, .int .i64 x.m.g] from rfl] at HD
        by_cases ht : tc x.m = 0
        · have hs1 : goS (X.take (k + 1)) = goS (X.take k) ++ [(x.m.s, x.m.g)] := by
            unfold goS
            rw [filt_take hx, if_pos (by simpa using ht), List.map_append]; rfl
          have hs2 : kpS (X.take (k + 1)) = kpS (X.take k) := by
            unfold kpS
            rw [filt_take hx, if_neg (by simpa using ht), List.append_nil]
          have HS := Lib.hid (And.intro hs1 hs2)
          rw [ht] at HT
          clear hV hx hs1 hs2 hrow hrow2 hb ht
          generalize goS (X.take k) = L at *
          generalize kpS (X.take k) = K at *
          generalize x.m.s = sx at *
          generalize x.m.g = gx at *
          go_wp2_with (first
            | (go_at_call 65; refine HT.out.mono ?_; rintro e w2 ⟨rfl, hbq⟩; have HB2 := Lib.hid (btr HB.out hbq (Nat.le_refl _)); have HQ2 := Lib.hid hbq; clear hbq)
            | (go_at_call 51; refine (HD.out _ HB2.out).mono ?_; rintro e w3 ⟨rfl, hbq⟩; have HB3 := Lib.hid (btr HB2.out hbq (Nat.le_refl _)); have HQ3 := Lib.hid (btr HQ2.out hbq (Nat.le_refl _)); have hr3 := owns_below HR.out (btr HQ2.out hbq (Nat.le_refl _)); have HR3 := Lib.hid hr3; clear hbq hr3)
            | (at_builtin; refine wpList_append_own _ rfl _ _ 49 rfl w.heap.size 55 i0 (.agg #[.int .i64 0, .int .i64 0]) 2 16 undRuns hi hz0 hz1 hz2 rfl (by decide) _ _ _ rfl (HR3.out.alloc _) ⟨w3.heap.size, 0, none⟩ 1 1 [.int .i64 sx, .int .i64 gx] rfl rfl (cells2_new w3 _ _ _) (by simp [Value.oneCell']) (by unfold maxLen; omega) (by omega) (by have := HB3.out.size; simp; omega) ?_; intro v' w4 hown' hgrow _; have HB4 := Lib.hid ((HB3.out.alloc HB3.out.size _).grown hgrow (by have := HB3.out.size; simp; omega) (fun k e => (HR3.out.lt k e).1)); have HO4 := Lib.hid hown'; have HK4 := Lib.hid (owns_block ((owns_below HR2.out HQ3.out).alloc _) (fun g hg hl => hgrow.block g hl (fun e => owns_ne (HR3.out.alloc (.cells #[.int .i64 sx, .int .i64 gx] 55)) ((owns_below HR2.out HQ3.out).alloc _) (by decide) e.symm hg))); clear hown' hgrow))
          go_roundw
          case rel => exact ⟨k + 1, by omega, by go_num, by rw [HS.out.1, cellsR_app, List.length_append]; exact HO4.out, by rw [HS.out.2]; exact HK4.out, HB4.out⟩
          case measure => simp [intOf]; omega
        · have hs1 : goS (X.take (k + 1)) = goS (X.take k) := by
            unfold goS
            rw [filt_take hx, if_neg (by simpa using ht), List.append_nil]
          have hs2 : kpS (X.take (k + 1)) = kpS (X.take k) ++ [x] := by
            unfold kpS
            rw [filt_take hx, if_pos (by simpa using ht)]
          have HS := Lib.hid (And.intro hs1 hs2)
          have ht0 : ((tc x.m : Int) == 0) = false := by simp; omega
          have HXV := Lib.hid (show pV [x] = [.pointer (some ⟨x.B, 0, none⟩)] from rfl)
          clear hV hx hs1 hs2 hrow hrow2 hb ht HD
          generalize goS (X.take k) = L at *
          generalize kpS (X.take k) = K at *
          generalize tc x.m = tx at *
          generalize x.B = xb at *
          go_wp2_with (first
            | (go_at_call 65; refine HT.out.mono ?_; rintro e w2 ⟨rfl, hbq⟩; have HB2 := Lib.hid (btr HB.out hbq (Nat.le_refl _)); have hr3 := owns_below HR.out hbq; have HR3 := Lib.hid hr3; have hk3 := owns_below HR2.out hbq; have HK3 := Lib.hid hk3; clear hbq hr3 hk3)
            | (at_builtin; refine wpList_append_own _ rfl _ _ 42 rfl w.heap.size 63 j0 (.pointer none) 1 8 undSpans hj hy0 hy1 hy2 rfl (by decide) _ _ _ rfl (HK3.out.alloc _) ⟨w2.heap.size, 0, none⟩ 1 1 [.pointer (some ⟨xb, 0, none⟩)] rfl rfl (cells1_new w2 _ _) (by simp [Value.oneCell']) (by unfold maxLen; omega) (by omega) (by have := HB2.out.size; simp; omega) ?_; intro v' w4 hown' hgrow _; have HB4 := Lib.hid ((HB2.out.alloc HB2.out.size _).grown hgrow (by have := HB2.out.size; simp; omega) (fun k e => (HK3.out.lt k e).1)); have HO4 := Lib.hid hown'; have HK4 := Lib.hid (owns_block (HR3.out.alloc _) (fun g hg hl => hgrow.block g hl (fun e => owns_ne (HK3.out.alloc (.cells #[.pointer (some ⟨xb, 0, none⟩)] 63)) (HR3.out.alloc _) (by decide) e.symm hg))); clear hown' hgrow))
          go_roundw
          case rel => exact ⟨k + 1, by omega, by go_num, by rw [HS.out.1]; exact HK4.out, by rw [HS.out.2, pV_app, List.length_append, HXV.out]; exact HO4.out, HB4.out⟩
          case measure => simp [intOf]; omega
      · obtain rfl : k = N := by omega
        have e : X.take k = X := List.take_of_length_le (by rw [HN.out]; exact Nat.le_refl _)
        rw [e, ← HE.out] at HR
        rw [e] at HR2
        have HL := Lib.hid (show (goS (X.take k)).length = SV.length by rw [e, HE.out])
        have HL2 := Lib.hid (show (kpS (X.take k)).length = (kpS X).length by rw [e])
        obtain ⟨k1, k2⟩ := HC3.out wr hb
        clear hrow hrow2 hb e hll hll2
        generalize (goS (X.take k)).length = n1 at *
        generalize (kpS (X.take k)).length = n2 at *
        go_wp2_with fail
        go_ret
        have hp := sweep_post HH.out HB.out (v' := .slice A2 n2 c2) (by rw [← HL2.out]; rw [← HL2.out] at HR2; exact HR2.out)
        have hs := sweep_sharp HH.out HB.out (v' := .slice A2 n2 c2) (by rw [← HL2.out]; rw [← HL2.out] at HR2; exact HR2.out)
        rw [HL.out]
        obtain ⟨f1, f2⟩ := rs_of HR.out
        have hsh : LShp false w O (.pointer (some ⟨B, 0, none⟩)) (some { c with L := live c.L }) A' (wr.setCell ⟨B, 3, none⟩ (.slice A2 n2 c2)) := by
          refine ⟨_, hs, fun k hk => hk.imp id fun hk0 => ?_⟩
          have hk : (Value.slice A2 (kpS X).length c2).ownBlock = some k := by cases A2 <;> exact hk0
          refine ⟨(owns_at HR2.out hk).1, fun x hx e => ?_⟩
          have how : (Value.slice A' SV.length c').ownBlock = some k := by
            rcases HR.out.2 with ⟨h0, _⟩ | ⟨g, cap, _, e1, _, _⟩
            · rw [hx] at h0; cases h0
            · cases e1; cases hx; subst e; rfl
          exact owns_ne HR.out HR2.out (by decide) how hk
        refine ⟨A', c', rfl, fun i a b hi => ?_, ⟨f2, by rw [HE2.out]; exact hsh⟩, by rw [HE2.out]; exact hp⟩
        obtain ⟨g, eg, h1, h2, h3⟩ := f1 i a b hi
        have hgB : g ≠ B := by
          have : w.heap.size ≤ g := f2 _ eg
          have := HH.out.lt B HH.out.ob
          intro e
          subst e
          omega
        have hblk : (wr.setCell ⟨B, 3, none⟩ (.slice A2 n2 c2)).heap[g]? = wr.heap[g]? := Below.heap_setCell _ _ _ _ hgB
        exact ⟨g, eg, by rw [World.size_setCell]; exact h1, (World.cell?_of_block (a := ⟨g, i * 2, none⟩) hblk).trans h2, (World.cell?_of_block (a := ⟨g, i * 2 + 1, none⟩) hblk).trans h3⟩

end Go.Proofs.YtejfoefhaphacaaGreat
