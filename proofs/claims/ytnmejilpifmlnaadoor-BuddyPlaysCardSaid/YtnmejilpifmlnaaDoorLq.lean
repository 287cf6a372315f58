/- Clone. -/
import Derived.Test.YtnmejilpifmlnaaDoorLp
import Derived.Deep.AppendLies
import Derived.Deep.RegionLaw
namespace Go.Proofs.YtnmejilpifmlnaaDoor
open Go.RowKit

def ClonePost (w : World) (m : Mo) (e : Ending) (w' : World) : Prop := ∃ B, e = .returned (.pointer (some ⟨B, 0, none⟩)) ∧ Below w.heap.size w w' ∧ Hp w' (Nw w w') B m

set_option maxRecDepth 100000 in
set_option maxHeartbeats 2000000 in
theorem Clone_any {O : Nat → Prop} {B : Nat} {m : Mo} {w : World} (h : Hp w O B m) : Calls Tryd.prog 16 #[.pointer (some ⟨B, 0, none⟩)] w (ClonePost w m) := by
  have HM := Lib.hid (made_any h)
  have HT := Lib.hid h.tb
  have HWF := Lib.hid h.wf
  obtain ⟨i0, hi, hz0, hz1, hz2⟩ := info_parts Tryd.info64
  have HI := Lib.hid (And.intro hi (And.intro hz0 (And.intro hz1 hz2)))
  obtain ⟨A, cap, mb, h⟩ := h
  have c0 := h.c0
  have c1 := h.c1
  have hK11 := (h.wf.K).2.1
  have HA := Lib.hid h
  obtain ⟨n, hn⟩ : ∃ n, m.n = n := ⟨_, rfl⟩
  have HN := Lib.hid hn
  obtain ⟨K, hK⟩ : ∃ K, ords m.n = K := ⟨_, rfl⟩
  have HK := Lib.hid hK
  rw [hK] at c1 hK11
  rw [hn] at c0
  obtain ⟨Z, hZ⟩ : ∃ Z, w.heap.size = Z := ⟨_, rfl⟩
  obtain ⟨g2, g3⟩ := two_cells w w.heap.size (.int .i64 n) (.slice none 0 0) 42 rfl
  obtain ⟨f2, f3⟩ := two_free w w.heap.size (.int .i64 n) (.slice none 0 0) 42 rfl
  obtain ⟨W0, hW⟩ : ∃ W, w.alloc (.cells #[.int .i64 n, .slice none 0 0] 42) = W := ⟨_, rfl⟩
  have hb0 : Below w.heap.size w W0 := by rw [← hW]; exact bnew _ _
  rw [hW, hZ] at g2 g3 f2 f3
  have c1' := (hb0.cell (p := ⟨B, 1, none⟩) (h.lt _ h.ob)).trans c1
  have hM0 : Mk w n Z (fun k => Bk m.F k) W0 0 (.slice none 0 0) [] := ⟨rfl, ⟨fun i hi => by
      have : i = 0 ∨ i = 1 := by omega
      rcases this with rfl | rfl
      · exact g2
      · exact g3, fun i hi => by
      have : i = 0 ∨ i = 1 := by omega
      rcases this with rfl | rfl
      · exact f2
      · exact f3⟩, World.ownsRow_nil _ _ _ _, fun k b h => by simp at h, List.nodup_nil, hb0, hZ⟩
  have HM0 := Lib.hid hM0
  clear hi hz0 hz1 hz2 hn hK g2 g3 f2 f3 hb0 hM0 h
  go_enter Tryd.func16, Tryd.ntmps16
  go_wp2_with (go_at_call 33; refine HM.out.mono ?_; rintro x _ ⟨rfl, rfl⟩)
  clear hW c0 c1 c1'
  go_loopw [20] (fun i wr => ∃ (k : Nat) (v : Value) (bs : List Nat), k ≤ K ∧ i = .int .i64 k ∧ Mk w n Z (fun k => Bk m.F k) wr k v bs) (fun i _ => K - (intOf i).toNat)
  case atStart => exact ⟨0, _, _, by omega, rfl, HM0.out⟩
  case round =>
    clear HM0
    obtain ⟨k, v, bs, hk, rfl, hM⟩ := hrel
    obtain ⟨Ax, cx, rfl⟩ := owns_form hM.own
    have d1 := hM.cl.cell 1 (by omega)
    simp only [if_neg (show ¬ (1 : Nat) = 0 by omega)] at d1
    have hzl := hM.cl.lt (by omega)
    by_cases hlt : k < K
    · have HM := Lib.hid hM
      have hA := HA.out.below hM.bel
      have a0 := hA.a0 (k := k) (by have := HK.out; omega)
      have HS := Lib.hid (hA.s k (by have := HK.out; omega))
      clear hA
      have HOWN := Lib.hid hM.own
      have hw0 : wr.heap.size = wr.heap.size := rfl
      obtain ⟨N, hN⟩ : ∃ N, wr.heap.size = N := ⟨_, rfl⟩
      have hkp : (Value.slice Ax k cx).ownBlock = none ∨ (Value.slice Ax k cx).ownBlock ≠ some Z := by
        rcases HOWN.out.2 with ⟨hv, _⟩ | ⟨g, cap, cur, hv, hg1, _⟩
        · exact .inl (by rw [hv]; rfl)
        · refine .inr fun e => ?_
          rw [hv] at e
          simp [Value.ownBlock] at e
          omega
      have HCL := Lib.hid ((mapsClone_set (w := wr.drew) (HS.out.of_block rfl)).mono (R' := fun e w' => e = .returned (.map (some N)) ∧ SetAt w' N (Bk m.F k) ∧ Below wr.heap.size wr w' ∧ w'.heap.size = N + 1 ∧ w'.ownsRow (Z + 1) 64 1 (.slice Ax k cx) k (mapC bs)) (fun e w' ⟨e1, e2, e3, e4⟩ => by
        have hN' : wr.drew.heap.size = N := hN
        rw [hN'] at e1 e2 e4
        have hbl : Below wr.heap.size wr w' := bdr (k := 1) e3
        exact ⟨e1, e2, hbl, e4, HOWN.out.kept (row := some Z) ⟨hbl.os, hbl.tape, hbl.output, hbl.size, fun k hk _ => hbl.block k hk⟩ (hkp)⟩))
      have HDC := Lib.hid (fun w' (hb : Below wr.heap.size wr w') => (hb.cell (p := ⟨Z, 1, none⟩) hzl).trans d1)
      clear hM hw0
      go_wp2_with fail
      obtain ⟨hi, hz0, hz1, hz2⟩ := HI.out
      go_region_law
        (first
        | (go_simp; go_at_call 34; refine HCL.out.mono ?_; rintro e W ⟨rfl, hSW, hBW, hzW, hOW⟩; have hd1 := HDC.out _ hBW; have hd2 := HDC.out _ (hBW.alloc hBW.size (.cells #[.map (some N)] 64)))
        | (have hOW1 := hOW.alloc (.cells #[.map (some N)] 64); have hCN := cell_one_new W (.map (some N)) 64; simp only [hzW] at hCN; refine step_append_lies _ (by rfl) (.tmp 28) (.tmp 31) 40 (by rfl) (Z + 1) 64 i0 (.map none) 1 8 Tryd.underlying40 hi hz0 hz1 hz2 (by rfl) (by decide) (.slice Ax k cx) k (mapC bs) (by rfl) hOW1 ⟨N + 1, 0, none⟩ 1 1 [.map (some N)] (by rfl) (by rfl) hCN (by simp [Value.oneCell']) (by decide) (by unfold maxLen; omega) (by omega) (by rw [World.size_alloc, hzW]; omega) _ (by rfl) ?_; intro g cap5 w5 hown' hgrow hat hlt5; obtain ⟨hM5, hc5, hf5⟩ := HM.out.push hBW (by omega) hSW hown' hgrow; have HM5 := Lib.hid hM5; clear hM5 hown' hgrow))
      all_goals
        go_wp2
        go_roundw
        case rel => exact ⟨k + 1, _, _, by omega, by go_num, HM5.out⟩
        case measure => simp [intOf]; omega
    · go_wp2
      go_ret
      obtain rfl : k = K := by omega
      refine ⟨Z, rfl, hM.bel, ?_⟩
      rw [← HK.out] at hM
      exact Mk.done (m := m) hM HWF.out HN.out HT.out

end Go.Proofs.YtnmejilpifmlnaaDoor
