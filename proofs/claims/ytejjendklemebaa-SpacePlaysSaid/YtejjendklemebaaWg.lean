/- Package space: Clone's walk. -/
import Derived.Test.YtejjendklemebaaWf
import Derived.Deep.CutRange
namespace Go.Proofs.Ytejjendklemebaa
open Go.RowKit

theorem clone_start (w w1 : World) (m : Mo) (pt : Nat → Option Nat) (g cap' : Nat) (hg : w.heap.size ≤ g) (hcl : Cl w1 g (m.n * 2) (pgF m.st pt)) (hb : Below w.heap.size w w1) (hn : 1 ≤ m.n) (d p : Int) (hd : d = m.dir) (hp : p = m.pk) :
    CloneAt w (w1.alloc (.cells #[.slice (some ⟨g, 0, none⟩) m.n cap', .int .i64 d, .int .i64 p] 38)) m pt w1.heap.size g cap' 0 (fun _ => none) := by
  obtain ⟨W, hW⟩ : ∃ W, W = w1.alloc (.cells #[.slice (some ⟨g, 0, none⟩) m.n cap', .int .i64 d, .int .i64 p] 38) := ⟨_, rfl⟩
  have hlt : g < w1.heap.size := hcl.lt (by omega)
  have hb1 : Below w1.heap.size w1 W := by rw [hW]; exact bnew _ _
  have hsz : W.heap.size = w1.heap.size + 1 := by rw [hW]; simp
  have hnew : W.heap[w1.heap.size]? = some (.cells #[.slice (some ⟨g, 0, none⟩) m.n cap', .int .i64 d, .int .i64 p] 38) := by
    rw [hW]
    show (w1.heap.push _)[w1.heap.size]? = _
    rw [Array.getElem?_push, if_pos rfl]
  rw [← hW]
  refine ⟨⟨fun i hi => ?_, fun i _ => by simp [World.frozen?, hnew]⟩, (hcl.of_block (hb1.block _ hlt)).congr fun i _ => ?_, fun j hj => absurd hj (by omega), fun j y hj => absurd hj (by omega), fun j j' y hj => absurd hj (by omega), ⟨hb.size, by omega⟩, ⟨hg, by omega⟩, by omega, btr hb hb1 (Nat.le_refl _)⟩
  · have hi3 : i = 0 ∨ i = 1 ∨ i = 2 := by omega
    subst hd hp
    rcases hi3 with rfl | rfl | rfl <;> simp [World.cell?, hnew, spF]
  · unfold pgF
    dsimp only
    rw [if_neg (show ¬ i / 2 < 0 by omega)]

set_option maxHeartbeats 800000 in
theorem Clone_any {O : Nat → Prop} {B : Nat} {m : Mo} {w : World} (h : Sp w O B m) :
    Calls Try.prog 15 #[.pointer (some ⟨B, 0, none⟩)] w fun e w' => ∃ C, e = .returned (.pointer (some ⟨C, 0, none⟩)) ∧ Below w.heap.size w w' ∧ Sp w' (Nw w w') C m := by
  have HM := Lib.hid (made_any h)
  obtain ⟨A, cap, pt, h⟩ := h
  have hn2 := h.wf.n2
  have hn1 := h.wf.n1
  have hcp := h.cp
  have c0 := h.c0
  have c1 := h.c1
  have c2 := h.c2
  have hB := h.blt
  have HS := Lib.hid h
  have HC := Lib.hid (fun w' (hb : Below w.heap.size w w') => sclone_any (h.below hb))
  have hmx : Try.prog.follows .mixedOrders = true := by kernel_rfl
  obtain ⟨D, hD⟩ : ∃ D : Int, D = m.dir := ⟨_, rfl⟩
  obtain ⟨K, hK⟩ : ∃ K : Int, K = m.pk := ⟨_, rfl⟩
  rw [← hD] at c1
  rw [← hK] at c2
  have HD := Lib.hid hD
  have HK := Lib.hid hK
  clear h hD hK
  go_enter Try.func15, Try.ntmps15
  go_upto_region 3 with (go_at_call 38; refine HM.out.mono ?_; rintro e w1 ⟨rfl, rfl⟩)
  go_cut [3] from 10 to 24 (fun c wx => ∃ C g cap', c = .pointer (some ⟨C, 0, none⟩) ∧ CloneAt w wx m pt C g cap' 0 (fun _ => none) ∧ m.n ≤ cap')
  case first =>
    go_region_with ((go_at_call 39; refine (HC.out _ (Below.refl _ _).drew).mono ?_; rintro e w1 ⟨g, cap', rfl, hg, hc', hcl, hb1⟩; have d0 := (hb1.cell (p := ⟨B, 0, none⟩) hB).trans c0; have d1 := (hb1.cell (p := ⟨B, 1, none⟩) hB).trans c1; have d2 := (hb1.cell (p := ⟨B, 2, none⟩) hB).trans c2; have HCL := Lib.hid hcl; have HB1 := Lib.hid hb1; have HG := Lib.hid hg; clear hcl hb1 hg))
    all_goals (go_wp2_with fail; go_meet)
    all_goals exact ⟨_, _, _, rfl, clone_start w w1 m pt _ _ HG.out HCL.out ((Below.refl w.heap.size w).drew.trans HB1.out) hn1 D K HD.out HK.out, hc'⟩
  case rest =>
    obtain ⟨C, g, cap', rfl, hCA, hc'⟩ := hcut
    have c0' := (hCA.bel.cell (p := ⟨B, 0, none⟩) hB).trans c0
    have HCA := Lib.hid hCA
    clear hCA
    go_wp2_with fail
    go_loopw [30] (fun i wr => ∃ k p2, k ≤ m.n ∧ i = .int .i64 (k : Nat) ∧ CloneAt w wr m pt C g cap' k p2) (fun i _ => m.n - (intOf i).toNat)
    case atStart => exact ⟨0, _, by omega, rfl, HCA.out⟩
    case round =>
      obtain ⟨k, p2, hk, rfl, hK⟩ := hrel
      have HK := Lib.hid hK
      clear c0'
      by_cases hlt : k < m.n
      · have hS := HS.out.below hK.bel
        have g0 := hS.a0 hlt
        have g1 := hS.a1 hlt
        cases hp : pt k with
        | none =>
          rw [hp] at g1
          simp only [ptrA] at g1
          generalize decide (m.st k ≠ 0) = b at g0
          have HN := Lib.hid hp
          clear hK hS hp
          go_wp2_with fail
          go_roundw
          case rel => exact ⟨k + 1, _, by omega, by go_num, (HK.out.below (bnew _ _)).skip HN.out⟩
          case measure => simp [intOf]; omega
        | some x =>
          rw [hp] at g1
          simp only [ptrA] at g1
          generalize decide (m.st k ≠ 0) = b at g0
          have HP := Lib.hid hp
          have hA' := hK.hA.2
          have hC' := hK.hC.2
          have q0 := hK.b.cell 0 (by omega)
          simp only [spF, if_pos] at q0
          have q1 := hK.a.cell (k * 2 + 1) (by omega)
          have q2 := hK.a.free (k * 2 + 1) (by omega)
          have hxl : x < wr.heap.size := hS.lt _ (hS.ow k x hlt hp)
          have hws := hS.ws k x hlt hp
          have HCX := Lib.hid (hws.of_block (w' := wr.alloc (.cells #[.bool b, .pointer (some ⟨x, 0, none⟩)] 72)) (Below.heap_alloc _ _ _ hxl))
          obtain ⟨Z, hZ⟩ : ∃ Z, Z = ((List.range 32).map (fun t => Value.int .i64 (m.hd (32 * k + t)))).toArray := ⟨_, rfl⟩
          have HZ := Lib.hid hZ
          have HZs := Lib.hid (show Z.size = 32 by rw [hZ]; simp)
          have HZ1 := Lib.hid (show ∀ u ∈ Z.toList, u.oneCell' = true by rw [hZ]; intro u hu; simp at hu; obtain ⟨t, _, rfl⟩ := hu; rfl)
          clear hws hZ
          clear hK hS hp
          go_wp2_with (first
            | (refine wpList_load_arr rfl (.tmp 40) rfl x rfl _ HCX.out Z HZ.out ?_)
            | (refine wpList_store_arr rfl (.tmp 6) (.tmp 41) rfl (wr.heap.size + 1) rfl Z rfl HZs.out _ 74 (heap_alloc2_new wr _ _) rfl HZ1.out ?_; intro w2 HW2; have hbw := ((bnew wr _).alloc (by simp) _).trans (HW2.out.2.1.mono (Nat.le_succ _)); have r0 := (hbw.cell (p := ⟨C, 0, none⟩) hC').trans q0; have r1 := (hbw.cell (p := ⟨g, k * 2 + 1, none⟩) hA').trans q1; have r2 := (hbw.frozen (p := ⟨g, k * 2 + 1, none⟩) hA').trans q2; have HBW := Lib.hid hbw; clear hbw))
          go_roundw
          case rel => exact ⟨k + 1, _, by omega, by go_num, HK.out.copy HP.out HBW.out (Nat.le_succ _) (by rw [HW2.out.2.2]; simp) ⟨fun i hi => by simp [World.cell?, HW2.out.1, HZ.out, hi], fun i _ => by simp [World.frozen?, HW2.out.1]⟩⟩
          case measure => simp [intOf]; omega
      · have hkn : k = m.n := by omega
        have HKN := Lib.hid hkn
        clear hkn hK
        go_wp2
        go_ret
        exact ⟨_, rfl, HK.out.bel, by have := HK.out; rw [HKN.out] at this; exact this.done HS.out.wf HS.out.pn hc'⟩

end Go.Proofs.Ytejjendklemebaa
