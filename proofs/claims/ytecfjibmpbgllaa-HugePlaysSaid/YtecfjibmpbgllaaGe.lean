/- The reference's tracker: New, Clone. -/
import Derived.Test.YtecfjibmpbgllaaGd
namespace Go.Proofs.Ytecfjibmpbgllaa
open Go.RowKit

set_option maxHeartbeats 400000 in
theorem rNew_bad (p : Int) (w : World) (h : ¬ (16 ≤ p ∧ p ≤ 1024 ∧ p % 16 = 0)) : Calls Try.prog 15 #[.int .i64 p] w fun e w' => e = .returned (.tuple #[.pointer none, .int .i64 1]) ∧ w = w' := by
  by_cases h1 : p < 16
  · clear h
    go_enter Try.func15, Try.ntmps15
    go_wp2
    go_ret2
    exact ⟨rfl, rfl⟩
  · by_cases h2 : 1024 < p
    · clear h
      go_enter Try.func15, Try.ntmps15
      go_wp2
      go_ret2
      exact ⟨rfl, rfl⟩
    · have h3 : (Int.tmod p 16 == 0) = false := by
        simp only [beq_eq_false_iff_ne]
        rw [Int.tmod_eq_emod_of_nonneg (by omega)]
        omega
      have h4 : 0 ≤ p := by omega
      have h5 : (p % 16 == 0) = false := by simp only [beq_eq_false_iff_ne]; omega
      clear h
      go_enter Try.func15, Try.ntmps15
      go_wp2
      go_ret2
      exact ⟨rfl, rfl⟩

/-- A new tracker. -/
def rNewPost (w : World) (m : Mo) (e : Ending) (w' : World) : Prop := ∃ B, e = .returned (.tuple #[.pointer (some ⟨B, 0, none⟩), .int .i64 0]) ∧ Below w.heap.size w w' ∧ Rf w' (Nw w w') B m

theorem rnew_tk (w W : World) (h n : Nat) (h1 : 1 ≤ h) (h2 : h ≤ 64) (hn : n = 16 * h)
    (hW : W = (w.alloc (.cells (madeCells #[.int .i64 0] n) 3)).alloc (.cells #[.slice (some ⟨w.heap.size, 0, none⟩) n n] 68)) :
    Rf W (Nw w W) (w.heap.size + 1) (newM h) := by
  have hsz : W.heap.size = w.heap.size + 2 := by rw [hW]; simp
  have hA : W.heap[w.heap.size]? = some (.cells (madeCells #[.int .i64 0] n) 3) := by
    rw [hW, Below.heap_alloc _ _ _ (by simp)]
    show (w.heap.push _)[w.heap.size]? = _
    rw [Array.getElem?_push, if_pos rfl]
  have hB : W.heap[w.heap.size + 1]? = some (.cells #[.slice (some ⟨w.heap.size, 0, none⟩) n n] 68) := by
    rw [hW]
    show ((w.alloc _).heap.push _)[w.heap.size + 1]? = _
    rw [Array.getElem?_push, if_pos (by simp)]
  subst hn
  refine ⟨w.heap.size, 16 * h, newM_wf h1 h2, ⟨fun i hi => ?_, fun i _ => by simp [World.frozen?, hB]⟩, ⟨fun i hi => ?_, fun i _ => by simp [World.frozen?, hA]⟩,
    ⟨by omega, by omega⟩, ⟨by omega, by omega⟩, fun k hk => hk.2, by omega, Nat.le_refl _⟩
  · obtain rfl : i = 0 := by omega
    simp [World.cell?, hB, newM]
  · have hi' : i < 16 * h := hi
    have e : W.cell? ⟨w.heap.size, i, none⟩ = (madeCells #[.int .i64 0] (16 * h))[i]? := by simp [World.cell?, hA]
    rw [e, madeCells_get _ _ _ hi']
    simp [newM, Nat.mod_one]

set_option maxHeartbeats 400000 in
theorem rNew_any (h : Nat) (w : World) (h1 : 1 ≤ h) (h2 : h ≤ 64) : Calls Try.prog 15 #[.int .i64 ((16 * h : Nat) : Int)] w (rNewPost w (newM h)) := by
  obtain ⟨i, hi, hz0, hz1, hz2⟩ := info_parts Try.info3
  obtain ⟨n, hn⟩ : ∃ n, n = 16 * h := ⟨_, rfl⟩
  have hmk := fun w => run_make (P := Try.prog) w 47 3 i (.int .i64 0) Try.underlying47 hi hz0 .i64 .i64 n n (by omega) (Int.le_refl _) (by rw [hz2]; omega) (by omega)
  rw [hz1] at hmk
  simp only [Int.toNat_natCast, Value.cells, Nat.mul_one] at hmk
  have HS := Lib.hid (fun W => rnew_tk w W h n h1 h2 hn)
  have q1 : 16 ≤ n := by omega
  have q2 : n ≤ 1024 := by omega
  have q3 : ((n : Int) % 16 != 0) = false := by simp only [bne_eq_false_iff_eq]; omega
  rw [← hn]
  clear hi hz0 hz1 hz2 hn
  go_enter Try.func15, Try.ntmps15
  go_wp2
  go_ret2
  refine ⟨w.heap.size + 1, by simp, (bnew _ _).alloc (by simp) _, ?_⟩
  exact HS.out _ rfl

def rClonePost (w : World) (m : Mo) (e : Ending) (w' : World) : Prop := ∃ C, e = .returned (.pointer (some ⟨C, 0, none⟩)) ∧ Below w.heap.size w w' ∧ Rf w' (Nw w w') C m

theorem rclone_tk {w w1 W : World} {m : Mo} {g cap' : Nat} (hwf : WF m) (hg : w.heap.size ≤ g) (hcl : Cl w1 g (16 * m.h) (fun i => .int .i64 ((m.S i : Nat) : Int))) (hc : 16 * m.h ≤ cap') (hb : Below w.heap.size w w1)
    (hW : W = w1.alloc (.cells #[.slice (some ⟨g, 0, none⟩) (16 * m.h) cap'] 68)) : Rf W (Nw w W) w1.heap.size m := by
  have hlt : g < w1.heap.size := hcl.lt (by have := hwf.h1; omega)
  have hb1 : Below w1.heap.size w1 W := by rw [hW]; exact bnew _ _
  have hsz : W.heap.size = w1.heap.size + 1 := by rw [hW]; simp
  have hnew : W.heap[w1.heap.size]? = some (.cells #[.slice (some ⟨g, 0, none⟩) (16 * m.h) cap'] 68) := by
    rw [hW]
    show (w1.heap.push _)[w1.heap.size]? = _
    rw [Array.getElem?_push, if_pos rfl]
  have := hb.size
  refine ⟨g, cap', hwf, ⟨fun i hi => ?_, fun i _ => by simp [World.frozen?, hnew]⟩, hcl.of_block (hb1.block _ hlt), ⟨by omega, by omega⟩, ⟨hg, by omega⟩, fun k hk => hk.2, by omega, hc⟩
  obtain rfl : i = 0 := by omega
  simp [World.cell?, hnew]

set_option maxRecDepth 100000 in
set_option maxHeartbeats 800000 in
theorem rClone_any {O : Nat → Prop} {B : Nat} {m : Mo} {w : World} (h : Rf w O B m) : Calls Try.prog 17 #[.pointer (some ⟨B, 0, none⟩)] w (rClonePost w m) := by
  have HM := Lib.hid (rmade_any h)
  obtain ⟨A, cap, h⟩ := h
  obtain ⟨i0, hi, hz0, hz1, hz2⟩ := info_parts Try.info3
  have hwf := h.wf
  have hn1 := hwf.h1
  have hn2 := hwf.h2
  have HWF := Lib.hid hwf
  have hA := h.a
  have c0 := (World.cell?_of_block (w := w) (w' := w.alloc (.cells #[] 3)) (a := ⟨B, 0, none⟩) (Below.heap_alloc _ _ _ (h.lt B h.ob))).trans h.c0
  obtain ⟨n, hn⟩ : ∃ n, n = 16 * m.h := ⟨_, rfl⟩
  have HN := Lib.hid hn
  rw [← hn] at hA c0
  have hn3 : 1 ≤ n := by omega
  have hn4 : n ≤ 1024 := by omega
  have hAlt := hA.lt hn3
  have HA := Lib.hid hA
  obtain ⟨F, hF⟩ : ∃ F : Nat → Value, F = fun i => .int .i64 ((m.S i : Nat) : Int) := ⟨_, rfl⟩
  rw [← hF] at HA
  have HF := Lib.hid hF
  have hF1 : ∀ i, (F i).oneCell' = true := fun i => by rw [hF]; rfl
  have hnews : ∀ j u, ((List.range n).map F)[j]? = some u → (w.alloc (.cells #[] 3)).cell? ((⟨A, 0, none⟩ : Addr).add j) = some u := fun j u hu => by
    have hj : j < n := by have := (List.getElem?_eq_some_iff.1 hu).1; simpa using this
    rw [List.getElem?_map, List.getElem?_range hj] at hu
    cases hu
    have e1 : (⟨A, 0, none⟩ : Addr).add j = ⟨A, j, none⟩ := by simp [Addr.add]; omega
    rw [e1]
    exact (World.cell?_of_block (w := w) (a := ⟨A, j, none⟩) (Below.heap_alloc _ _ _ hAlt)).trans (HA.out.cell j hj)
  have HNEWS := Lib.hid hnews
  have h1 : ∀ u ∈ (List.range n).map F, u.oneCell' = true := fun u hu => by
    obtain ⟨x, _, rfl⟩ := List.mem_map.1 hu
    exact hF1 _
  have H1 := Lib.hid h1
  clear hnews h1 hF1 hF hA h hwf hn hn1 hn2
  go_enter Try.func17, Try.ntmps17
  go_wp2_with fail
  refine HM.out.mono ?_
  rintro e _ ⟨rfl, rfl⟩
  go_wp2_with (at_builtin; go_loud (refine wpList_append_own _ rfl (.tmp 6) (.tmp 10) 47 rfl w.heap.size 3 i0 (.int .i64 0) 1 8 Try.underlying47 hi hz0 hz1 hz2 rfl (by decide) _ 0 [] rfl (World.ownsRow_made w #[] 0 (Nat.le_refl _) (Nat.zero_le _) (by simp)) ⟨A, 0, none⟩ n cap ((List.range n).map F) rfl (by simp) HNEWS.out H1.out (by simp only [maxLen]; omega) (by omega) (by simp) ?_))
  intro v' w' hown hgr hnil
  obtain ⟨g, cap', rfl, hb, hlt, hc, hcl⟩ := cl_of_owns hown (by omega) rfl
  have HCL := Lib.hid hcl
  have hbel : Below w.heap.size w w' := (bnew w _).grown hgr (by simp) (fun k hk => by simp [Value.ownBlock] at hk; omega)
  have HBEL := Lib.hid hbel
  clear hown hgr hnil hcl hbel
  go_wp2
  go_ret
  have hcl := HCL.out
  have hn := HN.out
  rw [HF.out] at hcl
  subst hn
  exact ⟨w'.heap.size, rfl, btr HBEL.out (bnew _ _) (Nat.le_refl _), rclone_tk HWF.out hb hcl hc HBEL.out rfl⟩

end Go.Proofs.Ytecfjibmpbgllaa
