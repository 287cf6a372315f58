/- Package huge: New and Clone. -/
import Derived.Test.YtecfjibmpbgllaaLd
namespace Go.Proofs.Ytecfjibmpbgllaa
open Go.RowKit

theorem Try.info70 : (Try.prog.info? 70).map (fun i => (i.zero, i.size, i.bytes)) = some (some (.int .u8 0), 1, 1) := by kernel_rfl

theorem madeCells_get (z : Array Value) (n j : Nat) (hj : j < n) : (madeCells z n)[j]? = some z[j % z.size]! := by simp [madeCells, hj]

set_option maxHeartbeats 400000 in
theorem New_bad (p : Int) (w : World) (h : ¬ (16 ≤ p ∧ p ≤ 1024 ∧ p % 16 = 0)) : Calls Try.prog 14 #[.int .i64 p] w fun e w' => e = .returned (.tuple #[.pointer none, .int .i64 1]) ∧ w = w' := by
  by_cases h1 : p < 16
  · clear h
    go_enter Try.func14, Try.ntmps14
    go_wp2
    go_ret2
    exact ⟨rfl, rfl⟩
  · by_cases h2 : 1024 < p
    · clear h
      go_enter Try.func14, Try.ntmps14
      go_wp2
      go_ret2
      exact ⟨rfl, rfl⟩
    · have h3 : (Int.tmod p 16 == 0) = false := by
        simp only [beq_eq_false_iff_ne]
        rw [Int.tmod_eq_emod_of_nonneg (by omega)]
        omega
      have h4 : 0 ≤ p := by omega
      have h5 : (p % 16 == 0) = false := by simp only [beq_eq_false_iff_ne]; omega
      clear h
      go_enter Try.func14, Try.ntmps14
      go_wp2
      go_ret2
      exact ⟨rfl, rfl⟩

/-- A new tracker. -/
def NewPost (w : World) (m : Mo) (e : Ending) (w' : World) : Prop := ∃ B, e = .returned (.tuple #[.pointer (some ⟨B, 0, none⟩), .int .i64 0]) ∧ Below w.heap.size w w' ∧ Tk w' (Nw w w') B m

theorem new_tk (w W : World) (h n : Nat) (h1 : 1 ≤ h) (h2 : h ≤ 64) (hn : n = 16 * h)
    (hW : W = (w.alloc (.cells (madeCells #[.int .u8 0] n) 70)).alloc (.cells #[.slice (some ⟨w.heap.size, 0, none⟩) n n] 41)) :
    Tk W (Nw w W) (w.heap.size + 1) (newM h) := by
  have hsz : W.heap.size = w.heap.size + 2 := by rw [hW]; simp
  have hA : W.heap[w.heap.size]? = some (.cells (madeCells #[.int .u8 0] n) 70) := by
    rw [hW, Below.heap_alloc _ _ _ (by simp)]
    show (w.heap.push _)[w.heap.size]? = _
    rw [Array.getElem?_push, if_pos rfl]
  have hB : W.heap[w.heap.size + 1]? = some (.cells #[.slice (some ⟨w.heap.size, 0, none⟩) n n] 41) := by
    rw [hW]
    show ((w.alloc _).heap.push _)[w.heap.size + 1]? = _
    rw [Array.getElem?_push, if_pos (by simp)]
  subst hn
  refine ⟨w.heap.size, 16 * h, newM_wf h1 h2, ⟨fun i hi => ?_, fun i _ => by simp [World.frozen?, hB]⟩, ⟨fun i hi => ?_, fun i _ => by simp [World.frozen?, hA]⟩,
    ⟨by omega, by omega⟩, ⟨by omega, by omega⟩, fun k hk => hk.2, by omega, Nat.le_refl _⟩
  · obtain rfl : i = 0 := by omega
    simp [World.cell?, hB, newM]
  · have hi' : i < 16 * h := hi
    have e : W.cell? ⟨w.heap.size, i, none⟩ = (madeCells #[.int .u8 0] (16 * h))[i]? := by simp [World.cell?, hA]
    rw [e, madeCells_get _ _ _ hi']
    simp [newM, Nat.mod_one]

set_option maxHeartbeats 400000 in
theorem New_any (h : Nat) (w : World) (h1 : 1 ≤ h) (h2 : h ≤ 64) : Calls Try.prog 14 #[.int .i64 ((16 * h : Nat) : Int)] w (NewPost w (newM h)) := by
  obtain ⟨i, hi, hz0, hz1, hz2⟩ := info_parts Try.info70
  obtain ⟨n, hn⟩ : ∃ n, n = 16 * h := ⟨_, rfl⟩
  have hmk := fun w => run_make (P := Try.prog) w 39 70 i (.int .u8 0) Try.underlying39 hi hz0 .i64 .i64 n n (by omega) (Int.le_refl _) (by rw [hz2]; omega) (by omega)
  rw [hz1] at hmk
  simp only [Int.toNat_natCast, Value.cells, Nat.mul_one] at hmk
  have HS := Lib.hid (fun W => new_tk w W h n h1 h2 hn)
  have q1 : 16 ≤ n := by omega
  have q2 : n ≤ 1024 := by omega
  have q3 : ((n : Int) % 16 != 0) = false := by simp only [bne_eq_false_iff_eq]; omega
  rw [← hn]
  clear hi hz0 hz1 hz2 hn
  go_enter Try.func14, Try.ntmps14
  go_wp2
  go_ret2
  refine ⟨w.heap.size + 1, by simp, (bnew _ _).alloc (by simp) _, ?_⟩
  exact HS.out _ rfl

/-- What append leaves of a row, as cells. -/
theorem cl_of_owns {w : World} {base e : Nat} {v : Value} {n : Nat} {xs : List Value} {F : Nat → Value} (h : w.ownsRow base e 1 v n xs) (hn : 1 ≤ n) (hx : xs = (List.range n).map F) :
    ∃ g cap, v = .slice (some ⟨g, 0, none⟩) n cap ∧ base ≤ g ∧ g < w.heap.size ∧ n ≤ cap ∧ Cl w g n F := by
  rcases h.2 with ⟨_, h0⟩ | ⟨g, cap, cur, rfl, hb, hg, hc, _, hcs, ht⟩
  · omega
  · refine ⟨g, cap, rfl, hb, (Array.getElem?_eq_some_iff.1 hg).1, hc, fun i hi => ?_, fun i _ => by simp [World.frozen?, hg]⟩
    have e1 : w.cell? ⟨g, i, none⟩ = cur[i]? := by simp [World.cell?, hg]
    rw [e1]
    have e2 : (cur.toList.take (n * 1))[i]? = cur[i]? := by rw [List.getElem?_take, if_pos (by omega)]; simp
    rw [← e2, ht, hx]
    simp [hi]

set_option maxRecDepth 100000 in
set_option maxHeartbeats 800000 in
theorem sclone_any (A n cap : Nat) (S : Nat → Nat) (w : World) (hn1 : 1 ≤ n) (hn2 : n ≤ 1024) (hA : Cl w A n (fun i => .int .u8 (S i))) :
    Calls Try.prog 40 #[.slice (some ⟨A, 0, none⟩) n cap] w fun e w' => ∃ g cap', e = .returned (.slice (some ⟨g, 0, none⟩) n cap') ∧ w.heap.size ≤ g ∧ n ≤ cap' ∧ Cl w' g n (fun i => .int .u8 (S i)) ∧ Below w.heap.size w w' := by
  obtain ⟨i0, hi, hz0, hz1, hz2⟩ := info_parts Try.info70
  have hAlt := hA.lt hn1
  have HA := Lib.hid hA
  have hne : ∀ w, (binOp .eql 39 (.slice (some ⟨A, 0, none⟩) n cap) (.slice none 0 0)).run Try.prog w = .ok (.bool false) w := fun w => by rfl
  clear hA
  obtain ⟨F, hF⟩ : ∃ F : Nat → Value, F = fun i => .int .u8 (S i) := ⟨_, rfl⟩
  rw [← hF] at HA ⊢
  have hF1 : ∀ i, (F i).oneCell' = true := fun i => by rw [hF]; rfl
  clear hF
  have hnews : ∀ j u, ((List.range n).map F)[j]? = some u → (w.alloc (.cells #[] 70)).cell? ((⟨A, 0, none⟩ : Addr).add j) = some u := fun j u hu => by
    have hj : j < n := by have := (List.getElem?_eq_some_iff.1 hu).1; simpa using this
    rw [List.getElem?_map, List.getElem?_range hj] at hu
    cases hu
    have e1 : (⟨A, 0, none⟩ : Addr).add j = ⟨A, j, none⟩ := by simp [Addr.add]; omega
    rw [e1]
    exact (World.cell?_of_block (w := w) (a := ⟨A, j, none⟩) (Below.heap_alloc _ _ _ hAlt)).trans (HA.out.cell j hj)
  have HNEWS := Lib.hid hnews
  have h1 : ∀ u ∈ (List.range n).map F, u.oneCell' = true := fun u hu => by
    obtain ⟨x, _, rfl⟩ := List.mem_map.1 hu
    exact hF1 _
  have H1 := Lib.hid h1
  clear hnews h1 hF1
  go_enter Try.func40, Try.ntmps40
  go_wp2_with (at_builtin; go_loud (refine wpList_append_own _ rfl (.tmp 5) (.tmp 6) 39 rfl w.heap.size 70 i0 (.int .u8 0) 1 1 Try.underlying39 hi hz0 hz1 hz2 rfl (by decide) _ 0 [] rfl (World.ownsRow_made w #[] 0 (Nat.le_refl _) (Nat.zero_le _) (by simp)) ⟨A, 0, none⟩ n cap ((List.range n).map F) rfl (by simp) HNEWS.out H1.out (by simp only [maxLen]; omega) (by omega) (by simp) ?_))
  intro v' w' hown hgr hnil
  obtain ⟨g, cap', rfl, hb, hlt, hc, hcl⟩ := cl_of_owns hown (by omega) rfl
  have HCL := Lib.hid hcl
  have hbel : Below w.heap.size w w' := (bnew w _).grown hgr (by simp) (fun k hk => by simp [Value.ownBlock] at hk; omega)
  have HBEL := Lib.hid hbel
  clear hown hgr hnil hcl hbel
  go_wp2
  go_ret
  exact ⟨g, cap', rfl, hb, hc, HCL.out, HBEL.out⟩

def ClonePost (w : World) (m : Mo) (e : Ending) (w' : World) : Prop := ∃ C, e = .returned (.pointer (some ⟨C, 0, none⟩)) ∧ Below w.heap.size w w' ∧ Tk w' (Nw w w') C m

theorem clone_tk {w w1 W : World} {m : Mo} {g cap' : Nat} (hwf : WF m) (hg : w.heap.size ≤ g) (hcl : Cl w1 g (16 * m.h) (fun i => .int .u8 (m.S i))) (hc : 16 * m.h ≤ cap') (hb : Below w.heap.size w w1)
    (hW : W = w1.alloc (.cells #[.slice (some ⟨g, 0, none⟩) (16 * m.h) cap'] 41)) : Tk W (Nw w W) w1.heap.size m := by
  have hlt : g < w1.heap.size := hcl.lt (by have := hwf.h1; omega)
  have hb1 : Below w1.heap.size w1 W := by rw [hW]; exact bnew _ _
  have hsz : W.heap.size = w1.heap.size + 1 := by rw [hW]; simp
  have hnew : W.heap[w1.heap.size]? = some (.cells #[.slice (some ⟨g, 0, none⟩) (16 * m.h) cap'] 41) := by
    rw [hW]
    show (w1.heap.push _)[w1.heap.size]? = _
    rw [Array.getElem?_push, if_pos rfl]
  have := hb.size
  refine ⟨g, cap', hwf, ⟨fun i hi => ?_, fun i _ => by simp [World.frozen?, hnew]⟩, hcl.of_block (hb1.block _ hlt), ⟨by omega, by omega⟩, ⟨hg, by omega⟩, fun k hk => hk.2, by omega, hc⟩
  obtain rfl : i = 0 := by omega
  simp [World.cell?, hnew]

set_option maxHeartbeats 800000 in
theorem Clone_any {O : Nat → Prop} {B : Nat} {m : Mo} {w : World} (h : Tk w O B m) : Calls Try.prog 16 #[.pointer (some ⟨B, 0, none⟩)] w (ClonePost w m) := by
  have HM := Lib.hid (made_any h)
  obtain ⟨A, cap, h⟩ := h
  have c0 := h.c0
  have h1 := h.wf.h1
  have h2 := h.wf.h2
  have HC := Lib.hid (sclone_any A (16 * m.h) cap m.S w (by omega) (by omega) h.a)
  have HWF := Lib.hid h.wf
  clear h
  go_enter Try.func16, Try.ntmps16
  go_wp2_with fail
  refine HM.out.mono ?_
  rintro e _ ⟨rfl, rfl⟩
  go_wp2_with fail
  refine HC.out.mono ?_
  rintro e w1 ⟨g, cap', rfl, hg, hc, hcl, hb⟩
  have HCL := Lib.hid hcl
  clear hcl
  go_wp2_with fail
  go_ret
  exact ⟨w1.heap.size, rfl, btr hb (bnew _ _) (Nat.le_refl _), clone_tk HWF.out hg HCL.out hc hb rfl⟩

end Go.Proofs.Ytecfjibmpbgllaa
