/- The document's own heap: Clone. -/
import Derived.Test.YtnmejilpifmlnaaDoorGe
namespace Go.Proofs.YtnmejilpifmlnaaDoor
open Go.RowKit

theorem cl_of_owns {w : World} {base e : Nat} {v : Value} {n : Nat} {xs : List Value} {F : Nat → Value} (h : w.ownsRow base e 1 v n xs) (hn : 1 ≤ n) (hx : xs = (List.range n).map F) :
    ∃ g cap, v = .slice (some ⟨g, 0, none⟩) n cap ∧ base ≤ g ∧ g < w.heap.size ∧ n ≤ cap ∧ Cl w g n F := by
  rcases h.2 with ⟨_, h0⟩ | ⟨g, cap, cur, rfl, hb, hg, hc, _, hcs, ht⟩
  · omega
  · refine ⟨g, cap, rfl, hb, (Array.getElem?_eq_some_iff.1 hg).1, hc, fun i hi => ?_, fun i _ => by simp [World.frozen?, hg]⟩
    have e1 : w.cell? ⟨g, i, none⟩ = cur[i]? := by simp [World.cell?, hg]
    rw [e1]
    have e2 : (cur.toList.take (n * 1))[i]? = cur[i]? := by rw [List.getElem?_take, if_pos (by omega)]; simp
    rw [← e2, ht, hx]
    simp [hi]

def rClonePost (w : World) (m : Mo) (e : Ending) (w' : World) : Prop := ∃ C, e = .returned (.pointer (some ⟨C, 0, none⟩)) ∧ Below w.heap.size w w' ∧ Rf w' (Nw w w') C m

theorem rclone_tk {w w1 W : World} {m : Mo} {g cap' : Nat} (hwf : WF m) (hg : w.heap.size ≤ g) (hcl : Cl w1 g m.n (fun i => .bool (m.F i))) (_hc : m.n ≤ cap') (hb : Below w.heap.size w w1)
    (hW : W = w1.alloc (.cells #[.slice (some ⟨g, 0, none⟩) m.n cap'] 67)) : Rf W (Nw w W) w1.heap.size m := by
  have hlt : g < w1.heap.size := hcl.lt (by have := hwf.n1; omega)
  have hb1 : Below w1.heap.size w1 W := by rw [hW]; exact bnew _ _
  have hsz : W.heap.size = w1.heap.size + 1 := by rw [hW]; simp
  have hnew : W.heap[w1.heap.size]? = some (.cells #[.slice (some ⟨g, 0, none⟩) m.n cap'] 67) := by
    rw [hW]
    show (w1.heap.push _)[w1.heap.size]? = _
    rw [Array.getElem?_push, if_pos rfl]
  have := hb.size
  refine ⟨g, cap', hwf, ⟨fun i hi => ?_, fun i _ => by simp [World.frozen?, hnew]⟩, hcl.of_block (hb1.block _ hlt), by omega, ⟨by omega, by omega⟩, ⟨hg, by omega⟩, fun k hk => hk.2⟩
  obtain rfl : i = 0 := by omega
  simp [World.cell?, hnew]

set_option maxRecDepth 100000 in
set_option maxHeartbeats 800000 in
theorem rClone_any {O : Nat → Prop} {B : Nat} {m : Mo} {w : World} (h : Rf w O B m) : Calls Tryd.prog 17 #[.pointer (some ⟨B, 0, none⟩)] w (rClonePost w m) := by
  have HM := Lib.hid (rmade_any h)
  obtain ⟨A, cap, h⟩ := h
  obtain ⟨i0, hi, hz0, hz1, hz2⟩ := info_parts Tryd.info4
  have hwf := h.wf
  have hn1 := hwf.n1
  have hn2 := hwf.n2
  have HWF := Lib.hid hwf
  have hA := h.a
  have c0 := (World.cell?_of_block (w := w) (w' := w.alloc (.cells #[] 4)) (a := ⟨B, 0, none⟩) (Below.heap_alloc _ _ _ (h.lt B h.ob))).trans (h.b.cell 0 (by omega))
  obtain ⟨n, hn⟩ : ∃ n, n = m.n := ⟨_, rfl⟩
  have HN := Lib.hid hn
  rw [← hn] at hA c0
  have hn3 : 1 ≤ n := by omega
  have hn4 : n ≤ 1024 := by omega
  have hAlt := hA.lt hn3
  have HA := Lib.hid hA
  obtain ⟨F, hF⟩ : ∃ F : Nat → Value, F = fun i => .bool (m.F i) := ⟨_, rfl⟩
  rw [← hF] at HA
  have HF := Lib.hid hF
  have hF1 : ∀ i, (F i).oneCell' = true := fun i => by rw [hF]; rfl
  have hnews : ∀ j u, ((List.range n).map F)[j]? = some u → (w.alloc (.cells #[] 4)).cell? ((⟨A, 0, none⟩ : Addr).add j) = some u := fun j u hu => by
    have hj : j < n := by have := (List.getElem?_eq_some_iff.1 hu).1; simpa using this
    rw [List.getElem?_map, List.getElem?_range hj] at hu
    cases hu
    have e1 : (⟨A, 0, none⟩ : Addr).add j = ⟨A, j, none⟩ := by simp [Addr.add]; omega
    rw [e1]
    exact (World.cell?_of_block (w := w) (a := ⟨A, j, none⟩) (Below.heap_alloc _ _ _ hAlt)).trans (HA.out.cell j hj)
  have HNEWS := Lib.hid hnews
  have h1 : ∀ u ∈ (List.range n).map F, u.oneCell' = true := fun u hu => by
    obtain ⟨x, _, rfl⟩ := List.mem_map.1 hu
    exact hF1 _
  have H1 := Lib.hid h1
  clear hnews h1 hF1 hF hA h hwf hn hn1 hn2
  go_enter Tryd.func17, Tryd.ntmps17
  go_wp2_with fail
  refine HM.out.mono ?_
  rintro e _ ⟨rfl, rfl⟩
  go_wp2_with (at_builtin; go_loud (refine wpList_append_own _ rfl (.tmp 6) (.tmp 10) 65 rfl w.heap.size 4 i0 (.bool false) 1 1 Tryd.underlying65 hi hz0 hz1 hz2 rfl (by decide) _ 0 [] rfl (World.ownsRow_made w #[] 0 (Nat.le_refl _) (Nat.zero_le _) (by simp)) ⟨A, 0, none⟩ n cap ((List.range n).map F) rfl (by simp) HNEWS.out H1.out (by simp only [maxLen]; omega) (by omega) (by simp) ?_))
  intro v' w' hown hgr hnil
  obtain ⟨g, cap', rfl, hb, hlt, hc, hcl⟩ := cl_of_owns hown (by omega) rfl
  have HCL := Lib.hid hcl
  have hbel : Below w.heap.size w w' := (bnew w _).grown hgr (by simp) (fun k hk => by simp [Value.ownBlock] at hk; omega)
  have HBEL := Lib.hid hbel
  clear hown hgr hnil hcl hbel
  go_wp2
  go_ret
  have hcl := HCL.out
  have hn := HN.out
  rw [HF.out] at hcl
  subst hn
  exact ⟨w'.heap.size, rfl, btr HBEL.out (bnew _ _) (Nat.le_refl _), rclone_tk HWF.out hb hcl hc HBEL.out rfl⟩

end Go.Proofs.YtnmejilpifmlnaaDoor
