/- The other map: Get, Clone, Next, Nodes. -/
import Derived.Test.YtdjfeibcbmelcaaRc
import Derived.Test.YtdjfeibcbmelcaaLm
namespace Go.Proofs.Ytdjfeibcbmelcaa
open Go.RowKit

set_option maxRecDepth 100000 in
set_option maxHeartbeats 400000 in
theorem rget_any {O : Nat → Prop} {P : Nat} {M : Nat → Int} {w : World} (p : Int) (h : Rf w O P M) :
    Calls Try.prog 23 #[.pointer (some ⟨P, 0, none⟩), .int .i64 p] w fun e w' => e = .returned (.int .i64 (getV M p)) ∧ w = w' := by
  have HM := Lib.hid (rmade_any h)
  by_cases h1 : 0 ≤ p ∧ p < 1024
  · obtain ⟨q, rfl⟩ : ∃ q : Nat, p = (q : Int) := ⟨p.toNat, by omega⟩
    have hq : q < 1024 := by omega
    have hqi := h1.2
    obtain ⟨A, c, h⟩ := h
    have c0 := h.p.cell 0 (by omega)
    have c1 := h.a.cell q hq
    rw [getV_in rfl hq]
    generalize M q = V at c1 ⊢
    clear h h1
    go_enter Try.func23, Try.ntmps23
    go_wp2_with (go_at_call 36; refine HM.out.mono ?_; rintro e w1 ⟨rfl, rfl⟩)
    go_ret
    exact ⟨rfl, rfl⟩
  · have HV := Lib.hid (show getV M p = 0 from if_neg h1)
    have h2 : p < 0 ∨ ¬ p < 0 ∧ 1024 ≤ p := by omega
    clear h h1
    rcases h2 with a | ⟨a, b⟩
    · go_enter Try.func23, Try.ntmps23
      go_wp2_with (go_at_call 36; refine HM.out.mono ?_; rintro e w1 ⟨rfl, rfl⟩)
      go_ret
      exact ⟨ret_int HV.out.symm, rfl⟩
    · go_enter Try.func23, Try.ntmps23
      go_wp2_with (go_at_call 36; refine HM.out.mono ?_; rintro e w1 ⟨rfl, rfl⟩)
      go_ret
      exact ⟨ret_int HV.out.symm, rfl⟩

theorem cl_of_owns {w : World} {base e : Nat} {v : Value} {n : Nat} {xs : List Value} {F : Nat → Value} (h : w.ownsRow base e 1 v n xs) (he : e ≠ 50) (hn : 1 ≤ n) (hx : xs = (List.range n).map F) :
    ∃ g cap, v = .slice (some ⟨g, 0, none⟩) n cap ∧ base ≤ g ∧ Cl w g n F := by
  rcases h.2 with ⟨_, h0⟩ | ⟨g, cap, cur, rfl, hb, hg, hc, _, hcs, ht⟩
  · omega
  · refine ⟨g, cap, rfl, hb, fun i hi => ?_, fun i _ => by simp [World.frozen?, hg], _, _, _, hg, he⟩
    have e1 : w.cell? ⟨g, i, none⟩ = cur[i]? := by simp [World.cell?, hg]
    rw [e1]
    have e2 : (cur.toList.take (n * 1))[i]? = cur[i]? := by rw [List.getElem?_take, if_pos (by omega)]; simp
    rw [← e2, ht, hx]
    simp [hi]

set_option maxRecDepth 100000 in
set_option maxHeartbeats 1000000 in
theorem rclone_any {O : Nat → Prop} {P : Nat} {M : Nat → Int} {w : World} (h : Rf w O P M) :
    Calls Try.prog 17 #[.pointer (some ⟨P, 0, none⟩)] w fun e w' => ∃ C, e = .returned (.pointer (some ⟨C, 0, none⟩)) ∧ Below w.heap.size w w' ∧ Rf w' (Nw w w') C M := by
  have HM := Lib.hid (rmade_any h)
  obtain ⟨A, c, h⟩ := h
  obtain ⟨i0, hi, hz0, hz1, hz2⟩ := info_parts info3r
  have HWF := Lib.hid h.wf
  have hA := h.a
  have c0 := (World.cell?_of_block (w := w) (w' := w.alloc (.cells #[] 3)) (a := ⟨P, 0, none⟩) (Below.heap_alloc _ _ _ (h.lt P h.op))).trans (h.p.cell 0 (by omega))
  obtain ⟨n, hn⟩ : ∃ n, n = 1024 := ⟨_, rfl⟩
  have HN := Lib.hid hn
  rw [← hn] at hA c0
  have hn3 : 1 ≤ n := by omega
  have hn4 : n ≤ 1024 := by omega
  have hAlt := hA.lt
  have HA := Lib.hid hA
  obtain ⟨F, hF⟩ : ∃ F : Nat → Value, F = fun i => .int .i64 (M i) := ⟨_, rfl⟩
  rw [← hF] at HA
  have HF := Lib.hid hF
  have hF1 : ∀ i, (F i).oneCell' = true := fun i => by rw [hF]; rfl
  have hnews : ∀ j u, ((List.range n).map F)[j]? = some u → (w.alloc (.cells #[] 3)).cell? ((⟨A, 0, none⟩ : Addr).add j) = some u := fun j u hu => by
    have hj : j < n := by have := (List.getElem?_eq_some_iff.1 hu).1; simpa using this
    rw [List.getElem?_map, List.getElem?_range hj] at hu
    cases hu
    have e1 : (⟨A, 0, none⟩ : Addr).add j = ⟨A, j, none⟩ := by simp [Addr.add]; omega
    rw [e1]
    exact (World.cell?_of_block (w := w) (a := ⟨A, j, none⟩) (Below.heap_alloc _ _ _ hAlt)).trans (HA.out.cell j hj)
  have HNEWS := Lib.hid hnews
  have h1 : ∀ u ∈ (List.range n).map F, u.oneCell' = true := fun u hu => by
    obtain ⟨x, _, rfl⟩ := List.mem_map.1 hu
    exact hF1 _
  have H1 := Lib.hid h1
  clear hnews h1 hF1 hF hA h hn
  go_enter Try.func17, Try.ntmps17
  go_wp2_with fail
  refine HM.out.mono ?_
  rintro e _ ⟨rfl, rfl⟩
  go_wp2_with (at_builtin; go_loud (refine wpList_append_own _ rfl (.tmp 6) (.tmp 10) 61 rfl w.heap.size 3 i0 (.int .i64 0) 1 8 Try.underlying61 hi hz0 hz1 hz2 rfl (by decide) _ 0 [] rfl (World.ownsRow_made w #[] 0 (Nat.le_refl _) (Nat.zero_le _) (by simp)) ⟨A, 0, none⟩ n c ((List.range n).map F) rfl (by simp) HNEWS.out H1.out (by simp only [maxLen]; omega) (by omega) (by simp) ?_))
  intro v' w' hown hgr hnil
  obtain ⟨g, cap', rfl, hb, hcl⟩ := cl_of_owns hown (by decide) (by omega) rfl
  have HCL := Lib.hid hcl
  have hbel : Below w.heap.size w w' := (bnew w _).grown hgr (by simp) (fun k hk => by simp [Value.ownBlock] at hk; omega)
  have HBEL := Lib.hid hbel
  clear hown hgr hnil hcl hbel
  go_wp2
  go_ret
  have hcl := HCL.out
  have hn := HN.out
  rw [HF.out] at hcl
  subst hn
  have hgl := hcl.lt
  refine ⟨w'.heap.size, rfl, btr HBEL.out (bnew _ _) (Nat.le_refl _), g, cap', HWF.out, ?_, hcl.alloc _, ⟨HBEL.out.size, by simp⟩, ⟨hb, by simp; omega⟩, by omega, fun k hk => hk.2⟩
  exact Cl.new (cs := #[.slice (some ⟨g, 0, none⟩) 1024 cap']) (t := 63) (n := 1) (f := fun _ => .slice (some ⟨g, 0, none⟩) 1024 cap') w' (by decide) (fun i hi => by cases (show i = 0 by omega); rfl)

end Go.Proofs.Ytdjfeibcbmelcaa
