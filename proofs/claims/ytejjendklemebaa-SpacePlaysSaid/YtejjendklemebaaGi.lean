/- The document's own space: Clone. -/
import Derived.Test.YtejjendklemebaaGh
import Derived.Deep.AppendLies
namespace Go.Proofs.Ytejjendklemebaa
open Go.RowKit

theorem rClone_nil (w : World) : Calls Try.prog 16 #[.pointer none] w fun e w' => e = .returned (.pointer none) ∧ w = w' := by
  have HM := Lib.hid (rmade_nil w)
  go_enter Try.func16, Try.ntmps16
  go_wp2_with (go_at_call 40; refine HM.out.mono ?_; rintro e w1 ⟨rfl, rfl⟩)
  go_ret
  exact ⟨rfl, rfl⟩

theorem own_empty {W : World} {base b : Nat} (hb : base ≤ b) (h : W.heap[b]? = some (.cells #[] 3 (0, 0))) : W.ownsRow base 3 1 (.slice (some ⟨b, 0, none⟩) 0 0) 0 [] :=
  ⟨rfl, .inr ⟨b, 0, #[], rfl, hb, h, Nat.le_refl _, Nat.zero_le _, rfl, rfl⟩⟩
theorem below_drew {N : Nat} {w W : World} (h : Below N w W) : Below N w W.drew := ⟨h.os, h.tape, h.output, h.size, h.block⟩

/-- A row of numbers appended to an empty one, at a step of a region that draws its order. -/
theorem app_lies {w W : World} {ops : Array Oper} {o : Oper} {a : Act} {K : Act → World → Prop} {Q : Exit → Act → World → Prop} {E : Prop} (hgd : o.guard = none) (s x : Operand)
    (ho : o.op = .call { callee := .builtin .append, args := #[s, x], argTypes := #[49, 49] }) (b : Nat) (hs : a.eval s = .slice (some ⟨b, 0, none⟩) 0 0) (S n c : Nat) (f : Nat → Int)
    (hx : a.eval x = .slice (some ⟨S, 0, none⟩) n c) (hcl : Cl w S n (fun k => .int .i64 (f k))) (hn : 1 ≤ n) (hn2 : n ≤ 32768) (hbW : Below w.heap.size w W) (hb : w.heap.size ≤ b) (hE : W.heap[b]? = some (.cells #[] 3 (0, 0)))
    (h : ∀ g cap w', w.heap.size ≤ g → g < w'.heap.size → Cl w' g n (fun k => .int .i64 (f k)) → Below w.heap.size w w' → (g = b ∨ W.heap.size ≤ g) → (∀ k, k < W.heap.size → k ≠ b → w'.heap[k]? = W.heap[k]?) → W.heap.size ≤ w'.heap.size → K (a.put o.dst (.slice (some ⟨g, 0, none⟩) n cap)) w') :
    if Region.wanted o (yielded ops a.tmps) = true then Oper.wp Try.prog o a W K Q else E := by
  obtain ⟨i0, hi, hz0, hz1, hz2⟩ := info_parts Try.info3
  have hlt := hcl.lt (by omega)
  refine step_append_lies W hgd s x 49 ho w.heap.size 3 i0 (.int .i64 0) 1 8 Try.underlying49 hi hz0 hz1 hz2 rfl (by omega) _ 0 [] hs (own_empty hb hE) ⟨S, 0, none⟩ n c (intL f n) hx (by rw [intL_len]; omega) (fun j u hj => ?_) (fun u hu => ?_) (by omega) (by unfold maxLen; omega) (by omega) hbW.size _ rfl (fun g cap w' hown hgrow hat hgl => ?_)
  · have hj2 : j < n := by have := (List.getElem?_eq_some_iff.1 hj).1; rwa [intL_len] at this
    have e1 : (⟨S, 0, none⟩ : Addr).add j = ⟨S, j, none⟩ := by simp [Addr.add]; omega
    rw [e1, hbW.cell (p := ⟨S, j, none⟩) hlt, hcl.cell j hj2]
    unfold intL at hj
    simpa [hj2] using hj
  · unfold intL at hu
    obtain ⟨j, _, rfl⟩ := List.mem_map.1 hu
    rfl
  · rw [Nat.zero_add, List.nil_append] at hown
    rw [Nat.zero_add]
    obtain ⟨g', cap', e, hg1, hg2, hc, hCl⟩ := cl_of_owns (F := fun k => .int .i64 (f k)) hown hn (by unfold intL; rw [Nat.mul_one])
    cases e
    rw [Nat.mul_one] at hCl
    refine h g cap w' hg1 hgl hCl (hbW.grown hgrow hbW.size (fun k hk => ?_)) ?_ (fun k hk hkb => hgrow.block k hk ?_) hgrow.size
    · simp [Value.ownBlock] at hk; omega
    · rcases hat with hat | hat
      · simp [Value.ownBlock] at hat; exact .inl hat.symm
      · exact .inr (by omega)
    · simp [Value.ownBlock]; exact hkb

theorem box_rf2 {w W0 : World} {n S H : Nat} {m : Mo} (cs ch : Nat) (p : Int) (hwf : WF m) (hn : n = m.n) (hp : p = m.pk) (hb : Below w.heap.size w W0) (hS : Cl W0 S n (fun k => .int .i64 (m.st k))) (hH : Cl W0 H (n * 32) (fun k => .int .i64 (m.hd k))) (hSl : w.heap.size ≤ S) (hHl : w.heap.size ≤ H) (ne : S ≠ H) :
    Below w.heap.size w (W0.alloc (.cells #[.slice (some ⟨S, 0, none⟩) n cs, .slice (some ⟨H, 0, none⟩) (n * 32) ch, .int .i64 p] 76)) ∧ Rf (W0.alloc (.cells #[.slice (some ⟨S, 0, none⟩) n cs, .slice (some ⟨H, 0, none⟩) (n * 32) ch, .int .i64 p] 76)) (Nw w (W0.alloc (.cells #[.slice (some ⟨S, 0, none⟩) n cs, .slice (some ⟨H, 0, none⟩) (n * 32) ch, .int .i64 p] 76))) W0.heap.size m := by
  have hn1 := hwf.n1
  have s1 : S < W0.heap.size := hS.lt (by omega)
  have h1 : H < W0.heap.size := hH.lt (by omega)
  have hbs := hb.size
  refine ⟨hb.alloc hb.size _, S, H, cs, ch, hwf, ?_, ?_, ?_, ⟨hbs, by simp⟩, ⟨hSl, by simp; omega⟩, ⟨hHl, by simp; omega⟩, fun k hk => hk.2, ne, by omega, by omega⟩
  · refine ⟨fun i hi => ?_, fun i hi => ?_⟩
    · have : i = 0 ∨ i = 1 ∨ i = 2 := by omega
      subst hn hp
      rcases this with rfl | rfl | rfl <;> (unfold rfF; go_simp)
    · have : i = 0 ∨ i = 1 ∨ i = 2 := by omega
      rcases this with rfl | rfl | rfl <;> go_simp
  · rw [← hn]; exact hS.alloc s1 _
  · rw [← hn]; exact hH.alloc h1 _

def RClonePost (w : World) (m : Mo) (e : Ending) (w' : World) : Prop := ∃ R, e = .returned (.pointer (some ⟨R, 0, none⟩)) ∧ Below w.heap.size w w' ∧ Rf w' (Nw w w') R m

set_option maxRecDepth 100000 in
set_option maxHeartbeats 4000000 in
theorem rClone_any {O : Nat → Prop} {R : Nat} {m : Mo} {w : World} (h : Rf w O R m) : Calls Try.prog 16 #[.pointer (some ⟨R, 0, none⟩)] w (RClonePost w m) := by
  have HM := Lib.hid (rmade_any h)
  obtain ⟨S, H, cs, ch, h⟩ := h
  have hn1 := h.wf.n1
  have hn2 := h.wf.n2
  have c0 := h.c0
  have c1 := h.c1
  have c2 := h.c2
  have HS := h.s
  have HH := h.h
  have HWF := Lib.hid h.wf
  have hrl := h.lt _ h.oR
  obtain ⟨n, hn⟩ : ∃ n, n = m.n := ⟨_, rfl⟩
  rw [← hn] at hn1 hn2 c0 c1 HS HH
  have HN := Lib.hid hn
  obtain ⟨p, hp⟩ : ∃ p : Int, p = m.pk := ⟨_, rfl⟩
  rw [← hp] at c2
  have HP := Lib.hid hp
  have HSS := Lib.hid HS
  have HHH := Lib.hid HH
  have HKP := Lib.hid (fun W (hb : Below w.heap.size w W) => And.intro ((hb.cell (p := ⟨R, 0, none⟩) hrl).trans c0) (And.intro ((hb.cell (p := ⟨R, 1, none⟩) hrl).trans c1) ((hb.cell (p := ⟨R, 2, none⟩) hrl).trans c2)))
  obtain ⟨WA, hWA⟩ : ∃ W, (w.alloc (.cells #[] 3)).drew = W := ⟨_, rfl⟩
  obtain ⟨WB, hWB⟩ : ∃ W, ((w.alloc (.cells #[] 3)).alloc (.cells #[] 3)).drew = W := ⟨_, rfl⟩
  have HBA := Lib.hid (show Below w.heap.size w WA by rw [← hWA]; exact below_drew (bnew _ _))
  have HBB := Lib.hid (show Below w.heap.size w WB by rw [← hWB]; exact below_drew ((bnew _ _).alloc (by simp) _))
  have HEA := Lib.hid (show WA.heap[w.heap.size]? = some (.cells #[] 3 (0, 0)) by rw [← hWA]; exact heap_alloc_new w _)
  have HEB := Lib.hid (show WB.heap[w.heap.size + 1]? = some (.cells #[] 3 (0, 0)) by
    rw [← hWB]
    have := heap_alloc_new (w.alloc (.cells #[] 3)) (.cells #[] 3)
    rwa [show (w.alloc (.cells #[] 3)).heap.size = w.heap.size + 1 from by simp] at this)
  have HEC := Lib.hid (show WB.heap[w.heap.size]? = some (.cells #[] 3 (0, 0)) by
    rw [← hWB]
    exact (Below.heap_alloc (w.alloc (.cells #[] 3)) _ _ (by simp)).trans (heap_alloc_new w _))
  have HZA := Lib.hid (show WA.heap.size = w.heap.size + 1 by rw [← hWA]; simp)
  have HZB := Lib.hid (show WB.heap.size = w.heap.size + 2 by rw [← hWB]; simp)
  have HWA := Lib.hid hWA
  have HWB := Lib.hid hWB
  have hr0 : w.heap.size ≠ R := by omega
  clear h hn hp HS HH hWA hWB
  go_enter Try.func16, Try.ntmps16
  go_wp2_with fail
  refine HM.out.mono ?_; rintro e _ ⟨rfl, rfl⟩
  go_wp2_with fail
  go_region_held3 (fun w' => w'.cell? ⟨R, 0, none⟩ = some (.slice (some ⟨S, 0, none⟩) n cs) ∧ w'.cell? ⟨R, 1, none⟩ = some (.slice (some ⟨H, 0, none⟩) (n * 32) ch) ∧ w'.cell? ⟨R, 2, none⟩ = some (.int .i64 p))
    (first | go_keep | exact HKP.out _ hb1 | exact HKP.out _ hb2 | exact HKP.out _ (hb1.alloc hb1.size _) | exact HKP.out _ (below_drew (hb1.alloc hb1.size _)))
    (first
    | (refine app_lies (w := w) (by rfl) _ _ (by rfl) _ (by rfl) S n cs m.st (by rfl) HSS.out hn1 (by omega) (by rw [HWA.out]; exact HBA.out) (Nat.le_refl _) (by rw [HWA.out]; exact HEA.out) ?_; intro g1 cap1 w1 hg1 hl1 hc1 hb1 hd1 hk1 hz1; rw [HWA.out] at hd1 hk1 hz1)
    | (refine app_lies (w := w) (by rfl) _ _ (by rfl) _ (by rfl) S n cs m.st (by rfl) HSS.out hn1 (by omega) (by rw [HWB.out]; exact HBB.out) (Nat.le_refl _) (by rw [HWB.out]; exact HEC.out) ?_; intro g1 cap1 w1 hg1 hl1 hc1 hb1 hd1 hk1 hz1; rw [HWB.out] at hd1 hk1 hz1)
    | (refine app_lies (w := w) (by rfl) _ _ (by rfl) _ (by rfl) S n cs m.st (by rfl) HSS.out hn1 (by omega) (by rw [HWB.out]; exact HBB.out) (Nat.le_succ _) (by rw [HWB.out]; exact HEB.out) ?_; intro g1 cap1 w1 hg1 hl1 hc1 hb1 hd1 hk1 hz1; rw [HWB.out] at hd1 hk1 hz1)
    | (refine app_lies (w := w) (W := w1.alloc (.cells #[] 3)) (by rfl) _ _ (by rfl) _ (by rfl) H (n * 32) ch m.hd (by rfl) HHH.out (by omega) (by omega) (hb1.alloc hb1.size _) hb1.size (heap_alloc_new w1 _) ?_; intro g2 cap2 w2 hg2 hl2 hc2 hb2 hd2 hk2 hz2)
    | (refine app_lies (w := w) (W := w1) (by rfl) _ _ (by rfl) _ (by rfl) H (n * 32) ch m.hd (by rfl) HHH.out (by omega) (by omega) hb1 (Nat.le_refl _) ((hk1 _ (by have := HZB.out; omega) (by omega)).trans HEC.out) ?_; intro g2 cap2 w2 hg2 hl2 hc2 hb2 hd2 hk2 hz2)
    | (refine app_lies (w := w) (W := w1) (by rfl) _ _ (by rfl) _ (by rfl) H (n * 32) ch m.hd (by rfl) HHH.out (by omega) (by omega) hb1 (Nat.le_succ _) ((hk1 _ (by have := HZB.out; omega) (by omega)).trans HEB.out) ?_; intro g2 cap2 w2 hg2 hl2 hc2 hb2 hd2 hk2 hz2))
  · have hne : g1 ≠ g2 := by simp at hd2; omega
    have hcl : Cl w2 g1 n (fun k => .int .i64 (m.st k)) := hc1.of_block ((hk2 g1 (by simp; omega) (by omega)).trans (Below.heap_alloc w1 _ _ hl1))
    have HF := Lib.hid (box_rf2 cap1 cap2 p HWF.out HN.out HP.out hb2 hcl hc2 hg1 hg2 hne)
    clear hcl hne hd1 hd2 hk1 hk2 hc1 hc2 hz1 hz2
    go_wp2_with fail
    go_ret
    exact ⟨_, rfl, HF.out⟩
  · have hne : g1 ≠ g2 := by have := HZB.out; omega
    have hcl : Cl w2 g1 n (fun k => .int .i64 (m.st k)) := hc1.of_block (hk2 g1 hl1 (by have := HZB.out; omega))
    have HF := Lib.hid (box_rf2 cap1 cap2 p HWF.out HN.out HP.out hb2 hcl hc2 hg1 hg2 hne)
    clear hcl hne hd1 hd2 hk1 hk2 hc1 hc2 hz1 hz2
    go_wp2_with fail
    go_ret
    exact ⟨_, rfl, HF.out⟩
  · have hne : g1 ≠ g2 := by have := HZB.out; omega
    have hcl : Cl w2 g1 n (fun k => .int .i64 (m.st k)) := hc1.of_block (hk2 g1 hl1 (by have := HZB.out; omega))
    have HF := Lib.hid (box_rf2 cap1 cap2 p HWF.out HN.out HP.out hb2 hcl hc2 hg1 hg2 hne)
    clear hcl hne hd1 hd2 hk1 hk2 hc1 hc2 hz1 hz2
    go_wp2_with fail
    go_ret
    exact ⟨_, rfl, HF.out⟩

end Go.Proofs.Ytejjendklemebaa
