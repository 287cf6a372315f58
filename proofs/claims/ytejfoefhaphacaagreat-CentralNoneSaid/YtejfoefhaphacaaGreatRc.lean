/- The document's span: Clone. -/
import Derived.Test.YtejfoefhaphacaaGreatRb
namespace Go.Proofs.YtejfoefhaphacaaGreat
open Go.RowKit Go.Shelf

theorem heap_alloc_new (w : World) (o : Obj) : (w.alloc o).heap[w.heap.size]? = some o := World.alloc_heap_new w o
theorem own_emptyR {W : World} {base b : Nat} {t : TypeId} (hb : base ≤ b) (h : W.heap[b]? = some (.cells #[] t (0, 0))) : W.ownsRow base t 1 (.slice (some ⟨b, 0, none⟩) 0 0) 0 [] :=
  ⟨rfl, .inr ⟨b, 0, #[], rfl, hb, h, Nat.le_refl _, Nat.zero_le _, rfl, rfl⟩⟩
theorem below_drew {N : Nat} {w W : World} (h : Below N w W) : Below N w W.drew := ⟨h.os, h.tape, h.output, h.size, h.block⟩
def boolL (f : Nat → Bool) (n : Nat) : List Value := (List.range n).map fun k => .bool (f k)
theorem boolL_len (f : Nat → Bool) (n : Nat) : (boolL f n).length = n := by unfold boolL; simp
/-- What append leaves of a row of booleans, as cells. -/
theorem cl_of_owns {w : World} {base : Nat} {v : Value} {n : Nat} {f : Nat → Bool} (h : w.ownsRow base 4 1 v n (boolL f n)) (hn : 1 ≤ n) :
    ∃ g cap, v = .slice (some ⟨g, 0, none⟩) n cap ∧ base ≤ g ∧ g < w.heap.size ∧ n ≤ cap ∧ Cl w g n (fun i => .bool (f i)) := by
  rcases h.2 with ⟨_, h0⟩ | ⟨g, cap, cur, rfl, hb, hg, hc, _, hcs, ht⟩
  · omega
  · refine ⟨g, cap, rfl, hb, (Array.getElem?_eq_some_iff.1 hg).1, hc, fun i hi => ?_, fun i _ => by simp [World.frozen?, hg], _, _, _, hg, by decide⟩
    have e1 : w.cell? ⟨g, i, none⟩ = cur[i]? := by simp [World.cell?, hg]
    rw [e1]
    have e2 : (cur.toList.take (n * 1))[i]? = cur[i]? := by rw [List.getElem?_take, if_pos (by omega)]; simp
    rw [← e2, ht]
    unfold boolL
    simp [hi]

theorem app_lies {w W : World} {ops : Array Oper} {o : Oper} {a : Act} {K : Act → World → Prop} {Q : Exit → Act → World → Prop} {E : Prop} (hgd : o.guard = none) (s x : Operand)
    (ho : o.op = .call { callee := .builtin .append, args := #[s, x], argTypes := #[97, 97] }) (b : Nat) (hs : a.eval s = .slice (some ⟨b, 0, none⟩) 0 0) (S n c : Nat) (f : Nat → Bool)
    (hx : a.eval x = .slice (some ⟨S, 0, none⟩) n c) (hcl : Cl w S n (fun k => .bool (f k))) (hn : 1 ≤ n) (hn2 : n ≤ 32768) (hbW : Below w.heap.size w W) (hb : w.heap.size ≤ b) (hE : W.heap[b]? = some (.cells #[] 4 (0, 0)))
    (h : ∀ g cap w', w.heap.size ≤ g → g < w'.heap.size → n ≤ cap → Cl w' g n (fun k => .bool (f k)) → Below w.heap.size w w' → K (a.put o.dst (.slice (some ⟨g, 0, none⟩) n cap)) w') :
    if Region.wanted o (yielded ops a.tmps) = true then Oper.wp Tryz.prog o a W K Q else E := by
  obtain ⟨i0, hi, hz0, hz1, hz2⟩ := info_parts info4
  have hlt := hcl.lt
  refine step_append_lies W hgd s x 97 ho w.heap.size 4 i0 (.bool false) 1 1 Tryz.underlying97 hi hz0 hz1 hz2 rfl (by omega) _ 0 [] hs (own_emptyR hb hE) ⟨S, 0, none⟩ n c (boolL f n) hx (by rw [boolL_len]; omega) (fun j u hj => ?_) (fun u hu => ?_) (by omega) (by unfold maxLen; omega) (by omega) hbW.size _ rfl (fun g cap w' hown hgrow hat hgl => ?_)
  · have hj2 : j < n := by have := (List.getElem?_eq_some_iff.1 hj).1; rwa [boolL_len] at this
    have e1 : (⟨S, 0, none⟩ : Addr).add j = ⟨S, j, none⟩ := by simp [Addr.add]; omega
    rw [e1, hbW.cell (p := ⟨S, j, none⟩) hlt, hcl.cell j hj2]
    unfold boolL at hj
    simpa [hj2] using hj
  · unfold boolL at hu
    obtain ⟨j, _, rfl⟩ := List.mem_map.1 hu
    rfl
  · rw [Nat.zero_add, List.nil_append] at hown
    rw [Nat.zero_add]
    obtain ⟨g', cap', e, hg1, hg2, hc, hCl⟩ := cl_of_owns hown hn
    cases e
    refine h g cap w' hg1 hgl hc hCl (hbW.grown hgrow hbW.size (fun k hk => ?_))
    simp [Value.ownBlock] at hk; omega

/-- The clone's own block. -/
theorem rclone_end {w W : World} {m : Mo} {g cap : Nat} (hwf : WF m) (hb : Below w.heap.size w W) (hg : w.heap.size ≤ g) (hc : m.n ≤ cap) (hcl : Cl W g m.n (fun k => .bool (m.f k))) :
    ClnP true w (some m) (.returned (.pointer (some ⟨W.heap.size, 0, none⟩))) (W.alloc (.cells #[.int .i64 m.z, .int .i64 m.g, .int .i64 m.t, .int .i64 m.s, .slice (some ⟨g, 0, none⟩) m.n cap] 99)) := by
  have hs := hb.size
  have hgl := hcl.lt
  refine ⟨_, rfl, ⟨W.heap.size, g, cap, rfl, hwf, ?_, hcl.alloc _, ⟨hs, by simp⟩, ⟨hg, by simp; omega⟩, by omega, fun k hk => hk.2, hc⟩, (fun h => nomatch h), (fun _ h => nomatch h), hb.alloc hs _⟩
  exact Cl.new W (by decide) fun i hi => by
    have : i = 0 ∨ i = 1 ∨ i = 2 ∨ i = 3 ∨ i = 4 := by omega
    rcases this with rfl | rfl | rfl | rfl | rfl <;> rfl

set_option maxRecDepth 100000 in
set_option maxHeartbeats 4000000 in
theorem rClone_any {O : Nat → Prop} {v : Value} {om : Option Mo} {w : World} (h : Ob true w O v om) :
    Calls Tryz.prog 24 #[v] w (ClnP true w om) := by
  cases om with
  | none =>
    have HM := Lib.hid (rmade_no h.1)
    clear h
    go_enter Tryz.func24, Tryz.ntmps24
    go_wp2_with (go_at_call 58; refine HM.out.mono ?_; rintro e w1 ⟨rfl, rfl⟩)
    go_ret
    exact ⟨none, rfl, ⟨.inl rfl, fun _ hk => hk.2⟩, (fun _ => rfl), (fun h => absurd rfl h), Below.refl _ _⟩
  | some m =>
    obtain ⟨B, A, c, rfl, h⟩ := h
    have HM := Lib.hid (rmade_any h)
    have hn1 := h.wf.n1
    have hn2 := h.wf.n2
    have c0 : w.cell? ⟨B, 0, none⟩ = some (.int .i64 m.z) := h.cells.1
    have c1 : w.cell? ⟨B, 1, none⟩ = some (.int .i64 m.g) := h.cells.2.1
    have c2 : w.cell? ⟨B, 2, none⟩ = some (.int .i64 m.t) := h.cells.2.2.1
    have c3 : w.cell? ⟨B, 3, none⟩ = some (.int .i64 m.s) := h.cells.2.2.2.1
    have c4 : w.cell? ⟨B, 4, none⟩ = some (.slice (some ⟨A, 0, none⟩) m.n c) := h.cells.2.2.2.2
    have hBl := h.lt B h.ob
    have HKP := Lib.hid (fun W (hb : Below w.heap.size w W) => And.intro ((hb.cell (p := ⟨B, 0, none⟩) hBl).trans c0) (And.intro ((hb.cell (p := ⟨B, 1, none⟩) hBl).trans c1) (And.intro ((hb.cell (p := ⟨B, 2, none⟩) hBl).trans c2) (And.intro ((hb.cell (p := ⟨B, 3, none⟩) hBl).trans c3) ((hb.cell (p := ⟨B, 4, none⟩) hBl).trans c4)))))
    have HCA := Lib.hid (show Cl w A m.n (fun k => .bool (m.f k)) from h.a)
    have HE := Lib.hid (fun W g cap hb hg hc hcl => rclone_end (w := w) (W := W) (g := g) (cap := cap) h.wf hb hg hc hcl)
    obtain ⟨WA, hWA⟩ : ∃ W, (w.alloc (.cells #[] 4)).drew = W := ⟨_, rfl⟩
    have HBA := Lib.hid (show Below w.heap.size w WA by rw [← hWA]; exact below_drew (bnew _ _))
    have HEA := Lib.hid (show WA.heap[w.heap.size]? = some (.cells #[] 4 (0, 0)) by rw [← hWA]; exact heap_alloc_new w _)
    have HWA := Lib.hid hWA
    have hr0 : w.heap.size ≠ B := by omega
    clear h hWA hBl
    go_enter Tryz.func24, Tryz.ntmps24
    go_wp2_with (go_at_call 58; refine HM.out.mono ?_; rintro e w1 ⟨rfl, rfl⟩)
    go_region_held3 (fun w' => w'.cell? ⟨B, 0, none⟩ = some (.int .i64 m.z) ∧ w'.cell? ⟨B, 1, none⟩ = some (.int .i64 m.g) ∧ w'.cell? ⟨B, 2, none⟩ = some (.int .i64 m.t) ∧ w'.cell? ⟨B, 3, none⟩ = some (.int .i64 m.s) ∧ w'.cell? ⟨B, 4, none⟩ = some (.slice (some ⟨A, 0, none⟩) m.n c))
      (first | go_keep | exact HKP.out _ hb1 | exact HKP.out _ (hb1.alloc hb1.size _) | exact HKP.out _ (below_drew (hb1.alloc hb1.size _)))
      (first
      | (refine app_lies (w := w) (by rfl) _ _ (by rfl) _ (by rfl) A m.n c m.f (by rfl) HCA.out hn1 (by omega) (by rw [HWA.out]; exact HBA.out) (Nat.le_refl _) (by rw [HWA.out]; exact HEA.out) ?_; intro g1 cap1 w1 hg1 hl1 hcap1 hc1 hb1))
    have HF := Lib.hid (HE.out _ _ _ hb1 hg1 hcap1 hc1)
    clear hc1 hb1 hg1 hl1 hcap1
    go_wp2_with fail
    go_ret
    exact HF.out

end Go.Proofs.YtejfoefhaphacaaGreat
