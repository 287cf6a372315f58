/- The document's cache: what New and Clone make. -/
import Derived.Test.YticcjelaenhigaaRh
import Derived.Laws.MakeOwn
namespace Go.Proofs.Yticcjelaenhigaa
open Go.RowKit Go.Lib

def tabC (t : List Cs) : List Value := t.flatMap fun c => [.int .i64 c.s, .int .i64 c.p, .int .i64 c.b]
theorem tabC_len (t : List Cs) : (tabC t).length = t.length * 3 := by
  induction t with
  | nil => rfl
  | cons x t ih => rw [show tabC (x :: t) = [.int .i64 x.s, .int .i64 x.p, .int .i64 x.b] ++ tabC t from rfl, List.length_append, ih, List.length_cons]; simp; omega
theorem tabC_at : ∀ (t : List Cs) (i : Nat) (x : Cs) (d : Nat), t[i]? = some x → d < 3 → (tabC t)[i * 3 + d]? = [Value.int .i64 x.s, .int .i64 x.p, .int .i64 x.b][d]?
  | [], i, x, d, h, _ => by simp at h
  | y :: t, 0, x, d, h, hd => by
    simp at h
    subst h
    rw [show tabC (y :: t) = [.int .i64 y.s, .int .i64 y.p, .int .i64 y.b] ++ tabC t from rfl, List.getElem?_append_left (by simp; omega), Nat.zero_mul, Nat.zero_add]
  | y :: t, i + 1, x, d, h, hd => by
    rw [show tabC (y :: t) = [.int .i64 y.s, .int .i64 y.p, .int .i64 y.b] ++ tabC t from rfl, List.getElem?_append_right (by simp; omega), show (i + 1) * 3 + d - [Value.int .i64 y.s, .int .i64 y.p, .int .i64 y.b].length = i * 3 + d from by simp; omega]
    exact tabC_at t i x d (by simpa using h) hd
theorem tabC_one (t : List Cs) : ∀ u ∈ tabC t, u.oneCell' = true := by
  intro u hu
  unfold tabC at hu
  obtain ⟨x, _, hx⟩ := List.mem_flatMap.1 hu
  simp at hx
  rcases hx with rfl | rfl | rfl <;> rfl
/-- Classes in memory, as cells. -/
theorem TabAt.cells {W : World} {N : Nat} {A : Option Addr} {t : List Cs} (h : TabAt W N A t) (h0 : 0 < t.length) : ∃ b o, A = some ⟨b, o, none⟩ ∧ ∀ j u, (tabC t)[j]? = some u → W.cell? ((⟨b, o, none⟩ : Addr).add j) = some u := by
  obtain ⟨b, o, e, _, _, _, _⟩ := h 0 t[0] (List.getElem?_eq_getElem h0)
  refine ⟨b, o, e, fun j u hj => ?_⟩
  have hjl := (List.getElem?_eq_some_iff.1 hj).1
  rw [tabC_len] at hjl
  obtain ⟨x, hx⟩ : ∃ x, t[j / 3]? = some x := ⟨_, List.getElem?_eq_getElem (by omega)⟩
  have h1 := tabC_at t (j / 3) x (j % 3) hx (Nat.mod_lt _ (by decide))
  rw [show j / 3 * 3 + j % 3 = j from by omega, hj] at h1
  obtain ⟨b', o', e', _, c0, c1, c2⟩ := h (j / 3) x hx
  rw [e] at e'
  cases e'
  rw [Addr.add_lit]
  have h3 : j % 3 = 0 ∨ j % 3 = 1 ∨ j % 3 = 2 := by omega
  rcases h3 with h3 | h3 | h3
  · rw [h3] at h1; simp at h1; subst h1; rw [show o + j = o + j / 3 * 3 from by omega]; exact c0
  · rw [h3] at h1; simp at h1; subst h1; rw [show o + j = o + j / 3 * 3 + 1 from by omega]; exact c1
  · rw [h3] at h1; simp at h1; subst h1; rw [show o + j = o + j / 3 * 3 + 2 from by omega]; exact c2
theorem infoCs : (Try.prog.info? 56).map (fun i => (i.zero, i.size, i.bytes)) = some (some (.agg #[.int .i64 0, .int .i64 0, .int .i64 0]), 3, 24) := by kernel_rfl
theorem undCs : Try.prog.underlying 22 = some (.slice 56) := by kernel_rfl
theorem bAl {w W : World} (h : Below w.heap.size w W) (o : Obj) : Below w.heap.size w (W.alloc o) := h.alloc h.size o
theorem bDr {w W : World} (h : Below w.heap.size w W) : Below w.heap.size w W.drew := belowN h 1
theorem hGet (W : World) (o : Obj) (b : Nat) : (W.alloc o).heap[b]? = if b = W.heap.size then some o else W.heap[b]? := by
  show (W.heap.push o)[b]? = _
  rw [Array.getElem?_push]
/-- A row of one's own, in whatever world its block lies. -/
theorem own_at {W Y : World} {base e size n cap g : Nat} {xs : List Value} {o : Obj} (h : W.ownsRow base e size (.slice (some ⟨g, 0, none⟩) n cap) n xs) (h1 : W.heap[g]? = some o) (h2 : Y.heap[g]? = some o) : Y.ownsRow base e size (.slice (some ⟨g, 0, none⟩) n cap) n xs :=
  own_keep h fun b hb => by cases hb; rw [h1, h2]
/-- The classes are copied, as one step of a region that draws. -/
theorem step_appC {w W : World} {ops : Array Oper} {o : Oper} {a : Act} {K : Act → World → Prop} {Q : Exit → Act → World → Prop} {E : Prop} (hgd : o.guard = none) (s x : Operand)
    (ho : o.op = .call { callee := .builtin .append, args := #[s, x], argTypes := #[22, 22] }) (hty : o.type = 22) (b0 : Nat) (hs : a.eval s = .slice (some ⟨b0, 0, none⟩) 0 0) (A : Option Addr) (n c : Nat) (hx : a.eval x = .slice A n c)
    (t : List Cs) (hT : TabAt W w.heap.size A t) (hn : t.length = n) (h0 : 0 < n) (h40 : n ≤ 40) (hE : W.heap[b0]? = some (.cells #[] 56 (0, 0))) (hb : w.heap.size ≤ b0) (hB : Below w.heap.size w W)
    (hK : ∀ cap arr, (∀ (Y : World) (b : Nat), b = W.heap.size → Y.heap[b]? = some (.cells arr 56 (0, 0)) → Y.ownsRow w.heap.size 56 3 (.slice (some ⟨b, 0, none⟩) n cap) n (tabC t)) → K (a.put o.dst (.slice (some ⟨W.heap.size, 0, none⟩) n cap)) (W.drew.alloc (.cells arr 56))) :
    if Region.wanted o (yielded ops a.tmps) = true then Oper.wp Try.prog o a W K Q else E := by
  obtain ⟨i0, hi, hz0, hz1, hz2⟩ := info_parts infoCs
  obtain ⟨bA, oA, rfl, hc⟩ := hT.cells (by omega)
  have hr := run_append_grow (P := Try.prog) W 22 22 56 i0 (.agg #[.int .i64 0, .int .i64 0, .int .i64 0]) undCs hi hz0 ⟨b0, 0, none⟩ 0 0 [] (by simp) (fun j v h => by simp at h) ⟨bA, oA, none⟩ n c (tabC t) (by rw [tabC_len, hz1, hn]) hc (by omega) (by omega) (growslice_fits (by omega) (by rw [hz2]; omega))
  obtain ⟨g, cap, w', hr2, h2, _, _, _⟩ := run_append_lies (P := Try.prog) W 22 22 w.heap.size 56 i0 (.agg #[.int .i64 0, .int .i64 0, .int .i64 0]) 3 24 undCs hi hz0 hz1 hz2 rfl (by decide) (.slice (some ⟨b0, 0, none⟩) 0 0) 0 [] ⟨rfl, .inr ⟨b0, 0, #[], rfl, hb, hE, Nat.le_refl _, Nat.zero_le _, rfl, rfl⟩⟩ ⟨bA, oA, none⟩ n c (tabC t) (by rw [tabC_len, hn]) hc (tabC_one t) h0 (by unfold maxLen; omega) (by omega) hB.size _ rfl
  rw [hr] at hr2
  injection hr2 with e1 e2
  subst e2
  injection e1 with ea eb ec
  rw [← ea, ← ec] at h2
  rw [Nat.zero_add] at h2 hr
  exact step_run W hgd s x 22 ho _ _ hs hx (by rw [hty]; exact hr) (hK _ _ fun Y b e hY => by subst e; exact own_at h2 (World.alloc_heap_new W.drew _) hY)

theorem hDr (W : World) : W.drew.heap = W.heap := rfl
theorem hSz (W : World) (o : Obj) : (W.alloc o).heap.size = W.heap.size + 1 := World.size_alloc W o
theorem make_at (z : Value) (hz : z.cells = #[z]) (n x : Nat) (hx : x < n) : (madeCells z.cells n)[x]? = some z := by
  unfold madeCells
  rw [hz]
  simp [hx, Nat.mod_one]

end Go.Proofs.Yticcjelaenhigaa
