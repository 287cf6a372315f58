/- The document's cache: Put: what it appends. -/
import Derived.Test.YticcjelaenhigaaRg
namespace Go.Proofs.Yticcjelaenhigaa
open Go.RowKit Go.Lib

set_option maxRecDepth 100000 in
/-- A number is appended to a list of one's own. -/
theorem run_append_one (w : World) (base g N cap : Nat) (z : List Int) (hrow : w.ownsRow base 3 1 (.slice (some ⟨g, 0, none⟩) N cap) N (cZ z)) (hbase : base ≤ w.heap.size) (h : Nat) (a : Int) (hc : w.cell? ⟨h, 0, none⟩ = some (.int .i64 a)) (hN : N ≤ 32768) :
    ∃ g' cap' w', (Builtin.append_ #[33, 33] 33 #[.slice (some ⟨g, 0, none⟩) N cap, .slice (some ⟨h, 0, none⟩) 1 1]).run Try.prog w = .ok (.slice (some ⟨g', 0, none⟩) (N + 1) cap') w' ∧ w'.ownsRow base 3 1 (.slice (some ⟨g', 0, none⟩) (N + 1) cap') (N + 1) (cZ (z ++ [a])) ∧ w.grownBy w' (some g) := by
  obtain ⟨i0, hi, hz0, hz1, hz2⟩ := info_parts info3
  obtain ⟨g', cap', w', hr, h2, h3, _, _⟩ := run_append_lies (P := Try.prog) w 33 33 base 3 i0 (.int .i64 0) 1 8 undInts hi hz0 hz1 hz2 rfl (by decide) (.slice (some ⟨g, 0, none⟩) N cap) N (cZ z) hrow ⟨h, 0, none⟩ 1 1 [.int .i64 a] rfl (fun j u hj => by
    cases j with
    | zero => simp at hj; subst hj; rw [Addr.add_lit]; exact hc
    | succ j => simp at hj) (by simp [Value.oneCell']) (by decide) (by unfold maxLen; omega) (by omega) hbase _ rfl
  exact ⟨g', cap', w', hr, by rw [cZ_app]; exact h2, h3⟩
/-- What a list copied and grown by one is. -/
def AdF (w : World) (l : List Int) (w5 : World) (g n cap : Nat) : Prop := w5.ownsRow w.heap.size 3 1 (.slice (some ⟨g, 0, none⟩) n cap) n (cZ l) ∧ Below w.heap.size w w5
section
variable {w W : World} {ops : Array Oper} {o : Oper} {a : Act} {K : Act → World → Prop} {Q : Exit → Act → World → Prop} {E : Prop}
theorem step_copy {P : Nat → Prop} (hgd : o.guard = none) (s x : Operand)
    (ho : o.op = .call { callee := .builtin .append, args := #[s, x], argTypes := #[33, 33] }) (hty : o.type = 33) (A : Option Addr) (m c b0 : Nat) (hs : a.eval s = .slice (some ⟨b0, 0, none⟩) 0 0) (hx : a.eval x = .slice A m c)
    (hE : W.heap[b0]? = some (.cells #[] 3 (0, 0))) (hb0 : w.heap.size ≤ b0) (hW : Below w.heap.size w W) (z : List Int) (hm : z.length = m) (hz : IAt P W A z) (h : m ≤ 32768)
    (hK : ∀ g cap w', AdF w z w' g m cap → (∀ k, k < W.heap.size → k ≠ b0 → w'.heap[k]? = W.heap[k]?) → W.heap.size ≤ w'.heap.size → K (a.put o.dst (.slice (some ⟨g, 0, none⟩) m cap)) w') :
    if Region.wanted o (yielded ops a.tmps) = true then Oper.wp Try.prog o a W K Q else E := by
  obtain ⟨g, cap, w', hr, hrow, hgr, _⟩ := run_append_copy W w.heap.size b0 (own_empty hb0 hE) hW.size A m c z hm hz h
  refine step_run W hgd s x 33 ho _ _ hs hx (by rw [hty]; exact hr) (hK g cap w' ⟨hrow, hW.grown hgr hW.size (fun b e => by injection e with e; omega)⟩ (fun k hk hne => hgr.block k hk (fun e => hne (by injection e))) hgr.size)
theorem step_one (hgd : o.guard = none) (s x : Operand)
    (ho : o.op = .call { callee := .builtin .append, args := #[s, x], argTypes := #[33, 33] }) (hty : o.type = 33) (g N cap h : Nat) (hs : a.eval s = .slice (some ⟨g, 0, none⟩) N cap) (hx : a.eval x = .slice (some ⟨h, 0, none⟩) 1 1)
    (z : List Int) (hA : AdF w z W g N cap) (v : Int) (hc : W.cell? ⟨h, 0, none⟩ = some (.int .i64 v)) (hN : N ≤ 32768)
    (hK : ∀ g cap w', AdF w (z ++ [v]) w' g (N + 1) cap → K (a.put o.dst (.slice (some ⟨g, 0, none⟩) (N + 1) cap)) w') :
    if Region.wanted o (yielded ops a.tmps) = true then Oper.wp Try.prog o a W K Q else E := by
  obtain ⟨g', cap', w', hr, hrow, hgr⟩ := run_append_one W w.heap.size g N cap z hA.1 hA.2.size h v hc hN
  refine step_run W hgd s x 33 ho _ _ hs hx (by rw [hty]; exact hr) (hK g' cap' w' ⟨hrow, hA.2.grown hgr hA.2.size (fun b e => by injection e with e; have := (own_bd hA.1).1; omega)⟩)
end
theorem AdF.alloc {w W : World} {l : List Int} {g n cap : Nat} (h : AdF w l W g n cap) (o : Obj) : AdF w l (W.alloc o) g n cap := ⟨h.1.alloc _, h.2.alloc h.2.size _⟩

section
variable {w w5 w6 w7 w8 : World} {O O6 : Nat → Prop} {B t l i j ct cl ci cj : Nat} {V : Nat → Value} {c : Tc} {x g5 cap5 N m n : Nat} {a : Int} {k k' : Kl}
/-- A list is grown by one, in a block of its own. -/
theorem RcA.add1 (h : RcA w O B t l i j ct cl ci cj V c) (hK : c.K[x]? = some k) (hN : k.l.length = N) (h256 : ¬ 256 < N + 1) (ha : InR a) (hin : ∀ a ∈ k.l, InR a) (h5 : AdF w (k.l ++ [a]) w5 g5 (N + 1) cap5) :
    (∃ V', RcA (w5.setCell ⟨l, x, none⟩ (.slice (some ⟨g5, 0, none⟩) (N + 1) cap5)) (fun g => O g ∨ g = g5) B t l i j ct cl ci cj V' { c with K := c.K.set x (addK k [a]) }) ∧ Keep (fun g => g = l) w (w5.setCell ⟨l, x, none⟩ (.slice (some ⟨g5, 0, none⟩) (N + 1) cap5)) ∧ w.heap.size ≤ g5 ∧ g5 < w5.heap.size := by
  obtain ⟨n1, n2, n3, n4, n5, n6, n7, n8, n9, n10⟩ := h.ne
  obtain ⟨oB, ot, ol, oi, oj⟩ := h.ob
  have lB := h.lt B oB
  have ll := h.lt l ol
  have li := h.lt i oi
  have lj := h.lt j oj
  obtain ⟨q1, q2, q3, q4⟩ := own_bd h5.1
  have hkw := h.wf.k k (List.mem_of_getElem? hK)
  have kp : Keep (fun g => g = l) w (w5.setCell ⟨l, x, none⟩ (.slice (some ⟨g5, 0, none⟩) (N + 1) cap5)) := keep_set (F := fun g => g = l) (Keep.of h5.2) rfl _
  have e4 : (addK k [a]).l.length = N + 1 := by show (k.l ++ [a]).length = _; rw [List.length_append, hN]; rfl
  have i2 : IAt (fun g => g = g5) (w5.setCell ⟨l, x, none⟩ (.slice (some ⟨g5, 0, none⟩) (N + 1) cap5)) (some ⟨g5, 0, none⟩) (k.l ++ [a]) := (iat_own h5.1 (fun b hb => by
    rcases List.mem_append.1 hb with h1 | h1
    · exact hin b h1
    · rw [List.mem_singleton.1 h1]; exact ha)).keep (keep_set (F := fun g => g = l) (Keep.refl _ _) rfl _) (fun g h1 h2 => by have h1 : g = g5 := h1; have h2 : g = l := h2; omega)
  have hlim := h.lim.of_block (kp.block i li (fun e => n8 e.symm))
  have hlow := h.low.of_block (kp.block j lj (fun e => n9 e.symm))
  refine ⟨⟨_, h.upd (k' := addK k [a]) (A := some ⟨g5, 0, none⟩) (cp := cap5) (O' := fun g => O g ∨ g = g5) hK (addK_wf hkw (by rw [hN]; show N + 1 ≤ 256; omega)) rfl rfl (hlim.congr fun y _ => ?_) (hlow.congr fun y _ => ?_) (by rw [e4]; exact (h.ll.of_block (h5.2.block l ll)).set x _) (by rw [e4]; exact q3) q4 (fun g hg => .inl hg) (fun g hg => ?_) (i2.mono fun g _ e => ?_) (kp.mono fun g _ e => .inl e)⟩, kp, q1, q2⟩
  · by_cases e : y = x
    · subst e; rw [if_pos rfl, hK]; rfl
    · rw [if_neg e]
  · by_cases e : y = x
    · subst e; rw [if_pos rfl, hK]; rfl
    · rw [if_neg e]
  · rw [World.size_setCell]
    rcases hg with hg | hg
    · have := h.lt g hg; have := h5.2.size; omega
    · omega
  · have e : g = g5 := e
    exact ⟨.inr e, by omega, by omega, by omega, by omega⟩
/-- A limit is turned, the blocks stay. -/
theorem RcA.lim' (h : RcA w O B t l i j ct cl ci cj V c) (hk : c.K[x]? = some k) (h1 : 1 ≤ n) (h2 : n ≤ 128) {w' : World} (hl : Cl w' i c.K.length (fun y => if y = x then .int .i64 (n : Nat) else .int .i64 (((c.K[y]?.map (·.lim)).getD 0 : Nat) : Int))) (hkp : Keep (fun g => g = i) w w') :
    ∃ V', RcA w' O B t l i j ct cl ci cj V' { c with K := c.K.set x { k with lim := n } } := by
  obtain ⟨n1, n2, n3, n4, n5, n6, n7, n8, n9, n10⟩ := h.ne
  obtain ⟨oB, ot, ol, oi, oj⟩ := h.ob
  obtain ⟨A, cp, _, hV, hcp, hcm, hia⟩ := h.listc hk
  have hkw := h.wf.k k (List.mem_of_getElem? hk)
  have hlow := h.low.of_block (hkp.block j (h.lt j oj) (fun e => n10 e.symm))
  have hll := h.ll.of_block (hkp.block l (h.lt l ol) (fun e => n8 e))
  refine ⟨_, h.upd (k' := { k with lim := n }) (A := A) (cp := cp) (O' := O) hk ⟨hkw.s8, hkw.s512, hkw.b1, hkw.b32, h1, h2, hkw.low, hkw.len⟩ rfl rfl hl (hlow.congr fun y _ => ?_) (hll.congr fun y _ => ?_) hcp hcm (fun g hg => hg) (fun g hg => Nat.lt_of_lt_of_le (h.lt g hg) hkp.size) (hia.keep hkp (fun g h4 h5 => h4.2.2.2.1 h5)) (hkp.mono fun g _ e => .inr (.inl e))⟩
  · by_cases e : y = x
    · subst e; rw [if_pos rfl, hk]; rfl
    · rw [if_neg e]
  · by_cases e : y = x
    · subst e; rw [if_pos rfl]; exact hV
    · rw [if_neg e]
/-- A low is turned, the blocks stay. -/
theorem RcA.low' (h : RcA w O B t l i j ct cl ci cj V c) (hk : c.K[x]? = some k) (h1 : n ≤ k.l.length) {w' : World} (hl : Cl w' j c.K.length (fun y => if y = x then .int .i64 (n : Nat) else .int .i64 (((c.K[y]?.map (·.lo)).getD 0 : Nat) : Int))) (hkp : Keep (fun g => g = j) w w') :
    ∃ V', RcA w' O B t l i j ct cl ci cj V' { c with K := c.K.set x { k with lo := n } } := by
  obtain ⟨n1, n2, n3, n4, n5, n6, n7, n8, n9, n10⟩ := h.ne
  obtain ⟨oB, ot, ol, oi, oj⟩ := h.ob
  obtain ⟨A, cp, _, hV, hcp, hcm, hia⟩ := h.listc hk
  have hkw := h.wf.k k (List.mem_of_getElem? hk)
  have hlim := h.lim.of_block (hkp.block i (h.lt i oi) (fun e => n10 e))
  have hll := h.ll.of_block (hkp.block l (h.lt l ol) (fun e => n9 e))
  refine ⟨_, h.upd (k' := { k with lo := n }) (A := A) (cp := cp) (O' := O) hk ⟨hkw.s8, hkw.s512, hkw.b1, hkw.b32, hkw.m1, hkw.m128, h1, hkw.len⟩ rfl rfl (hlim.congr fun y _ => ?_) hl (hll.congr fun y _ => ?_) hcp hcm (fun g hg => hg) (fun g hg => Nat.lt_of_lt_of_le (h.lt g hg) hkp.size) (hia.keep hkp (fun g h4 h5 => h4.2.2.2.2 h5)) (hkp.mono fun g _ e => .inr (.inr e))⟩
  · by_cases e : y = x
    · subst e; rw [if_pos rfl, hk]; rfl
    · rw [if_neg e]
  · by_cases e : y = x
    · subst e; rw [if_pos rfl]; exact hV
    · rw [if_neg e]
/-- Put returns what oldest does. -/
theorem put_end (h : RcA w O B t l i j ct cl ci cj V c) (hK : c.K[x]? = some k) (hN : k.l.length = N) (h256 : ¬ 256 < N + 1) (hgt : ¬ N + 1 ≤ k.lim) (hm : overN (addK k [a]) = m) (kp6 : Keep (fun g => g = l) w w6) (hO6 : ∀ q, O6 q → Ext O w w6 q) {A1 : Option Addr} {c9 : Nat}
    (hold : OldP w6 O6 B t l i j ct cl ci cj { c with K := c.K.set x (addK k [a]) } x m (addK k [a]) (.returned (.slice A1 m c9)) w7)
    (hlast : ∀ O' V', RcA w7 O' B t l i j ct cl ci cj V' { c with K := c.K.set x (outK (addK k [a]) m) } → ∃ V8, RcA w8 O' B t l i j ct cl ci cj V8 { c with K := c.K.set x (overK (addK k [a])) }) (kp8 : Keep (fun g => g = i) w7 w8) :
    PtP true w O (.pointer (some ⟨B, 0, none⟩)) (some c) x a (.returned (.tuple #[.slice A1 m c9, .int .i64 0])) w8 := by
  have hat : atK (some c) (x : Int) = some k := atK_at hK
  obtain ⟨oB, ot, ol, oi, oj⟩ := h.ob
  have hb : ¬ 256 < k.l.length + 1 := by omega
  have e2 : ptE (some c) x = 0 := by unfold ptE; rw [hat]; exact if_neg hb
  have e3 : ptD (some c) x a = some { c with K := c.K.set x (overK (addK k [a])) } := by
    unfold ptD; rw [hat]; dsimp only; rw [if_neg hb]; unfold ptK; rw [if_neg (by omega)]; rfl
  have e1 : ptV (some c) x a = (k.l ++ [a]).take m := by unfold ptV; rw [hat]; dsimp only; rw [if_neg hb]; unfold ptL; rw [if_neg (by omega), hm]
  have hlen : ((k.l ++ [a]).take m).length = m := by
    rw [List.length_take, ← hm]
    show min (min k.b (k.l ++ [a]).length) _ = min k.b (k.l ++ [a]).length
    omega
  obtain ⟨_, _, he, O', V', hr, hsub, hk, hi⟩ := hold
  injection he with he
  injection he with ea _ ec
  subst ea ec
  have hr' : RcA w7 O' B t l i j ct cl ci cj V' { c with K := c.K.set x (outK (addK k [a]) m) } := by
    have := hr
    rw [show ({ g := c.g, K := c.K.set x (addK k [a]) } : Tc).K.set x (outK (addK k [a]) m) = c.K.set x (outK (addK k [a]) m) from List.set_set ..] at this
    exact this
  obtain ⟨V8, h8⟩ := hlast O' V' hr'
  have kO : Keep O w w7 := (kp6.mono fun g _ e => by rw [e]; exact ol).trans (hk.mono fun g _ e => by rcases e with e | e <;> rw [e] <;> exact .inl (by assumption))
  have kO8 : Keep O w w8 := kO.trans (kp8.mono fun g _ e => by rw [e]; exact .inl oi)
  have s6 := kp6.size
  have s7 := hk.size
  have s8 := kp8.size
  refine ⟨A1, c9, by rw [e1, e2, hlen], O', by rw [e3]; exact ⟨B, t, l, i, j, ct, cl, ci, cj, V8, rfl, h8⟩, fun q hq => ?_, kO8, by
    rw [e1]
    refine (hi.keep kp8 (fun g h1 h2 => h1.2 (by have h2 : g = i := h2; rw [h2]; exact hr.ob.2.2.2.1))).mono fun g _ h1 => ⟨Nat.le_trans s6 h1.1, h1.2⟩⟩
  rcases hsub q hq with h1 | h1
  · rcases hO6 q h1 with h2 | h2
    · exact .inl h2
    · exact .inr (by omega)
  · exact .inr (by omega)
end
end Go.Proofs.Yticcjelaenhigaa
