/- The document's list: Add. -/
import Derived.Test.YtejfoefhaphacaaGreatDg
namespace Go.Proofs.YtejfoefhaphacaaGreat
open Go.RowKit Go.Shelf Go.Lib

theorem sld_to (A : Option Addr) (N cap n : Nat) (h : n ≤ cap) (w : World) : (Instr.slice 60 (.slice A N cap) none (some (.int .i64 n)) none).run Tryz.prog w = .ok (.slice A n cap) w := by
  have h0 : (0 : Int) ≤ n := Int.natCast_nonneg n
  have hu := run_underlying (P := Tryz.prog) (w := w) Tryz.underlying60
  have hz := Tryz.sizeOf65
  simp [Instr.slice, hu, Instr.sliceBounds, Instr.sliceBound, go_sem, h0, h, hz]
theorem sld_from (A : Option Addr) (N cap n : Nat) (h : n ≤ N) (w : World) : (Instr.slice 60 (.slice A N cap) (some (.int .i64 n)) none none).run Tryz.prog w = .ok (.slice (if cap = n then A else A.map (·.add n)) (N - n) (cap - n)) w := by
  have h0 : (0 : Int) ≤ n := Int.natCast_nonneg n
  have hu := run_underlying (P := Tryz.prog) (w := w) Tryz.underlying60
  have hz := Tryz.sizeOf65
  simp [Instr.slice, hu, Instr.sliceBounds, Instr.sliceBound, go_sem, h0, h, hz]
/-- Elements of some other row are put behind a row of one's own: maybe none. -/
theorem run_append_part {P : Program} (w : World) (base : Nat) (t ty e : TypeId) (i : TypeInfo) (z : Value) (size bytes : Nat) (ht : P.underlying t = some (.slice e)) (hi : P.info? e = some i) (hz : i.zero = some z)
    (hsize : i.size = size) (hby : i.bytes = bytes) (hzs : z.cells.size = size) (hsz : 0 < size)
    (A : Option Addr) (n cap : Nat) (xs : List Value) (hown : w.ownsRow base e size (.slice A n cap) n xs)
    (A7 : Option Addr) (m c : Nat) (news : List Value) (hl : news.length = m * size) (hsrc : (m = 0) ∨ ∃ a, A7 = some a ∧ ∀ j u, news[j]? = some u → w.cell? (a.add j) = some u) (h1 : ∀ u ∈ news, u.oneCell' = true)
    (h63 : n + m ≤ maxLen) (hbytes : (n + m) * bytes ≤ 140737488355328) (hbase : base ≤ w.heap.size) :
    ∃ A' cap' w', (Builtin.append_ #[t, t] ty #[.slice A n cap, .slice A7 m c]).run P w = .ok (.slice A' (n + m) cap') w' ∧ w'.ownsRow base e size (.slice A' (n + m) cap') (n + m) (xs ++ news) ∧ w.grownBy w' (Value.slice A n cap).ownBlock := by
  rcases hsrc with rfl | ⟨a, rfl, hn⟩
  · have hq : n ≤ cap := by
      rcases hown.2 with ⟨h0, h2⟩ | ⟨g, cap', cur, h0, _, _, h2, _⟩
      · injection h0 with _ _ h0; omega
      · injection h0 with _ _ h0; omega
    have hf : (Builtin.firstCells i.size 0 (.slice A7 0 c)).run P w = .ok #[] w := by
      cases A7 with
      | none => exact run_firstCells_none w i.size 0 0 c
      | some a => exact run_firstCells_some w i.size 0 a 0 c [] (by simp) (fun j v h => by simp at h)
    have hnil : news = [] := List.length_eq_zero_iff.1 (by simpa using hl)
    refine ⟨A, cap, w, ?_, by rw [hnil, List.append_nil]; exact hown, ⟨rfl, rfl, rfl, Nat.le_refl _, fun _ _ _ => rfl⟩⟩
    cases A <;> simp [Builtin.append_, run_underlying ht, sizeOf, typeInfo, hi, Builtin.lenOf, hq, hf, storeCells]
  · obtain ⟨v', w', hr, h2, h3, _, _⟩ := run_append_own_at (P := P) w base t ty e i z size bytes ht hi hz hsize hby hzs hsz (.slice A n cap) n xs hown a m c news hl hn h1 h63 hbytes hbase
    obtain ⟨A', cap', rfl⟩ := owns_form h2
    exact ⟨A', cap', w', hr, h2, h3⟩
theorem wpList_append_part {P : Program} (w : World) {ops : Array Oper} {rest : List Oper} {o : Oper} {a : Act} {Q : Exit → Act → World → Prop} (hgd : o.guard = none) (s x : Operand) (t : TypeId)
    (ho : o.op = .call { callee := .builtin .append, args := #[s, x], argTypes := #[t, t] })
    (base : Nat) (e : TypeId) (i : TypeInfo) (z : Value) (size bytes : Nat) (ht : P.underlying t = some (.slice e)) (hi : P.info? e = some i) (hz : i.zero = some z)
    (hsize : i.size = size) (hby : i.bytes = bytes) (hzs : z.cells.size = size) (hsz : 0 < size)
    (A : Option Addr) (n cap : Nat) (xs : List Value) (hs : a.eval s = .slice A n cap) (hown : w.ownsRow base e size (.slice A n cap) n xs)
    (A7 : Option Addr) (m c : Nat) (news : List Value) (hx : a.eval x = .slice A7 m c) (hl : news.length = m * size) (hsrc : (m = 0) ∨ ∃ a, A7 = some a ∧ ∀ j u, news[j]? = some u → w.cell? (a.add j) = some u) (h1 : ∀ u ∈ news, u.oneCell' = true)
    (h63 : n + m ≤ maxLen) (hbytes : (n + m) * bytes ≤ 140737488355328) (hbase : base ≤ w.heap.size) (k : Nat) (hk : n + m = k) (zs : List Value) (hzs2 : xs ++ news = zs)
    (h : ∀ A' cap' w', w'.ownsRow base e size (.slice A' k cap') k zs → w.grownBy w' (Value.slice A n cap).ownBlock → wpList P ops Q rest (a.put o.dst (.slice A' k cap')) w') :
    wpList P ops Q (o :: rest) a w := by
  subst hk hzs2
  refine wpList_plain hgd fun K hK => ?_
  obtain ⟨A', cap', w', hr, h2, h3⟩ := run_append_part (P := P) w base t o.type e i z size bytes ht hi hz hsize hby hzs hsz A n cap xs hown A7 m c news hl hsrc h1 h63 hbytes hbase
  unfold Oper.wp execOp
  simp only [ho, resolve, invoke, builtin, Sem.run_bind, Sem.run_pure, Result.andThen_ok, List.map_toArray, List.map_cons, List.map_nil, hs, hx, hr]
  exact hK _ _ (h A' cap' w' h2 h3)

theorem src_take {w : World} {e : TypeId} {A : Option Addr} {n cap : Nat} {xs : List Value} (h : w.ownsRow 0 e 1 (.slice A n cap) n xs) (P : Nat) (hP : P ≤ n) : P = 0 ∨ ∃ a, A = some a ∧ ∀ j u, (xs.take P)[j]? = some u → w.cell? (a.add j) = some u := by
  rcases h.2 with ⟨_, h2⟩ | ⟨g, cap', cur, h0, _⟩
  · exact .inl (by omega)
  · injection h0 with ha _ _
    subst ha
    refine .inr ⟨_, rfl, fun j u hj => ?_⟩
    have hjP : j < P := by have := (List.getElem?_eq_some_iff.1 hj).1; rw [List.length_take] at this; omega
    rw [List.getElem?_take_of_lt hjP] at hj
    obtain ⟨g', c', e1, _, _, hc⟩ := owns_cell h hj
    injection e1 with e1 _ _
    injection e1 with e1
    injection e1 with e1
    subst e1
    rw [Addr.add_lit, Nat.zero_add]
    exact hc
theorem src_drop {w : World} {e : TypeId} {A : Option Addr} {n cap : Nat} {xs : List Value} (h : w.ownsRow 0 e 1 (.slice A n cap) n xs) (P : Nat) (hP : P ≤ n) : n - P = 0 ∨ ∃ a, (if cap = P then A else A.map (·.add P)) = some a ∧ ∀ j u, (xs.drop P)[j]? = some u → w.cell? (a.add j) = some u := by
  rcases h.2 with ⟨_, h2⟩ | ⟨g, cap', cur, h0, _, _, hnc, _⟩
  · exact .inl (by omega)
  · injection h0 with ha _ hcc
    subst ha hcc
    by_cases hz : n - P = 0
    · exact .inl hz
    · refine .inr ⟨⟨g, P, none⟩, ?_, fun j u hj => ?_⟩
      · rw [if_neg (by omega)]
        simp [Addr.add_lit]
      · rw [List.getElem?_drop] at hj
        obtain ⟨g', c', e1, _, _, hc⟩ := owns_cell h hj
        injection e1 with e1 _ _
        injection e1 with e1
        injection e1 with e1
        subst e1
        rw [Addr.add_lit]
        exact hc

theorem add_post2 {r : Bool} {O : Nat → Prop} {B P : Nat} {V v' : Value} {X : List Sn} {c : Ce} {w w4 w5 : World} {x : Sn} (h : LiA r w O B V X c) (hb : Below w.heap.size w w4) (hP : P ≤ X.length)
    (hs : SpA r w4 x.own x.B x.A x.c x.m) (hx : ∀ k, x.own k → w.heap.size ≤ k ∧ k < w4.heap.size) (hw : CWf { c with L := ins c.L P x.m })
    (hrow : w5.ownsRow 0 (eT r) 1 v' (X.length + 1) ((pV X).take P ++ x.v :: (pV X).drop P)) (hgr : w4.grownBy w5 V.ownBlock) (hat : v'.ownBlock = V.ownBlock ∨ ∃ q, v'.ownBlock = some q ∧ w4.heap.size ≤ q) :
    LMut r w O (.pointer (some ⟨B, 0, none⟩)) (some { c with L := ins c.L P x.m }) (w5.setCell ⟨B, 3, none⟩ v') := by
  have h4 := h.below hb
  have sz := hb.size
  have hBw := h.lt B h.ob
  have hVB : ∀ g, V.ownBlock = some g → g ≠ B := fun g hg => (h.rowO g hg).2
  have hVw : ∀ g, V.ownBlock = some g → g < w.heap.size := fun g hg => h.lt g (h.rowO g hg).1
  have hv'B : ∀ g, v'.ownBlock = some g → g ≠ B := fun g hg => by
    rcases hat with e | ⟨q, e, hq⟩
    · exact hVB g (e ▸ hg)
    · rw [e] at hg; cases hg; omega
  have hB5 : w5.heap[B]? = w4.heap[B]? := hgr.block B (by omega) (fun e => hVB B e.symm rfl)
  have blk : ∀ k, k < w4.heap.size → V.ownBlock ≠ some k → k ≠ B → (w5.setCell ⟨B, 3, none⟩ v').heap[k]? = w4.heap[k]? := fun k hk hv hkB => (Below.heap_setCell _ _ _ _ hkB).trans (hgr.block k hk (fun e => hv e.symm))
  have hkeep : Keep O w (w5.setCell ⟨B, 3, none⟩ v') := by
    refine ((Keep.of hb).trans (w2 := w5) ⟨hgr.os, hgr.tape, hgr.output, hgr.size, fun k hk ho => hgr.block k hk (fun e => ho (.inl (h.rowO k e.symm).1))⟩).set (.inl h.ob) _
  have hsz6 : (w5.setCell ⟨B, 3, none⟩ v').heap.size = w5.heap.size := World.size_setCell _ _ _
  have sz5 := hgr.size
  have hsp : ∀ (k : Nat) (y : Sn), X[k]? = some y → SpA r (w5.setCell ⟨B, 3, none⟩ v') y.own y.B y.A y.c y.m := fun k y hy => by
    have hso := h4.so k y hy
    exact (h4.sp k y hy).blocks (blk _ (h4.lt _ (hso _ (.inl rfl)).1) (hso _ (.inl rfl)).2.2 (hso _ (.inl rfl)).2.1) (blk _ (h4.lt _ (hso _ (.inr rfl)).1) (hso _ (.inr rfl)).2.2 (hso _ (.inr rfl)).2.1) (by rw [hsz6]; exact hgr.size)
  have hnew : ∀ k, x.own k → V.ownBlock ≠ some k ∧ k ≠ B := fun k hk => ⟨fun e => by have := hVw k e; have := hx k hk; omega, fun e => by have := hx k hk; omega⟩
  have hspx : SpA r (w5.setCell ⟨B, 3, none⟩ v') x.own x.B x.A x.c x.m := hs.blocks (blk _ (hx _ (.inl rfl)).2 (hnew _ (.inl rfl)).1 (hnew _ (.inl rfl)).2) (blk _ (hx _ (.inr rfl)).2 (hnew _ (.inr rfl)).1 (hnew _ (.inr rfl)).2) (by rw [hsz6]; exact hgr.size)
  refine ⟨⟨B, v', insA X P x, rfl, hw, ?_, ?_, fun g hg => ⟨?_, hv'B g hg⟩, .inl h.ob, fun i y hy => ?_, fun i y hy k hk => ?_, ?_, ?_, fun k hk => ?_⟩, hkeep⟩
  · exact ((h4.hd.of_block hB5).set 3 v').congr fun i hi => by
      have : i = 0 ∨ i = 1 ∨ i = 2 ∨ i = 3 := by omega
      rcases this with rfl | rfl | rfl | rfl <;> rfl
  · have e1 : (insA X P x).length = X.length + 1 := by unfold insA; simp; omega
    have e2 : pV (insA X P x) = (pV X).take P ++ x.v :: (pV X).drop P := by unfold pV insA; simp
    rw [e1, e2]
    exact owns_block hrow fun g hg _ => Below.heap_setCell _ _ _ _ (hv'B g hg)
  · rcases hat with e | ⟨q, e, hq⟩
    · exact .inl (h.rowO g (e ▸ hg)).1
    · rw [e] at hg
      cases hg
      obtain ⟨_, h2, _⟩ := owns_at hrow e
      exact .inr ⟨by omega, by rw [hsz6]; exact h2⟩
  · rcases insA_mem hP hy with rfl | ⟨k, hk⟩
    · exact hspx
    · exact hsp k y hk
  · rcases insA_mem hP hy with rfl | ⟨j, hj⟩
    · refine ⟨.inr ⟨(hx k hk).1, by rw [hsz6]; have := (hx k hk).2; omega⟩, (hnew k hk).2, fun e => ?_⟩
      rcases hat with e2 | ⟨q, e2, hq⟩
      · exact (hnew k hk).1 (e2 ▸ e)
      · rw [e2] at e; cases e; have := (hx _ hk).2; omega
    · have hso := h.so j y hj k hk
      refine ⟨.inl hso.1, hso.2.1, fun e => ?_⟩
      rcases hat with e2 | ⟨q, e2, hq⟩
      · exact hso.2.2 (e2 ▸ e)
      · rw [e2] at e; cases e; have := h.lt _ hso.1; omega
  · have hold : ∀ y ∈ X, ∀ k, y.own k → k < w.heap.size := fun y hy k hk => by
      obtain ⟨j, hj⟩ := List.mem_iff_getElem?.1 hy
      exact h.lt k (h.so j y hj k hk).1
    refine List.pairwise_append.2 ⟨h.dj.sublist (List.take_sublist _ _), List.pairwise_cons.2 ⟨fun y hy k h1 h2 => ?_, h.dj.sublist (List.drop_sublist _ _)⟩, fun y hy z hz => ?_⟩
    · have := hold y (List.mem_of_mem_drop hy) k h2
      have := (hx k h1).1
      omega
    · rw [List.mem_cons] at hz
      rcases hz with rfl | hz
      · intro k h1 h2
        have := hold y (List.mem_of_mem_take hy) k h1
        have := (hx k h2).1
        omega
      · obtain ⟨i, hi⟩ := List.mem_iff_getElem?.1 hy
        obtain ⟨j, hj⟩ := List.mem_iff_getElem?.1 hz
        have hip : i < P := by
          have := (List.getElem?_eq_some_iff.1 hi).1
          rw [List.length_take] at this
          omega
        rw [List.getElem?_take_of_lt hip] at hi
        rw [List.getElem?_drop] at hj
        exact dj_of h.dj (by omega) hi hj
  · show (insA X P x).map (·.m) = ins c.L P x.m
    unfold insA ins
    rw [List.map_append, List.map_cons, List.map_take, List.map_drop, h.ms]
  · rcases hk with hk | hk
    · rw [hsz6]; have := h.lt k hk; omega
    · exact hk.2


/-! The place, span by span. -/
theorem pos_take {L : List Mo} {k : Nat} {m : Mo} (h : L[k]? = some m) (p : Int) : pos (L.take (k + 1)) p = pos (L.take k) p + (if (m.s : Int) ≤ p then 1 else 0) := by
  unfold pos
  rw [List.take_add_one, h, List.countP_append]
  by_cases hm : (m.s : Int) ≤ p <;> simp [hm]
theorem pos_all {c : Ce} (h : CWf c) {k : Nat} {m : Mo} (hk : c.L[k]? = some m) {p : Int} (hp : (m.s : Int) ≤ p) : pos (c.L.take k) p = k := by
  have hl := (List.getElem?_eq_some_iff.1 hk).1
  have : pos (c.L.take k) p = (c.L.take k).length := by
    unfold pos
    rw [List.countP_eq_length]
    intro y hy
    obtain ⟨j, hj⟩ := List.mem_iff_getElem?.1 hy
    have hjk : j < k := by have := (List.getElem?_eq_some_iff.1 hj).1; rw [List.length_take] at this; omega
    rw [List.getElem?_take_of_lt hjk] at hj
    have := h.ord hjk hj hk
    rw [decide_eq_true_eq]
    omega
  rw [this, List.length_take]
  omega
theorem ovl_take {L : List Mo} {k : Nat} {m : Mo} (h : L[k]? = some m) (g : Nat) (st : Int) : ovl (L.take (k + 1)) g st = (ovl (L.take k) g st || decide (st < (m.s : Int) + g ∧ (m.s : Int) < st + g)) := by
  unfold ovl
  rw [List.take_add_one, h, List.any_append]
  simp
theorem ovl_yes {L : List Mo} {k : Nat} {m : Mo} (h : L[k]? = some m) {g : Nat} {st : Int} (ho : st < (m.s : Int) + g ∧ (m.s : Int) < st + g) : ovl L g st = true := by
  unfold ovl
  exact List.any_eq_true.2 ⟨m, List.mem_of_getElem? h, by rw [decide_eq_true_eq]; exact ho⟩
end Go.Proofs.YtejfoefhaphacaaGreat
