/- Maps of numbers to pointers in memory: their entries, a look-up, a store, a range. -/
import Derived.Test.YticcjelaenhigaaMb
namespace Go.Proofs.Yticcjelaenhigaa
open Go.RowKit Go.Maps Go.ChangeMaps Go.MapKept Go.WideElems

theorem keyed3 : Keyed Try.prog 3 := int_keyed Try.underlying3
theorem zeroPL (w : World) : (zeroValue 69).run Try.prog w = .ok (.pointer none) w := by kernel_rfl
theorem int_inj {a b : Int} (h : Value.int .i64 a = .int .i64 b) : a = b := by injection h
theorem nat_inj {a b : Nat} (h : Value.int .i64 (a : Int) = .int .i64 (b : Int)) : a = b := Int.ofNat.inj (int_inj h)
/-- Any element. -/
def anyR : Value → Option (DataW Unit × List MemPlace) := fun _ => some (.nil, [])
theorem anyR_at (v : Value) : ∃ y, anyR v = some y := ⟨_, rfl⟩
def ent (p : Nat → Nat) (i : Nat) : Value × Value := (.int .i64 (i : Int), .pointer (some ⟨p i, 0, none⟩))
/-- The entries are those of the numbers Q, in their order. -/
structure EsAt (es : Array MapEntry) (clock : Nat) (Q : List Nat) (p : Nat → Nat) : Prop where
  fit : Fit Try.prog 3 anyR es clock
  es : es.toList.map (fun x => (x.key, x.val)) = Q.map (ent p)
/-- Block b is a map of the numbers Q, each to its pointer. -/
def MpA (w : World) (b : Nat) (Q : List Nat) (p : Nat → Nat) : Prop := ∃ es clock, w.heap[b]? = some (.map es clock) ∧ EsAt es clock Q p
section
variable {w w' : World} {b r : Nat} {Q D : List Nat} {p p' : Nat → Nat} {es : Array MapEntry} {clock : Nat}
theorem MpA.block (h : MpA w b Q p) (e : w'.heap[b]? = w.heap[b]?) : MpA w' b Q p := by
  obtain ⟨es, clock, hb, h⟩ := h
  exact ⟨es, clock, e.trans hb, h⟩
theorem MpA.lt (h : MpA w b Q p) : b < w.heap.size := by
  obtain ⟨es, clock, hb, _⟩ := h
  exact (Array.getElem?_eq_some_iff.1 hb).1
theorem EsAt.size (h : EsAt es clock Q p) : es.size = Q.length := by
  have := congrArg List.length h.es
  simpa using this
theorem EsAt.at (h : EsAt es clock Q p) {j : Nat} {e : MapEntry} (he : es.toList[j]? = some e) : ∃ i, Q[j]? = some i ∧ e.key = .int .i64 (i : Int) ∧ e.val = .pointer (some ⟨p i, 0, none⟩) := by
  have h1 : (es.toList.map (fun x => (x.key, x.val)))[j]? = some (e.key, e.val) := by rw [List.getElem?_map, he]; rfl
  rw [h.es, List.getElem?_map] at h1
  cases hq : Q[j]? with
  | none => rw [hq] at h1; cases h1
  | some i =>
    rw [hq] at h1
    injection h1 with h1
    injection h1 with h1 h2
    exact ⟨i, rfl, h1.symm, h2.symm⟩
theorem EsAt.mem (h : EsAt es clock Q p) {e : MapEntry} (he : e ∈ es.toList) : ∃ i, i ∈ Q ∧ e.key = .int .i64 (i : Int) ∧ e.val = .pointer (some ⟨p i, 0, none⟩) := by
  obtain ⟨j, hj⟩ := List.mem_iff_getElem?.1 he
  obtain ⟨i, h1, h2⟩ := h.at hj
  exact ⟨i, List.mem_of_getElem? h1, h2⟩
theorem EsAt.get (h : EsAt es clock Q p) {i : Nat} (hi : i ∈ Q) : ∃ e ∈ es.toList, e.key = .int .i64 (i : Int) := by
  have : ent p i ∈ Q.map (ent p) := List.mem_map.2 ⟨i, hi, rfl⟩
  rw [← h.es] at this
  obtain ⟨e, he, e1⟩ := List.mem_map.1 this
  exact ⟨e, he, by injection e1⟩
theorem EsAt.nodup (h : EsAt es clock Q p) : Q.Nodup := by
  have h1 := ((stamped_iff es clock).1 h.fit.stamped).2.2
  have h2 : (es.toList.map (fun x => x.key)).Pairwise (· ≠ ·) := List.pairwise_map.2 h1
  have h3 : es.toList.map (fun x => x.key) = Q.map (fun x : Nat => Value.int .i64 (x : Int)) := by
    have := congrArg (List.map (·.1)) h.es
    simpa [List.map_map, Function.comp_def, ent] using this
  rw [h3, List.pairwise_map] at h2
  exact h2.imp (fun hne e => hne (by rw [e]))
theorem MpA.nodup (h : MpA w b Q p) : Q.Nodup := by
  obtain ⟨es, clock, _, h⟩ := h
  exact h.nodup
theorem MpA.len (h : MpA w b Q p) : Q.length ≤ maxLen := by
  obtain ⟨es, clock, _, h⟩ := h
  rw [← h.size]
  exact h.fit.size
theorem wf64 {x : Int} (h : InR x) : (Lit.int .i64 x).wf = true := WalkArith.wf_i64 (by unfold InR at h; omega)
/-- `v, ok := m[x]`. -/
theorem MpA.look_no (h : MpA w b Q p) {x : Int} (hx : InR x) (hn : ∀ i ∈ Q, (i : Int) ≠ x) : (Instr.lookup 41 (.map (some b)) (.int .i64 x) true).run Try.prog w = .ok (.tuple #[.pointer none, .bool false]) w := by
  obtain ⟨es, clock, hb, h⟩ := h
  rcases Maps.fit_look true keyed3 Try.underlying41 (zeroPL w) hb h.fit (keyOf_int_mk Try.underlying3 (wf64 hx)) with ⟨hrun, _⟩ | ⟨e0, y, he, hk, _⟩
  · rw [hrun]; rfl
  · obtain ⟨i, hi, hk2, _⟩ := h.mem he
    rw [hk] at hk2
    exact absurd (int_inj hk2).symm (hn i hi)
theorem MpA.look (h : MpA w b Q p) {i : Nat} (hx : InR (i : Int)) (hi : i ∈ Q) : (Instr.lookup 41 (.map (some b)) (.int .i64 (i : Int)) true).run Try.prog w = .ok (.tuple #[.pointer (some ⟨p i, 0, none⟩), .bool true]) w := by
  obtain ⟨es, clock, hb, h⟩ := h
  rcases Maps.fit_look true keyed3 Try.underlying41 (zeroPL w) hb h.fit (keyOf_int_mk Try.underlying3 (wf64 hx)) with ⟨_, hno, _⟩ | ⟨e0, y, he, hk, hrun, _⟩
  · obtain ⟨e, he, hk⟩ := h.get hi
    exact absurd hk (hno e he)
  · obtain ⟨j, _, hk2, hv⟩ := h.mem he
    rw [hk] at hk2
    have : i = j := nat_inj hk2
    subst this
    rw [hrun, hv]; rfl
set_option maxRecDepth 100000 in
/-- A number more. -/
theorem MpA.put (h : MpA w b Q p) {i : Nat} (hx : InR (i : Int)) (hn : i ∉ Q) (hl : Q.length < maxLen) (hp : ∀ j ∈ Q, p' j = p j) :
    ∃ w', (Instr.mapUpdate 41 (.map (some b)) (.int .i64 (i : Int)) (.pointer (some ⟨p' i, 0, none⟩))).run Try.prog w = .ok () w' ∧ MpA w' b (Q ++ [i]) p' ∧ w.grownBy w' (some b) ∧ w'.heap.size = w.heap.size := by
  obtain ⟨es, clock, hb, h⟩ := h
  have hkey : keyOf Try.prog 3 (.int .i64 (i : Int)) = some (.int .i64 i) := keyOf_int_mk Try.underlying3 (wf64 hx)
  have hsz := h.size
  have F := h.fit
  have hsp : ∀ {x : MapEntry}, (es.push x).size ≤ maxLen := by intro x; rw [Array.size_push, hsz]; exact Nat.succ_le_of_lt hl
  rcases keyed3.find w hkey es.toList (fun e he => by obtain ⟨y, hy⟩ := F.reads e he; exact ⟨_, rd_key hy⟩) with ⟨h1, h2⟩ | ⟨j, e0, h1, h2, h3⟩
  · refine ⟨setBlock w b (.map (es.push ⟨.int .i64 (i : Int), .pointer (some ⟨p' i, 0, none⟩), clock⟩) (clock + 1)), ?_, ⟨_, _, heap_setBlock_same hb _, ⟨⟨hsp, stamped_push F.stamped h2, ?_⟩, ?_⟩⟩, ?_, by simp [setBlock]⟩
    · simp [Instr.mapUpdate, run_underlying Try.underlying41, MapKept.run_getObj_map hb, keyed3.check w false hkey, h1, MapKept.run_setObj_map _ hb, Result.andThen, setBlock]
    · intro e he
      simp only [Array.toList_push, List.mem_append, List.mem_singleton] at he
      rcases he with he | rfl
      · exact F.reads e he
      · obtain ⟨y, hy⟩ := anyR_at (.pointer (some ⟨p' i, 0, none⟩))
        exact ⟨_, rd_mk hkey hy⟩
    · rw [Array.toList_push, List.map_append, h.es, List.map_append]
      have e1 : Q.map (ent p') = Q.map (ent p) := List.map_congr_left fun j hj => by
        unfold ent
        rw [hp j hj]
      rw [e1]
      rfl
    · exact ⟨rfl, rfl, rfl, by simp [setBlock], fun i _ hi => heap_setBlock_other hb _ (fun e => hi (by rw [e]))⟩
  · exfalso
    obtain ⟨y, hy, hk2, _⟩ := h.mem (List.mem_of_getElem? h2)
    rw [h3] at hk2
    have : i = y := nat_inj hk2
    exact hn (this ▸ hy)
theorem MpA.made (w : World) (p : Nat → Nat) : MpA (w.alloc (.map #[] 0)) w.heap.size [] p := ⟨#[], 0, heap_alloc_new w _, ⟨⟨by simp [maxLen], (stamped_iff _ _).2 ⟨by simp, by simp, by simp⟩, by simp⟩, rfl⟩⟩

/-- A range over the map is under way: D has been met. -/
def Itr (w : World) (b r : Nat) (Q D : List Nat) (p : Nat → Nat) : Prop :=
  ∃ es clock since seen c0, w.heap[b]? = some (.map es clock) ∧ EsAt es clock Q p ∧ w.heap[r]? = some (.mapIter (some b) since seen c0) ∧ (∀ x ∈ es.toList, x.born < since) ∧ since ≤ c0 ∧ since ≤ clock ∧
    (∀ (j : Nat) (e : MapEntry) (i : Nat), es.toList[j]? = some e → Q[j]? = some i → seen.contains e.born = decide (i ∈ D)) ∧ D.Nodup ∧ ∀ i ∈ D, i ∈ Q
theorem Itr.map (h : Itr w b r Q D p) : MpA w b Q p := by
  obtain ⟨es, clock, _, _, _, hb, h, _⟩ := h
  exact ⟨es, clock, hb, h⟩
theorem Itr.lt (h : Itr w b r Q D p) : r < w.heap.size := by
  obtain ⟨es, clock, _, _, _, _, _, hr, _⟩ := h
  exact (Array.getElem?_eq_some_iff.1 hr).1
theorem Itr.ne (h : Itr w b r Q D p) : r ≠ b := by
  obtain ⟨es, clock, _, _, _, hb, _, hr, _⟩ := h
  intro e
  rw [e, hb] at hr
  cases hr
theorem Itr.block (h : Itr w b r Q D p) (e1 : w'.heap[b]? = w.heap[b]?) (e2 : w'.heap[r]? = w.heap[r]?) : Itr w' b r Q D p := by
  obtain ⟨es, clock, since, seen, c0, hb, h, hr, h2⟩ := h
  exact ⟨es, clock, since, seen, c0, e1.trans hb, h, e2.trans hr, h2⟩
theorem MpA.range (h : MpA w b Q p) : ∃ w', (Instr.range 41 (.map (some b))).run Try.prog w = .ok (.pointer (some ⟨w.heap.size, 0, none⟩)) w' ∧ Itr w' b w.heap.size Q [] p ∧ Below w.heap.size w w' ∧ w.heap.size < w'.heap.size := by
  have hlt := h.lt
  obtain ⟨es, clock, hb, h⟩ := h
  exact ⟨_, run_range_map w 41 3 69 b es clock Try.underlying41 hb, ⟨es, clock, clock, #[], clock, ((MapKept.heap_alloc w _).2 b hlt).trans hb, h, (MapKept.heap_alloc w _).1, h.fit.stamped.1, Nat.le_refl _, Nat.le_refl _, fun j e i _ _ => by simp, List.nodup_nil, fun i hi => by cases hi⟩, bnew _ _, by simp⟩
theorem entry_at {es : Array MapEntry} {x : MapEntry} (hx : x ∈ es.toList) : ∃ j : Nat, es.toList[j]? = some x := List.mem_iff_getElem?.1 hx
/-- The step. -/
theorem Itr.next (h : Itr w b r Q D p) (ty : TypeId) :
    ((∀ i ∈ Q, i ∈ D) ∧ (Instr.next (.pointer (some ⟨r, 0, none⟩)) false ty).run Try.prog w = .ok (.tuple #[.bool false]) w) ∨
    ∃ i w', i ∈ Q ∧ i ∉ D ∧ (Instr.next (.pointer (some ⟨r, 0, none⟩)) false ty).run Try.prog w = .ok (.tuple #[.bool true, .int .i64 (i : Int), .pointer (some ⟨p i, 0, none⟩)]) w' ∧
      Itr w' b r Q (D ++ [i]) p ∧ w'.rangeLeft b r < w.rangeLeft b r ∧ w.grownBy w' (some r) ∧ w'.heap.size = w.heap.size ∧ (Instr.entry (.pointer (some ⟨r, 0, none⟩))).run Try.prog w' = .ok (.tuple #[.int .i64 (i : Int), .pointer (some ⟨p i, 0, none⟩)]) w' := by
  have hne := h.ne
  obtain ⟨es, clock, since, seen, c0, hb, hE, hr, hold, hsc, hsk, hsn, hnd, hsub⟩ := h
  have hst := (stamped_iff es clock).1 hE.fit.stamped
  rcases run_next_at (P := Try.prog) w ty r b since c0 seen es clock hr hb hold hsc with ⟨h0, hrun⟩ | ⟨e, he, w1, hal, hrun⟩
  · refine .inl ⟨fun i hi => ?_, hrun⟩
    obtain ⟨j, hj⟩ := List.mem_iff_getElem?.1 hi
    have hjl : j < es.toList.length := by
      have := (List.getElem?_eq_some_iff.1 hj).1
      rw [Array.length_toList, hE.size]; exact this
    have h1 := hsn j _ i (List.getElem?_eq_getElem hjl) hj
    rw [all_seen es seen h0 _ (List.getElem_mem hjl)] at h1
    simpa using h1.symm
  · obtain ⟨hem, hes⟩ := mem_left he
    obtain ⟨j0, hj0⟩ := entry_at hem
    obtain ⟨i, hi, hk, hv⟩ := hE.at hj0
    have hiD : i ∉ D := by
      have := hsn j0 e i hj0 hi
      rw [hes] at this
      simpa using this.symm
    have hr1 : w1.heap[r]? = some (.mapIter (some b) since seen c0) := by rcases hal with rfl | rfl <;> exact hr
    have hb1 : w1.heap[b]? = some (.map es clock) := by rcases hal with rfl | rfl <;> exact hb
    have hset := heap_set (o' := .mapIter (some b) since (seen.push e.born) clock) hr1
    have hb' : (setBlock w1 r (.mapIter (some b) since (seen.push e.born) clock)).heap[b]? = some (.map es clock) := (hset.2 b (fun e1 => hne e1.symm)).trans hb1
    have hsz1 : w1.heap.size = w.heap.size := by rcases hal with rfl | rfl <;> rfl
    have hentry := run_entry_at (P := Try.prog) _ r b since seen es clock e hset.1 hb' hem hst.2.1
    rw [hk, hv] at hrun hentry
    refine .inr ⟨i, _, List.mem_of_getElem? hi, hiD, hrun, ⟨es, clock, since, seen.push e.born, clock, hb', hE, hset.1, hold, hsk, hsk, fun j x y hx hy => ?_, ?_, fun y hy => ?_⟩, ?_, ?_, by simp [setBlock, hsz1], hentry⟩
    · rw [contains_push, hsn j x y hx hy]
      by_cases hbe : x.born = e.born
      · obtain rfl := born_inj hst.2.1 (List.mem_of_getElem? hx) hem hbe
        obtain ⟨y', hy', hk', _⟩ := hE.at hx
        rw [hy] at hy'
        injection hy' with hy'
        subst hy'
        rw [hk] at hk'
        have : y = i := (nat_inj hk').symm
        subst this
        simp
      · have : (x.born == e.born) = false := by simp [hbe]
        rw [this, Bool.or_false, decide_eq_decide]
        refine ⟨fun h => List.mem_append_left _ h, fun h => ?_⟩
        rcases List.mem_append.1 h with h | h
        · exact h
        · exfalso
          rw [List.mem_singleton.1 h] at hy
          obtain ⟨y', hy', hk', _⟩ := hE.at hx
          rw [hy] at hy'
          injection hy' with hy'
          subst hy'
          exact hbe (congrArg MapEntry.born (entry_eq_of_key hst.2.2 (List.mem_of_getElem? hx) hem (hk'.trans hk.symm)))
    · exact List.nodup_append.2 ⟨hnd, List.pairwise_singleton _ _, fun a ha b hb e => hiD (by rw [List.mem_singleton.1 hb] at e; exact e ▸ ha)⟩
    · rcases List.mem_append.1 hy with h | h
      · exact hsub y h
      · rw [List.mem_singleton.1 h]; exact List.mem_of_getElem? hi
    · have e1 : (setBlock w1 r (.mapIter (some b) since (seen.push e.born) clock)).rangeLeft b r = (leftOf es (seen.push e.born)).size := by unfold World.rangeLeft; rw [hb', show (setBlock w1 r (.mapIter (some b) since (seen.push e.born) clock)).heap[r]? = _ from hset.1]
      have e2 : w.rangeLeft b r = (leftOf es seen).size := by unfold World.rangeLeft; rw [hb, hr]
      rw [e1, e2]
      exact left_shrinks es seen e he
    · rcases hal with rfl | rfl <;> exact ⟨rfl, rfl, rfl, by simp [setBlock], fun i _ hi => hset.2 i (fun e1 => hi (by rw [e1]))⟩
/-- All have been met. -/
theorem Itr.all (h : Itr w b r Q D p) (ha : ∀ i ∈ Q, i ∈ D) : D.Perm Q := by
  have hq := h.map.nodup
  obtain ⟨es, clock, since, seen, c0, _, _, _, _, _, _, _, hnd, hsub⟩ := h
  exact (List.perm_ext_iff_of_nodup hnd hq).2 fun i => ⟨hsub i, ha i⟩
theorem Itr.done (h : Itr w b r Q D p) : D.Nodup ∧ ∀ i ∈ D, i ∈ Q := by
  obtain ⟨es, clock, since, seen, c0, _, _, _, _, _, _, _, hnd, hsub⟩ := h
  exact ⟨hnd, hsub⟩
end

section
variable {P : Program} (w : World) {ops : Array Oper} {rest : List Oper} {o : Oper} {a : Act} {Q' : Exit → Act → World → Prop}
/-- A map's range, at the operation. -/
theorem wpList_range_run (hg : o.guard = none) (m : Operand) (t : TypeId) (hop : o.op = Op.range t m) {b : Nat} {v : Value} {w' : World} (hm : a.eval m = .map (some b)) (hrun : (Instr.range t (.map (some b))).run P w = .ok v w')
    (hK : wpList P ops Q' rest (a.put o.dst v) w') : wpList P ops Q' (o :: rest) a w := by
  refine wpList_plain hg fun K' hK' => ?_
  unfold Oper.wp
  simp [execOp, hop, hm, hrun, Result.andThen]
  exact hK' _ _ hK
/-- The step's, at the operation. -/
theorem wpList_next_run (hg : o.guard = none) (it : Operand) (hop : o.op = Op.next it false) {r : Nat} {v : Value} {w' : World} (hit : a.eval it = .pointer (some ⟨r, 0, none⟩)) (hrun : (Instr.next (.pointer (some ⟨r, 0, none⟩)) false o.type).run P w = .ok v w')
    (hK : wpList P ops Q' rest (a.put o.dst v) w') : wpList P ops Q' (o :: rest) a w := by
  refine wpList_plain hg fun K' hK' => ?_
  unfold Oper.wp
  simp [execOp, hop, hit, hrun, Result.andThen]
  exact hK' _ _ hK
/-- A store into a map, at the operation. -/
theorem wpList_put_run (hg : o.guard = none) (m x v : Operand) (t : TypeId) (hop : o.op = Op.mapUpdate t m x v) {b : Nat} {xv vv : Value} {w' : World} (hm : a.eval m = .map (some b)) (hx : a.eval x = xv) (hv : a.eval v = vv) (hrun : (Instr.mapUpdate t (.map (some b)) xv vv).run P w = .ok () w')
    (hK : wpList P ops Q' rest (a.put o.dst (.tuple #[])) w') : wpList P ops Q' (o :: rest) a w := by
  refine wpList_plain hg fun K' hK' => ?_
  unfold Oper.wp
  simp [execOp, hop, hm, hx, hv, hrun, Result.andThen]
  exact hK' _ _ hK
end
end Go.Proofs.Yticcjelaenhigaa
