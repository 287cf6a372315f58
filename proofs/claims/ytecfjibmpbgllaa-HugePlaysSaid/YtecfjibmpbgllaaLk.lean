/- Package huge: Plan. -/
import Derived.Test.YtecfjibmpbgllaaLj
import Derived.WalkMore
namespace Go.Proofs.Ytecfjibmpbgllaa
open Go.RowKit Go.Shelf

attribute [local go_sem] Oper.semAt_some

/-- The deferred calls of loops that are over: blocks from N on and below M. -/
def DOK (N M : Nat) (ds : List Deferred) (W : World) : Prop :=
  ∃ Ds : List Nat, ds = Ds.map (fun D => { target := .collected D, args := #[] }) ∧ Ds.Nodup ∧ ∀ D ∈ Ds, N ≤ D ∧ D < M ∧ W.heap[D]? = some (.deferred (some []))
theorem DOK.nil (N M : Nat) (W : World) : DOK N M [] W := ⟨[], rfl, List.nodup_nil, fun D h => by cases h⟩
theorem DOK.keep {N M : Nat} {ds : List Deferred} {W W' : World} (h : DOK N M ds W) (hk : ∀ D, N ≤ D → D < M → ∀ o : Obj, W.heap[D]? = some o → o.isCells = false → W'.heap[D]? = some o) : DOK N M ds W' := by
  obtain ⟨Ds, h1, h2, h3⟩ := h
  exact ⟨Ds, h1, h2, fun D hD => ⟨(h3 D hD).1, (h3 D hD).2.1, hk D (h3 D hD).1 (h3 D hD).2.1 _ (h3 D hD).2.2 rfl⟩⟩
theorem DOK.more {N M M' : Nat} {ds : List Deferred} {W : World} (h : DOK N M ds W) (hM : M ≤ M') : DOK N M' ds W := by
  obtain ⟨Ds, h1, h2, h3⟩ := h
  exact ⟨Ds, h1, h2, fun D hD => ⟨(h3 D hD).1, Nat.lt_of_lt_of_le (h3 D hD).2.1 hM, (h3 D hD).2.2⟩⟩
theorem DOK.cons {N M D : Nat} {ds : List Deferred} {W : World} (h : DOK N M ds W) (hM : M ≤ D) (hN : N ≤ D) (hD : W.heap[D]? = some (.deferred (some []))) : DOK N (D + 1) ({ target := .collected D, args := #[] } :: ds) W := by
  obtain ⟨Ds, h1, h2, h3⟩ := h
  refine ⟨D :: Ds, by rw [h1]; rfl, List.nodup_cons.2 ⟨fun hx => by have := (h3 D hx).2.1; omega, h2⟩, fun E hE => ?_⟩
  rcases List.mem_cons.1 hE with rfl | hE
  · exact ⟨hN, Nat.lt_succ_self _, hD⟩
  · exact ⟨(h3 E hE).1, by have := (h3 E hE).2.1; omega, (h3 E hE).2.2⟩

theorem leaves_ok {n : Nat} {fn : Func} {tmps : Array Value} {R : Ending → World → Prop} {N M : Nat} : ∀ (Ds : List Nat) (W : World), Ds.Nodup → (∀ D ∈ Ds, N ≤ D ∧ D < M ∧ W.heap[D]? = some (.deferred (some []))) →
    (∀ W', Below N W W' → (∀ (i : Nat) (o : Obj), W.heap[i]? = some o → o.isCells = true → W'.heap[i]? = some o) → ∃ v, (results fn tmps).run Try.prog W' = .ok v W' ∧ R (.returned v) W') →
    LeavesInM Fence.wide n Try.prog fn tmps R (Ds.map (fun D => { target := .collected D, args := #[] })) .returning W
  | [], W, _, _, h => h W (Below.refl _ _) (fun _ _ h _ => h)
  | D :: Ds, W, hnd, hD, h => by
    obtain ⟨hN, hM, hb⟩ := hD D (List.mem_cons_self ..)
    refine ⟨by simp, .inl ⟨D, _, rfl, run_takeDeferred hb, ?_⟩⟩
    have hother : ∀ i, i ≠ D → (W.putObj D (.deferred none)).heap[i]? = W.heap[i]? := fun i hi => World.putObj_heap_other (fun e => hi e)
    have hbl : Below N W (W.putObj D (.deferred none)) := (Below.refl N W).grown (grownBy_putObj' W D _) (by have := (Array.getElem?_eq_some_iff.1 hb).1; omega) (fun k e => by cases e; omega)
    refine leaves_ok (M := M) Ds _ (List.nodup_cons.1 hnd).2 (fun E hE => ?_) (fun W' hb' hc => h W' (hbl.trans hb') (fun i o hi ho => hc i o ?_ ho))
    · have := hD E (List.mem_cons_of_mem _ hE)
      refine ⟨this.1, this.2.1, ?_⟩
      rw [hother E (fun e => (List.nodup_cons.1 hnd).1 (e ▸ hE))]
      exact this.2.2
    · by_cases e : i = D
      · subst e
        rw [hb] at hi
        cases hi
        cases ho
      · rw [hother i e]; exact hi


theorem keep_row {W W' : World} {row : Option Nat} {N : Nat} (h : W.grownBy W' row) (hr : ∀ r, row = some r → N ≤ r) : Keep (fun x => N ≤ x) W W' :=
  ⟨h.os, h.tape, h.output, h.size, fun i hi ho => h.block i hi (fun e => ho (hr i e.symm))⟩

theorem plan_end {w : World} {O : Nat → Prop} {B A cap M : Nat} {m : Mo} {want : Int} {Z3 Z6 Z7 c N : Nat} {Ac : Option Addr} {L : List Nat} {ds : List Deferred} {W : World} {l : List (Nat × Nat)} {tmps : Array Value} {v : Value} (h4 : tmps[4]? = some v) (h5 : tmps[5]? = some (.int .i64 0))
    (hr : PlR w O B A cap m want M Z3 Z6 Z7 Ac L c W) (hM : w.heap.size ≤ M) (hown : W.ownsRow M 55 2 v l.length (cellsR l)) (hd : DOK w.heap.size N ds W) :
    LeavesInM Fence.wide 9 Try.prog Try.f28 tmps (PlanPost w l) ds .returning W := by
  obtain ⟨Ds, rfl, hnd, hDs⟩ := hd
  obtain ⟨A', c', rfl, hR⟩ := runs_of_owns (owns_base hown hM)
  refine leaves_ok Ds W hnd hDs (fun W' hb hc => ⟨.tuple #[.slice A' l.length c', .int .i64 0], ?_, A', c', rfl, ?_, ?_⟩)
  · simp [results, Try.results28, go_sem, h4, h5]
  · rcases hown.2 with ⟨hv, h0⟩ | ⟨g, cap', cur, hv, hbg, hg, _⟩
    · exact fun i a b hi => by have := (List.getElem?_eq_some_iff.1 hi).1; omega
    · intro i a b hi
      obtain ⟨g', e, q1, q2, q3, q4⟩ := hR i a b hi
      have hgg : g' = g := by cases hv; cases e; rfl
      subst hgg
      have hcell : W'.heap[g']? = W.heap[g']? := (hc g' _ hg rfl).trans hg.symm
      exact ⟨g', e, q1, Nat.lt_of_lt_of_le q2 hb.size, (World.cell?_of_block (w := W) (a := ⟨g', _, none⟩) hcell).trans q3, (World.cell?_of_block (w := W) (a := ⟨g', _, none⟩) hcell).trans q4⟩
  · have hbw := hr.bel
    exact ⟨hb.os.trans hbw.os, hb.tape.trans hbw.tape, hb.output.trans hbw.output, Nat.le_trans hbw.size hb.size, fun i hi => (hb.block i hi).trans (hbw.block i hi)⟩

theorem wpIn_scope {n : Nat} {c : Code} {Q : Exit → Act → World → Prop} {a : Act} {w : World} (h : c.wpIn Fence.wide n Try.prog (Exit.noGoto Q) a w) : (Code.scope c).wpIn Fence.wide n Try.prog Q a w := wpIn_wide.2 (wp_scope_straight (wpIn_wide.1 h))

/-- What the loop over the candidates knows. -/
structure PlRel (w : World) (O : Nat → Prop) (B A cap : Nat) (m : Mo) (want : Int) (M Z3 Z6 Z7 : Nat) (Ac : Option Addr) (L : List Nat) (k : Nat) (l : List (Nat × Nat)) (ds : List Deferred) (W : World) : Prop where
  hk : k ≤ L.length
  r : PlR w O B A cap m want M Z3 Z6 Z7 Ac L (sumR l) W
  v : PlV M Z6 l W
  len : l.length ≤ 17 * k
  sum : sumR l ≤ 272 * k
  eq : pl want (allR m.S L) 0 = l ++ pl want (allR m.S (L.drop k)) (sumR l)
  dok : DOK w.heap.size W.heap.size ds W

/-- How a round is left that breaks off. -/
def PlX (w : World) (O : Nat → Prop) (B A cap : Nat) (m : Mo) (want : Int) (M Z3 Z6 Z7 : Nat) (Ac : Option Addr) (L : List Nat) (l : List (Nat × Nat)) (ds : List Deferred) (N : Nat) (c : Code) (pre : List Rn) (W : World) : Prop :=
  c = .exit 0 ∧ ∃ pre' : List Rn, (∃ r, pre = pre' ++ [r]) ∧ want ≤ (sumR (l ++ pre'.map (·.1)) : Nat) ∧ pl want (pre'.map (·.1)) (sumR l) = pre'.map (·.1) ∧ PlV M Z6 (l ++ pre'.map (·.1)) W ∧
    PlR w O B A cap m want M Z3 Z6 Z7 Ac L (sumR (l ++ pre'.map (·.1))) W ∧ DOK w.heap.size N ds W

/-- The measure of the loop over the candidates. -/
def muP (N : Nat) (a : Act) (_ : World) : Nat := N - (intOf (a.tmps.getD 19 undef)).toNat

theorem two_block (W : World) (a b : Value) (t : TypeId) : (W.alloc (.cells #[a, b] t)).heap[W.heap.size]? = some (.cells #[a, b] t) := World.alloc_heap_new W _

set_option maxRecDepth 100000 in
set_option maxHeartbeats 4000000 in
theorem Plan_go {O : Nat → Prop} {B : Nat} {m : Mo} {w : World} (want : Int) (h : Tk w O B m) (hw : 0 ≤ want) :
    Calls Try.prog 28 #[.pointer (some ⟨B, 0, none⟩), .int .i64 want] w (PlanPost w (planM m want)) := by
  obtain ⟨W3, hW3⟩ : ∃ W3, (((w.alloc (.cells #[.int .i64 want] 3)).alloc (.cells #[.slice none 0 0] 50)).alloc (.cells #[.int .i64 0] 3)).setCell ⟨w.heap.size + 1 + 1, 0, none⟩ (.int .i64 0) = W3 := ⟨_, rfl⟩
  have hb3 : Below w.heap.size w W3 := by rw [← hW3]; exact (((bnew _ _).alloc (by simp) _).alloc (by simp; omega) _).setCell (p := ⟨w.heap.size + 1 + 1, 0, none⟩) (by show w.heap.size ≤ w.heap.size + 1 + 1; omega) _
  have hz3 : W3.heap.size = w.heap.size + 1 + 1 + 1 := by rw [← hW3]; simp
  have x3 : Boxed W3 w.heap.size 3 (.int .i64 want) := by rw [← hW3]; exact (((Boxed.new w 3 _).alloc _).alloc _).other (by omega) _
  have x6 : Boxed W3 (w.heap.size + 1) 50 (.slice none 0 0) := by
    rw [← hW3]
    have := Boxed.new (w.alloc (.cells #[.int .i64 want] 3)) 50 (.slice none 0 0)
    rw [World.size_alloc] at this
    exact (this.alloc _).other (by omega) _
  have x7 : Boxed W3 (w.heap.size + 1 + 1) 3 (.int .i64 0) := by
    rw [← hW3]
    have := Boxed.new ((w.alloc (.cells #[.int .i64 want] 3)).alloc (.cells #[.slice none 0 0] 50)) 3 (.int .i64 0)
    rw [World.size_alloc, World.size_alloc] at this
    exact this.set _
  have HMD := Lib.hid (fun (W : World) (hb : Below w.heap.size w W) => made_any (h.below hb))
  have HCD := Lib.hid (candidates_any (h.below hb3))
  have hOL := ordN_len m.S m.h
  have h64 := h.wf.h2
  have hpm : planM m want = pl want (allR m.S (ordN m.S m.h)) 0 := rfl
  have hmem : ∀ x ∈ ordN m.S m.h, x < m.h := fun x hx => (((ordN_ok m.S m.h h64).mem x).1 hx).1
  obtain ⟨A, cap, hA⟩ := h
  have hOlt := hA.lt
  obtain ⟨L, hL⟩ : ∃ L, ordN m.S m.h = L := ⟨_, rfl⟩
  rw [hL] at HCD hOL hpm hmem
  rw [hpm]
  have hL64 : L.length ≤ 64 := by omega
  have HMEM := Lib.hid hmem
  have HA := Lib.hid hA
  have HB3 := Lib.hid hb3
  have HX := Lib.hid (And.intro x3 (And.intro x6 x7))
  have c3 := x3.cell
  have hM3 := HMD.out _ (bnew w (.cells #[.int .i64 want] 3))
  have HM3 := Lib.hid hM3
  obtain ⟨i0, hi, hz0, hz1, hz2⟩ := info_parts Try.info55
  have HI := Lib.hid (And.intro hi (And.intro hz0 (And.intro hz1 hz2)))
  clear hL hpm hmem hA hb3 hOL h64 HMD hM3 hi hz0 hz1 hz2 x3 x6 x7
  refine (callsIn_wide (n := 9)).1 ?_
  refine callsIn_of_wp_marks Try.func28 rfl trivial ?_ rfl
  simp only [Try.ntmps28, List.size_toArray, List.length_cons, List.length_nil, Nat.reduceAdd, Nat.reduceSub, Array.replicate_succ, Array.replicate_zero, List.push_toArray, List.append_toArray, List.nil_append, List.cons_append]
  gi_wp2
  refine wpIn_scope ?_
  gi_wp2_with (first | (refine ⟨trivial, ?_⟩; gi_at_call 39; refine (callsIn_wide.2 HM3.out).mono ?_; rintro x _ ⟨rfl, rfl⟩))
  refine wpIn_label ?_
  gi_wp2_with (first | (refine ⟨trivial, ?_⟩; gi_at_call 59; refine (callsIn_wide.2 HCD.out).mono ?_; rintro x W4 ⟨Ac, cc, rfl, hN, hb4⟩; have HN := Lib.hid hN; have HB4 := Lib.hid hb4; clear hN hb4))
  clear c3 hW3
  obtain ⟨Z3, Z6, Z7, e3, e6, e7⟩ : ∃ Z3 Z6 Z7, w.heap.size = Z3 ∧ w.heap.size + 1 = Z6 ∧ w.heap.size + 1 + 1 = Z7 := ⟨_, _, _, rfl, rfl, rfl⟩
  have HE := Lib.hid (And.intro e3 (And.intro e6 e7))
  have hX := HX.out
  rw [e7, e6, e3] at hX ⊢
  obtain ⟨M, hMe⟩ : ∃ M, W4.heap.size = M := ⟨_, rfl⟩
  have h34 := HB4.out.size
  have hCs : Cs w O M Z3 Z6 Z7 := ⟨hOlt, by omega, by omega, by omega, by omega, by omega, by omega, by omega, by omega, by omega⟩
  have hR0 : PlRel w O B A cap m want M Z3 Z6 Z7 Ac L 0 [] [] W4 :=
    ⟨Nat.zero_le _, ⟨HA.out.below (HB3.out.trans (HB4.out.mono HB3.out.size)), (HB4.out.block _ hX.1.lt).trans hX.1, (HB4.out.block _ hX.2.2.lt).trans hX.2.2, fun i x hi => by
      obtain ⟨g, e, q1, q2, q3⟩ := HN.out i x hi
      exact ⟨g, e, by omega, by omega, by omega, q2, q3⟩, HB3.out.trans (HB4.out.mono HB3.out.size), by omega⟩, ⟨_, (HB4.out.block _ hX.2.1.lt).trans hX.2.1, World.ownsRow_nil _ _ _ _, trivial⟩, Nat.zero_le _, Nat.zero_le _, rfl, DOK.nil _ _ _⟩
  have HR0 := Lib.hid hR0
  have HCs := Lib.hid hCs
  clear hR0 hX e3 e6 e7 h34 hMe hz3
  refine wpIn_loop (fun a' W => ∃ (u1 u2 u4 u5 u8 u9 u10 u11 u12 u13 u14 u15 u16 u20 u21 u22 u23 u24 u25 u26 u27 u28 u29 u30 u31 u32 u33 u34 u35 u36 u37 u38 u39 : Value) (k : Nat) (l : List (Nat × Nat)) (ds : List Deferred), PlRel w O B A cap m want M Z3 Z6 Z7 Ac L k l ds W ∧ a' = { tmps := #[.pointer (some ⟨B, 0, none⟩), u1, u2, .pointer (some ⟨Z3, 0, none⟩), u4, u5, .pointer (some ⟨Z6, 0, none⟩), .pointer (some ⟨Z7, 0, none⟩), u8, u9, u10, u11, u12, u13, u14, u15, u16, .slice Ac L.length cc, .int .i64 L.length, .int .i64 k, u20, u21, u22, u23, u24, u25, u26, u27, u28, u29, u30, u31, u32, u33, u34, u35, u36, u37, u38, u39], defers := ds }) (muP L.length) ⟨_, _, _, _, _, _, _, _, _, _, _, _, _, _, _, _, _, _, _, _, _, _, _, _, _, _, _, _, _, _, _, _, _, _, _, _, HR0.out, rfl⟩ ?_
  clear HR0
  rintro _ W1 ⟨u1, u2, u4, u5, u8, u9, u10, u11, u12, u13, u14, u15, u16, u20, u21, u22, u23, u24, u25, u26, u27, u28, u29, u30, u31, u32, u33, u34, u35, u36, u37, u38, u39, k, l, ds, hR, rfl⟩
  have HR := Lib.hid hR
  have hkL := hR.hk
  have x3 := hR.r.x3.cell
  have x7 := hR.r.x7.cell
  obtain ⟨v6, bx6, hrow6, _⟩ := hR.v
  have x6 := bx6.cell
  by_cases hlt : k < L.length
  · obtain ⟨x, hx⟩ : ∃ x, L[k]? = some x := ⟨_, List.getElem?_eq_getElem hlt⟩
    obtain ⟨g, rfl, q1, q2, q3, q4, q5⟩ := hR.r.ca k x hx
    have hxm := HMEM.out x (List.mem_of_getElem? hx)
    have HXX := Lib.hid hx
    have HXM := Lib.hid hxm
    clear hR hx hxm bx6 hrow6
    gi_wp2_with fail
    refine ⟨trivial, (callsIn_wide.2 (backedRuns_any B x W1)).mono ?_⟩
    rintro e W5 ⟨rfl, hW5⟩
    have hb5 : Below W1.heap.size W1 W5 := by rw [← hW5]; exact (bnew _ _).alloc (by simp) _
    have hx2 : Boxed W5 W1.heap.size 25 (.pointer (some ⟨B, 0, none⟩)) := by rw [← hW5]; exact (Boxed.new W1 25 _).alloc _
    have hx1 : Boxed W5 (W1.heap.size + 1) 3 (.int .i64 x) := by
      rw [← hW5]
      have := Boxed.new (W1.alloc (.cells #[.pointer (some ⟨B, 0, none⟩)] 25)) 3 (.int .i64 (x : Int))
      rwa [World.size_alloc] at this
    have hsz5 : W5.heap.size = W1.heap.size + 2 := by rw [← hW5]; simp
    have hR5 := HR.out.r.below HCs.out hb5
    have hV5 := HR.out.v.below hb5
    have hD5 := (HR.out.dok.keep (W' := W5) (fun D _ hD o ho _ => (hb5.block D hD).trans ho)).more hb5.size
    have hI5 : ItIn W5 O B A cap m (W1.heap.size + 1) W1.heap.size x := ⟨hR5.tk, hx1, hx2⟩
    have hM5 := hR5.hM
    have hMW := HR.out.r.hM
    have hw3 := HCs.out.l3
    have hw3m := HCs.out.m3
    have hOl : ∀ y, O y → y < W5.heap.size := fun y hy => by have := HCs.out.o y hy; omega
    have HSZ5 := Lib.hid hsz5
    clear hW5 hb5 x3 x6 x7 hx1 hx2
    clear hsz5
    gi_wp2
    have hsz5 := HSZ5.out
    refine wpIn_rangeFunc_ownH rfl (by omega) (gf := 78) (lb := #[.pointer (some ⟨W1.heap.size + 1, 0, none⟩), .pointer (some ⟨W1.heap.size, 0, none⟩)]) rfl trivial (enters_of Try.func78 (by kernel_rfl) rfl)
      (runs_stops 8 HXM.out W5 hI5) kpI_t (kpI_b hOl (by omega) (by omega)) (Below.refl _ _) (fun _ => rfl)
      (fun pre W => PlV M Z6 (l ++ pre.map (·.1)) W ∧ PlR w O B A cap m want M Z3 Z6 Z7 (some ⟨g, 0, none⟩) L (sumR (l ++ pre.map (·.1))) W ∧ ItIn W O B A cap m (W1.heap.size + 1) W1.heap.size x ∧ DOK w.heap.size W5.heap.size ds W ∧ pl want (pre.map (·.1)) (sumR l) = pre.map (·.1))
      (PlX w O B A cap m want M Z3 Z6 Z7 (some ⟨g, 0, none⟩) L l ds W5.heap.size)
      (OwnFrom.and (Own.from (holdsRow_own M Z6 50 55 2 (fun pre : List Rn => (l ++ pre.map (·.1)).length) (fun pre => cellsR (l ++ pre.map (·.1))) (fun _ _ => True)) _) (fun pre W W' row hs hg hr => by
        obtain ⟨s1, s2, s3, s4⟩ := hs
        have hk := keep_row hg (fun r e => (hr r e).1)
        exact ⟨s1.keep HCs.out (hk.mono fun y _ hy => .inr (by omega)), s2.keepN hk hOl (by omega) (by omega), s3.keep (fun D _ hD o ho _ => (hk.block D (Array.getElem?_eq_some_iff.1 ho).1 (by omega)).trans ho), s4⟩))
      (fun c pre W W' row hs hg hr => by
        obtain ⟨s1, pre', s2, s3, s4, s5, s6, s7⟩ := hs
        have hk := keep_row hg (fun r e => (hr r e).1)
        exact ⟨s1, pre', s2, s3, s4, (Own.from (holdsRow_own M Z6 50 55 2 (fun pre : List Rn => (l ++ pre.map (·.1)).length) (fun pre => cellsR (l ++ pre.map (·.1))) (fun _ _ => True)) _) pre' W W' row s5 hg hr, s6.keep HCs.out (hk.mono fun y _ hy => .inr (by omega)), s7.keep (fun D _ hD o ho _ => (hk.block D (Array.getElem?_eq_some_iff.1 ho).1 (by omega)).trans ho)⟩)
      ⟨by simpa using hV5, by simpa using hR5, hI5, hD5, rfl⟩
      (fun r a' W => ∃ Bx, W5.heap.size ≤ Bx ∧ W.heap[Bx]? = some (.cells #[.int .i64 (r.1.1 : Int), .int .i64 (r.1.2 : Int)] 55) ∧ (∀ v, Boxed W Z6 50 v → v.ownBlock ≠ some Bx) ∧ a' = { tmps := #[.pointer (some ⟨B, 0, none⟩), u1, u2, .pointer (some ⟨Z3, 0, none⟩), u4, u5, .pointer (some ⟨Z6, 0, none⟩), .pointer (some ⟨Z7, 0, none⟩), u8, .int .i64 x, .pointer (some ⟨Bx, 0, none⟩), u11, u12, u13, u14, u15, u16, .slice (some ⟨g, 0, none⟩) L.length cc, .int .i64 L.length, .int .i64 k, .bool true, .pointer (some ⟨g, k, none⟩), .int .i64 x, .pointer (some ⟨B, 0, none⟩), .int .i64 x, .func (.func 78) #[] #[.pointer (some ⟨W1.heap.size + 1, 0, none⟩), .pointer (some ⟨W1.heap.size, 0, none⟩)], .agg #[.int .i64 (r.1.1 : Int), .int .i64 (r.1.2 : Int)], u27, u28, u29, u30, u31, u32, u33, u34, u35, u36, u37, u38, u39], defers := [] })
      (fun r a' _ X Y row hs hg hr => by
        obtain ⟨Bx, h1, h2, h3, h4⟩ := hs
        have hBX := (Array.getElem?_eq_some_iff.1 h2).1
        have hz6 := HCs.out.m6
        exact ⟨Bx, h1, (hg.block Bx hBX (fun e => by obtain ⟨_, o, ho, hc⟩ := hr Bx e.symm; rw [h2] at ho; cases ho; cases hc)).trans h2, fun v hv => h3 v ((hg.block Z6 (by omega) (fun e => by have := (hr Z6 e.symm).1; omega)).symm.trans hv), h4⟩)
      ?assign ?body ?done ?stop
    case assign =>
      rintro lw pre r W K ⟨s1, s2, s3, s4, s5⟩ hK
      have HS := Lib.hid (And.intro s1 (And.intro s2 (And.intro s3 (And.intro s4 s5))))
      clear s1 s2 s3 s4 s5
      unfold encN encR
      gi_wp2
      have hszW : W5.heap.size ≤ W.heap.size := by have := HS.out.2.2.1.x1.lt; omega
      obtain ⟨v6, b6, r6, _⟩ := HS.out.1
      refine hK _ _ ((KeepsOthers.alloc _ _).from _) (fun h => h.below (bnew _ _)) ⟨HS.out.1.below (bnew _ _), HS.out.2.1.below HCs.out (bnew _ _), HS.out.2.2.1.below (bnew _ _), HS.out.2.2.2.1.keep (fun D _ _ o ho _ => ((bnew W _).block D (Array.getElem?_eq_some_iff.1 ho).1).trans ho), HS.out.2.2.2.2⟩ ⟨W.heap.size, hszW, World.alloc_heap_new W _, fun v hv e => ?_, rfl⟩
      have hv6 : Boxed (W.alloc (.cells #[.int .i64 (r.1.1 : Int), .int .i64 (r.1.2 : Int)] 55)) Z6 50 v6 := b6.alloc _
      have heq := hv.symm.trans hv6
      injection heq with heq
      injection heq with heq
      have hvv : v = v6 := by simpa using heq
      have := (r6.lt _ (hvv ▸ e)).2
      omega
    case body =>
      rintro lw pre r a' W hlw _ ⟨s1, s2, s3, s4, s5⟩ ⟨Bx, hBx, bX, hBn, rfl⟩ hpl
      have y7 := s2.x7.cell
      have y3 := s2.x3.cell
      obtain ⟨v6, b6, r6, _⟩ := s1
      have y6 := b6.cell
      have z0 : W.cell? ⟨Bx, 0, none⟩ = some (.int .i64 (r.1.1 : Int)) := by simp [World.cell?, bX]
      have z1 : W.cell? ⟨Bx, 1, none⟩ = some (.int .i64 (r.1.2 : Int)) := by simp [World.cell?, bX]
      have hBXl := (Array.getElem?_eq_some_iff.1 bX).1
      have hsl := HR.out.sum
      have hll := HR.out.len
      have hsp := sumR_le pre
      have hr16 := r.2
      have hlen : (l ++ pre.map (·.1)).length ≤ 17 * k + 17 := by rw [List.length_append, List.length_map]; omega
      have hsum : sumR (l ++ pre.map (·.1)) ≤ 272 * k + 272 := by rw [sumR_app]; omega
      have hb6 := hBn v6 b6
      have HS := Lib.hid (And.intro s2 (And.intro s3 (And.intro s4 s5)))
      have HB6 := Lib.hid (And.intro b6 r6)
      have HBX := Lib.hid bX
      have HB6N := Lib.hid hb6
      have hml : pre.map (·.1) ++ [r.1] = (pre ++ [r]).map (·.1) := by simp
      have HML := Lib.hid hml
      have hsr : sumR (l ++ pre.map (·.1)) + r.1.2 = sumR (l ++ (pre ++ [r]).map (·.1)) := by rw [← hml, ← List.append_assoc, sumR_app (l ++ pre.map (·.1)), sumR_cons, sumR_nil]; omega
      have HSR := Lib.hid hsr
      have HSA := Lib.hid (sumR_app l (pre.map (·.1)))
      clear s2 s3 s4 s5 b6 r6 bX hBn hb6 hml hsr hsp hsl hll hsz5
      generalize hc : sumR (l ++ pre.map (·.1)) = c at y7 hsum
      have HC := Lib.hid hc
      clear hc
      generalize hrA : r.1.1 = ra at z0 z1
      generalize hrB : r.1.2 = rb at z0 z1 hr16
      have HRA := Lib.hid hrA
      have HRB := Lib.hid hrB
      clear hrA hrB
      by_cases hwc : want ≤ c
      · gi_wp2
        exact ⟨KeepsFrom.refl _ _, rfl, pre, ⟨r, rfl⟩, by rw [HC.out]; exact hwc, HS.out.2.2.2, ⟨v6, HB6.out.1, HB6.out.2, trivial⟩, HS.out.1, HS.out.2.2.1⟩
      · obtain ⟨hi, hz0, hz1, hz2⟩ := HI.out
        have hMW2 := HS.out.1.hM
        have HWC := Lib.hid hwc
        generalize hn6 : (l ++ pre.map (·.1)).length = n6 at hlen
        have HN6 := Lib.hid hn6
        have r6 := HB6.out.2
        rw [hn6] at r6
        obtain ⟨A6, c6, rfl⟩ := owns_form r6
        have HR6 := Lib.hid r6
        clear hn6 r6
        have e1 : wrap64 ((c : Int) + (rb : Int)) = (c : Int) + (rb : Int) := IntWalk.wrap64_in _ (by omega)
        gi_wp2_with (gi_at_builtin; refine wpListIn_append_own _ rfl _ _ 50 rfl M 55 i0 (.agg #[.int .i64 0, .int .i64 0]) 2 16 Try.underlying50 hi hz0 hz1 hz2 rfl (by decide) _ _ _ rfl (HR6.out.alloc _) ⟨W.heap.size, 0, none⟩ 1 1 [.int .i64 (ra : Int), .int .i64 (rb : Int)] rfl rfl (cells2_new W _ _ _) (by simp [Value.oneCell']) (by unfold maxLen; omega) (by omega) (by simp; omega) ?_; intro v' w1 hown' hgrow _; obtain ⟨g', cap', rfl⟩ := ownsRow_succ hown'; have hpush := HS.out.1.push (x := r.1) HCs.out HB6.out.1 HB6.out.2 (by rw [HN6.out, HRA.out, HRB.out]; exact hown') hgrow; have HP := Lib.hid hpush; have b7 := hpush.1.x7; have y8 := hpush.2.2.2.2.2.cell; have f8 := hpush.2.2.2.2.2.frozen; have y9 := b7.cell; rw [HC.out] at y9; have f9 := b7.frozen; have bX2 : w1.heap[Bx]? = some (.cells #[.int .i64 (ra : Int), .int .i64 (rb : Int)] 55) := (hgrow.block Bx (by simp; omega) (fun e => HB6N.out e.symm)).trans ((Below.heap_alloc _ _ _ hBXl).trans (by rw [HBX.out, HRA.out, HRB.out])); have hz6ne : Bx ≠ Z6 := (by have := HCs.out.m6; omega); have z3 : (w1.setCell ⟨Z6, 0, none⟩ (.slice (some ⟨g', 0, none⟩) (n6 + 1) cap')).cell? ⟨Bx, 1, none⟩ = some (.int .i64 (rb : Int)) := (by rw [World.cell?_of_block (w := w1) (a := ⟨Bx, 1, none⟩) (Below.heap_setCell _ _ _ _ hz6ne)]; simp [World.cell?, bX2]); clear bX2 hpush b7 hgrow hown')
        have h7 := HP.out.1.count HCs.out (c + rb)
        rw [show (((c + rb : Nat)) : Int) = (c : Int) + (rb : Int) from by omega] at h7
        have v7 := HP.out.2.1.count HCs.out (.int .i64 ((c : Int) + (rb : Int)))
        have hb67 := HCs.out.m6
        have hb77 := HCs.out.m7
        refine ⟨(HP.out.2.2.1.trans (KeepsOthers.setCell _ _ _)).from _, fun hh => ⟨(hh.tk.keep HP.out.2.2.2.1 (fun y hy hy2 => ?_)).keep (O1 := fun y => y = Z7) ((Keep.refl (fun y => y = Z7) _).set (a := ⟨Z7, 0, none⟩) (.inl rfl) _) (fun y hy hy2 => ?_), (HP.out.2.2.2.2.1 _ _ _ (by decide) (by omega) hh.x1).other (by omega) _, (HP.out.2.2.2.2.1 _ _ _ (by decide) (by omega) hh.x2).other (by omega) _⟩, ?_⟩
        · have := HCs.out.o y hy
          have := HCs.out.l6
          rcases hy2 with hy2 | hy2 <;> omega
        · have := HCs.out.o y hy
          have := HCs.out.l7
          omega
        · have hI2 := HS.out.2.1
          refine ⟨?_, ?_, ⟨(hI2.tk.keep HP.out.2.2.2.1 (fun y hy hy2 => ?_)).keep (O1 := fun y => y = Z7) ((Keep.refl (fun y => y = Z7) _).set (a := ⟨Z7, 0, none⟩) (.inl rfl) _) (fun y hy hy2 => ?_), (HP.out.2.2.2.2.1 _ _ _ (by decide) (by omega) hI2.x1).other (by omega) _, (HP.out.2.2.2.2.1 _ _ _ (by decide) (by omega) hI2.x2).other (by omega) _⟩, ?_, ?_⟩
          · rw [← HML.out, ← List.append_assoc]
            exact v7
          · rw [← HSR.out, HC.out, HRB.out]
            exact h7
          · have := HCs.out.o y hy
            have := HCs.out.l6
            rcases hy2 with hy2 | hy2 <;> omega
          · have := HCs.out.o y hy
            have := HCs.out.l7
            omega
          · exact HS.out.2.2.1.keep fun D _ hD o ho hcell => (HP.out.2.2.1.trans (KeepsOthers.setCell _ _ _)).same D o ho hcell
          · rw [← HML.out]
            exact pl_snoc HS.out.2.2.2 (by rw [← HSA.out, HC.out]; exact Int.not_le.2 HWC.out)
    case done =>
      rintro D xs W hD hS ⟨s1, s2, s3, s4, s5⟩ hK
      have HS1 := Lib.hid s1
      have HS2 := Lib.hid s2
      have hDlt := (Array.getElem?_eq_some_iff.1 hK).1
      have hDK := s4.cons hD (by omega) hK
      have HDK := Lib.hid (hDK.more (M' := W.heap.size) (by omega))
      have hdrop : L.drop k = x :: L.drop (k + 1) := by
        rw [List.drop_eq_getElem_cons hlt]
        congr 1
        have := HXX.out
        rw [List.getElem?_eq_getElem hlt] at this
        exact Option.some.inj this
      have heq := HR.out.eq
      rw [hdrop, allR_cons, ← hS, pl_app s5, ← List.append_assoc, ← sumR_app] at heq
      have HEQ := Lib.hid heq
      have hlx := sumR_le xs
      have hrl : (rs m.S (16 * x) 16 0).length ≤ 16 := rs_len _ _ _ _
      rw [← hS, List.length_map] at hrl
      have HLN := Lib.hid (show (l ++ xs.map (·.1)).length ≤ 17 * (k + 1) by rw [List.length_append, List.length_map]; have := HR.out.len; omega)
      have HSM := Lib.hid (show sumR (l ++ xs.map (·.1)) ≤ 272 * (k + 1) by rw [sumR_app]; have := HR.out.sum; omega)
      clear s1 s2 s3 s4 s5 hK hDK heq hS hdrop
      gi_wp2
      refine ⟨⟨_, _, _, _, _, _, _, _, _, _, _, _, _, _, _, _, _, _, _, _, _, _, _, _, _, _, _, _, _, _, _, _, _, k + 1, _, _, ⟨hlt, HS2.out, HS1.out, HLN.out, HSM.out, HEQ.out, HDK.out⟩, rfl⟩, ?_⟩
      simp [muP, intOf]
      omega
    case stop =>
      rintro D c pre W hD ⟨t, ht⟩ ⟨rfl, pre', ⟨r, rfl⟩, hwc, s5, s1, s2, s4⟩ hK
      have hDlt := (Array.getElem?_eq_some_iff.1 hK).1
      have hDK := s4.cons hD (by omega) hK
      have HDK := Lib.hid hDK
      have hdrop : L.drop k = x :: L.drop (k + 1) := by
        rw [List.drop_eq_getElem_cons hlt]
        congr 1
        have := HXX.out
        rw [List.getElem?_eq_getElem hlt] at this
        exact Option.some.inj this
      have heq := HR.out.eq
      rw [hdrop, allR_cons, ← ht, List.map_append, List.append_assoc, List.append_assoc, pl_app s5] at heq
      rw [pl_stop (w := want) (c := sumR l + sumR (pre'.map (·.1))) (by rw [← sumR_app]; exact hwc), List.append_nil] at heq
      have HEQ := Lib.hid heq
      obtain ⟨v6, b6, r6, _⟩ := s1
      have y6 := b6.cell
      have HS2 := Lib.hid s2
      have HR6 := Lib.hid r6
      clear s2 s4 s5 hK hDK heq hdrop b6 r6 ht hwc
      gi_wp2
      rw [HEQ.out]
      exact plan_end rfl rfl HS2.out (by have := HCs.out.l3; have := HCs.out.m3; omega) HR6.out HDK.out
  · have hkk : k = L.length := by omega
    have heq := HR.out.eq
    rw [hkk, List.drop_length] at heq
    have HEQ := Lib.hid (heq.trans (List.append_nil _))
    have HR6 := Lib.hid hrow6
    clear heq hrow6 bx6 hR x3 x7
    gi_wp2
    rw [HEQ.out]
    exact plan_end rfl rfl HR.out.r (by have := HCs.out.l3; have := HCs.out.m3; omega) HR6.out HR.out.dok

theorem plan_bad_end {w W : World} {tmps : Array Value} (h4 : tmps[4]? = some (.slice none 0 0)) (h5 : tmps[5]? = some (.int .i64 1)) (hb0 : Below w.heap.size w W) :
    LeavesInM Fence.wide 9 Try.prog Try.f28 tmps (fun e w' => e = .returned (.tuple #[.slice none 0 0, .int .i64 1]) ∧ Below w.heap.size w w') [] .returning W := by
  refine leaves_ok (N := w.heap.size) (M := 0) [] W List.nodup_nil (fun D h => by cases h) (fun W' hb hc => ⟨.tuple #[.slice none 0 0, .int .i64 1], ?_, rfl, hb0.trans hb⟩)
  simp [results, Try.results28, go_sem, h4, h5]

set_option maxHeartbeats 800000 in
theorem Plan_bad {O : Nat → Prop} {B : Nat} {m : Mo} {w : World} (want : Int) (h : Tk w O B m) (hw : want < 0) :
    Calls Try.prog 28 #[.pointer (some ⟨B, 0, none⟩), .int .i64 want] w fun e w' => e = .returned (.tuple #[.slice none 0 0, .int .i64 1]) ∧ Below w.heap.size w w' := by
  have HM := Lib.hid (made_any (h.below (bnew w (.cells #[.int .i64 want] 3))))
  clear h
  refine (callsIn_wide (n := 9)).1 ?_
  refine callsIn_of_wp_marks Try.func28 rfl trivial ?_ rfl
  simp only [Try.ntmps28, List.size_toArray, List.length_cons, List.length_nil, Nat.reduceAdd, Nat.reduceSub, Array.replicate_succ, Array.replicate_zero, List.push_toArray, List.append_toArray, List.nil_append, List.cons_append]
  gi_wp2
  refine wpIn_scope ?_
  gi_wp2_with (first | (refine ⟨trivial, ?_⟩; gi_at_call 39; refine (callsIn_wide.2 HM.out).mono ?_; rintro x _ ⟨rfl, rfl⟩))
  exact plan_bad_end rfl rfl (bnew w _)

end Go.Proofs.Ytecfjibmpbgllaa
