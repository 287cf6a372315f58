/- Package span: Taken, List; the library's Collect. -/
import Derived.Test.YtejfoefhaphacaaGreatLh
import Derived.Stop.RegionWithIn
namespace Go.Proofs.YtejfoefhaphacaaGreat
open Go.RowKit Go.Shelf

attribute [local go_sem] Oper.semAt_some

/-- A step that turns blocks of Zs, and rows of numbers. -/
theorem kpC_step {Zs : Nat → Prop} {X Y : World} {row : Option Nat} (h : X.grownBy Y row) (hr : ∀ g, row = some g → Zs g ∨ ∃ cur, X.heap[g]? = some (.cells cur 3 (0, 0))) : KpC Zs X Y :=
  ⟨h.size, fun i hi hz => h.block i hi.lt (fun e => by
    rcases hr i e.symm with h1 | ⟨cur, h1⟩
    · exact hz h1
    · obtain ⟨cs, t, d, h2, h3⟩ := hi
      rw [h1] at h2
      cases h2
      exact h3 rfl)⟩
theorem grown_set (W : World) (a : Addr) (v : Value) : W.grownBy (W.setCell a v) (some a.block) := ⟨rfl, rfl, rfl, by rw [World.size_setCell]; exact Nat.le_refl _, fun k _ hk => Below.heap_setCell _ _ _ _ (fun e => hk (by rw [e]))⟩
theorem grown_of {w w' : World} (h : Below w.heap.size w w') (row : Option Nat) : w.grownBy w' row := ⟨h.os, h.tape, h.output, h.size, fun k hk _ => h.block k hk⟩

/-- A list of numbers in memory, made since w. -/
def LstP (w : World) (L : List Nat) (e : Ending) (w' : World) : Prop :=
  ∃ A c, e = .returned (.slice A L.length c) ∧ (∀ i x : Nat, L[i]? = some x → ∃ g, A = some ⟨g, 0, none⟩ ∧ w.heap.size ≤ g ∧ g < w'.heap.size ∧ w'.cell? ⟨g, i, none⟩ = some (.int .i64 x)) ∧ Below w.heap.size w w'
def cellsI (L : List Nat) : List Value := L.map (fun x : Nat => .int .i64 (x : Int))
theorem cellsI_snoc (L : List Nat) (x : Nat) : cellsI (L ++ [x]) = cellsI L ++ [.int .i64 x] := by unfold cellsI; rw [List.map_append]; rfl

theorem boxed_keep {B b : Nat} {t : TypeId} {v : Value} {X Y : World} {row : Option Nat} (h : Boxed X b t v) (hg : X.grownBy Y row) (hr : ∀ r, row = some r → B ≤ r ∧ ∃ o : Obj, X.heap[r]? = some o ∧ o.isCells = false) : Boxed Y b t v :=
  h.kept hg (fun e => by obtain ⟨_, o, ho, hc⟩ := hr b e.symm; rw [show X.heap[b]? = _ from h] at ho; cases ho; cases hc)
/-- What Taken has counted. -/
def CntS (w : World) (pre : List Nat) (X : World) : Prop := Boxed X w.heap.size 3 (.int .i64 pre.length) ∧ Below w.heap.size w X
theorem cntS_own (w : World) {B : Nat} (hB : w.heap.size ≤ B) : OwnFrom B (CntS w) := OwnFrom.and (fun _ _ _ _ hs hg hr => boxed_keep hs hg hr) (ownFrom_below (Nat.le_refl _) hB)
theorem cnt_end {w X : World} {D n : Nat} (hb : Below w.heap.size w X) (hD : w.heap.size ≤ D) (hK : X.heap[D]? = some (.deferred (some []))) :
    ∀ (tmps : Array Value), tmps[2]? = some (.int .i64 n) → LeavesInM Fence.wide 20 Tryz.prog Tryz.f65 tmps (fun e w' => e = .returned (.int .i64 n) ∧ Below w.heap.size w w') [{ target := .collected D, args := #[] }] .returning X := by
  intro tmps t2
  refine ⟨by simp, .inl ⟨_, _, rfl, run_takeDeferred hK, ?_⟩⟩
  exact ⟨.int .i64 n, by simp [results, Tryz.results65, go_sem, t2], rfl, hb.trans (belowK_b (w := w) (Nat.le_refl _) X D _ _ hD hK rfl rfl)⟩

set_option maxRecDepth 100000 in
set_option maxHeartbeats 4000000 in
theorem Taken_any {O : Nat → Prop} {v : Option Addr} {om : Option Mo} {w : World} (h : Ob false w O (.pointer v) om) :
    Calls Tryz.prog 65 #[.pointer v] w fun e w' => e = .returned (.int .i64 (tkO om).length) ∧ Below w.heap.size w w' := by
  have HN := Lib.hid (fun W => takenObjects_any v W)
  refine (callsIn_wide (n := 20)).1 ?_
  refine callsIn_of_wp_marks Tryz.func65 rfl trivial ?_ rfl
  simp only [Tryz.ntmps65, List.size_toArray, List.length_cons, List.length_nil, Nat.reduceAdd, Nat.reduceSub, Array.replicate_succ, Array.replicate_zero, List.push_toArray, List.append_toArray, List.nil_append, List.cons_append]
  have HH := Lib.hid h
  clear h
  gi_wp2_with (refine ⟨trivial, ?_⟩; gi_at_call 57; refine (callsIn_wide.2 (HN.out _)).mono ?_; rintro x W2 ⟨rfl, hW2⟩)
  have hb2 : Below w.heap.size w W2 := by rw [← hW2]; exact (bnew _ _).alloc (by simp) _
  have hz2 : W2.heap.size = w.heap.size + 2 := by rw [← hW2]; simp
  have x1 : Boxed W2 w.heap.size 3 (.int .i64 ((([] : List Nat).length : Nat) : Int)) := by rw [← hW2]; exact (Boxed.new w 3 _).alloc _
  have x2 : Boxed W2 (w.heap.size + 1) 63 (.pointer v) := by
    rw [← hW2]
    have := Boxed.new (w.alloc (.cells #[.int .i64 0] 3)) 63 (.pointer v)
    rwa [World.size_alloc] at this
  have hlt := HH.out.lt
  have HSQ := Lib.hid (ob_seq (n := 19) (by omega) (Zs := fun b => b = w.heap.size) (HH.out.below hb2) x2 (fun k hk hz => by have := hlt k hk; omega))
  have HZ2 := Lib.hid hz2
  clear hW2 x2 hz2 hlt
  gi_wp2
  refine over (by omega) (gf := 89) (lb := #[.pointer (some ⟨w.heap.size + 1, 0, none⟩)]) rfl (enters_of Tryz.func89 (by kernel_rfl) rfl) HSQ.out (Below.refl _ _) (fun _ => rfl)
    (CntS w) (fun _ _ => False)
    (cntS_own w (by have := HZ2.out; omega)) (fun _ _ _ _ hs _ _ => hs)
    ⟨x1, hb2⟩
    (fun x => { tmps := #[.pointer v, undef, .int .i64 0, .pointer (some ⟨w.heap.size, 0, none⟩), .pointer v, .func (.func 89) #[] #[.pointer (some ⟨w.heap.size + 1, 0, none⟩)], .int .i64 x, undef, undef, undef], defers := [] })
    ?assign ?body ?done ?stop
  case assign =>
    intro l x W K hK
    unfold enc1
    gi_wp2
    simpa using hK
  case stop =>
    rintro D pre X hD hpre h hK
    exact h.elim
  case done =>
    rintro D X hD ⟨hv, hb⟩ hK
    have c1 := hv.cell
    have HE := Lib.hid (cnt_end (n := (tkO om).length) hb (by have := HZ2.out; omega) hK)
    clear hv hb hK
    gi_wp2
    exact HE.out _ rfl
  case body =>
    rintro l pre x X hx ⟨hv, hb⟩ hlen
    have c1 := hv.cell
    have f1 := hv.frozen
    obtain ⟨q1, q2⟩ := w64 ((pre.length : Int) + 1) (by omega)
    have HV := Lib.hid (hv.set (.int .i64 ((pre.length : Int) + 1)))
    have HB := Lib.hid (hb.setCell (p := ⟨w.heap.size, 0, none⟩) (Nat.le_refl _) (.int .i64 ((pre.length : Int) + 1)))
    clear hv hb hx
    gi_wp2
    refine .inl ⟨rfl, (KeepsOthers.setCell _ _ _).from _, kpC_step (grown_set _ _ _) fun g e => .inl (by cases e; rfl), ?_, HB.out⟩
    rw [List.length_append]
    exact HV.out

/-- A row of numbers behind a box, one number more. -/
theorem int_push {w X w1 : World} {v v' : Value} {k k' N Z : Nat} {xs xs' : List Value} {tmp : Obj} (hv : Boxed X Z 34 v) (hrow : X.ownsRow N 3 1 v k xs) (hown : w1.ownsRow N 3 1 v' k' xs') (hgrow : (X.alloc tmp).grownBy w1 v.ownBlock) (hb : Below w.heap.size w X) (hN : w.heap.size ≤ N) (hZ : w.heap.size ≤ Z) :
    Boxed w1 Z 34 v ∧ Boxed (w1.setCell ⟨Z, 0, none⟩ v') Z 34 v' ∧ (w1.setCell ⟨Z, 0, none⟩ v').ownsRow N 3 1 v' k' xs' ∧ KeepsOthers X (w1.setCell ⟨Z, 0, none⟩ v') ∧ KpC (fun b => b = Z) X (w1.setCell ⟨Z, 0, none⟩ v') ∧ Below w.heap.size w (w1.setCell ⟨Z, 0, none⟩ v') := by
  have hv1 : Boxed w1 Z 34 v := (hv.alloc tmp).kept hgrow (hv.not_row (by decide) hrow)
  have rowb : ∀ g, v.ownBlock = some g → N ≤ g ∧ g < X.heap.size ∧ ∃ cur, X.heap[g]? = some (.cells cur 3 (0, 0)) := fun g e => by
    rcases hrow.2 with ⟨rfl, _⟩ | ⟨g', cap, cur, rfl, hbg, hg, _⟩
    · simp [Value.ownBlock] at e
    · obtain rfl : g' = g := by simpa [Value.ownBlock] using e
      exact ⟨hbg, (Array.getElem?_eq_some_iff.1 hg).1, cur, hg⟩
  refine ⟨hv1, hv1.set v', ?_, ?_, ?_, ?_⟩
  · exact hown.kept (grownBy_setCell' w1 Z v') (.inr (hv1.not_row (by decide) hown).symm)
  · refine ((KeepsOthers.alloc X tmp).trans (KeepsOthers.of_grownBy hgrow fun j o ej hj => ?_)).trans (KeepsOthers.setCell _ _ _)
    obtain ⟨_, hlt, cur, hc⟩ := rowb j ej
    rw [Below.heap_alloc _ _ _ hlt, hc] at hj
    cases hj; rfl
  · refine (((KpC.refl _ X).below (bnew _ tmp)).trans (kpC_step hgrow fun g e => .inr ?_)).trans (kpC_step (grown_set _ _ _) fun g e => .inl (by cases e; rfl))
    obtain ⟨_, hlt, cur, hc⟩ := rowb g e
    exact ⟨cur, (Below.heap_alloc _ _ _ hlt).trans hc⟩
  · refine Below.setCell (p := ⟨Z, 0, none⟩) (Below.grown (hb.alloc hb.size tmp) hgrow (by have := hb.size; simp; omega) (fun g e => ?_)) hZ v'
    have := (rowb g e).1
    omega

/-- What such a loop has made of what came: the numbers that F gives. -/
def RowS (w : World) (Z : Nat) (F : Nat → Nat) (pre : List Nat) (X : World) : Prop := (∃ v, Boxed X Z 34 v ∧ X.ownsRow w.heap.size 3 1 v (pre.map F).length (cellsI (pre.map F)) ∧ True) ∧ Below w.heap.size w X
theorem rowS_own (w : World) (Z : Nat) (F : Nat → Nat) {B : Nat} (hB : w.heap.size ≤ B) : OwnFrom B (RowS w Z F) :=
  OwnFrom.and (Own.from (holdsRow_own w.heap.size Z 34 3 1 (fun pre : List Nat => (pre.map F).length) (fun pre : List Nat => cellsI (pre.map F)) (fun _ _ => True)) B) (ownFrom_below (Nat.le_refl _) hB)

theorem owns_form {W : World} {base : Nat} {e : TypeId} {size : Nat} {v : Value} {k : Nat} {xs : List Value} (h : W.ownsRow base e size v k xs) : ∃ A c, v = .slice A k c := by
  rcases h.2 with ⟨rfl, rfl⟩ | ⟨g, cap, _, rfl, _⟩
  · exact ⟨none, 0, rfl⟩
  · exact ⟨_, cap, rfl⟩
theorem owns_cells {W : World} {base : Nat} {v : Value} {L : List Nat} (h : W.ownsRow base 3 1 v L.length (cellsI L)) : ∃ A c, v = .slice A L.length c ∧ ∀ i x : Nat, L[i]? = some x → ∃ g, A = some ⟨g, 0, none⟩ ∧ base ≤ g ∧ W.cell? ⟨g, i, none⟩ = some (.int .i64 x) := by
  rcases h.2 with ⟨rfl, h0⟩ | ⟨g, cap, cur, rfl, hb, hg, hn, hc, _, ht⟩
  · refine ⟨none, 0, by rw [h0], fun i x hi => ?_⟩
    have := (List.getElem?_eq_some_iff.1 hi).1
    omega
  · refine ⟨_, cap, rfl, fun i x hi => ⟨g, rfl, hb, ?_⟩⟩
    have hil := (List.getElem?_eq_some_iff.1 hi).1
    rw [cell_of_row _ _ _ _ _ _ hg]
    have hu : (cellsI L)[i]? = some (.int .i64 x) := by unfold cellsI; rw [List.getElem?_map, hi]; rfl
    rw [← ht, List.getElem?_take] at hu
    split at hu
    · simpa using hu
    · cases hu

theorem row_end {w X : World} {D Z : Nat} {F : Nat → Nat} {all : List Nat} (hS : RowS w Z F all X) (hD : w.heap.size ≤ D) (hK : X.heap[D]? = some (.deferred (some []))) {v : Value} (hv : Boxed X Z 34 v) :
    ∃ A c, v = .slice A (all.map F).length c ∧ ∀ e, e = .returned v → LstP w (all.map F) e (X.putObj D (.deferred none)) := by
  obtain ⟨⟨v', hv', hrow, _⟩, hb⟩ := hS
  have hvv : v = v' := by
    have := hv.symm.trans hv'
    injection this with this
    injection this with this
    simpa using this
  subst hvv
  obtain ⟨A, c, hvv, hR⟩ := owns_cells hrow
  refine ⟨A, c, hvv, fun e he => ⟨A, c, by rw [he, hvv], fun i x hi => ?_, hb.trans (belowK_b (w := w) (Nat.le_refl _) X D _ _ hD hK rfl rfl)⟩⟩
  obtain ⟨g, e, h1, h3⟩ := hR i x hi
  have hgX := World.block_lt_of_cell? _ _ h3
  have hgD : g ≠ D := fun e => by
    have hc := cells_of_cell h3
    obtain ⟨o, ho, hoc⟩ := hc
    simp only at ho
    rw [e, hK] at ho
    cases ho
    cases hoc
  have hbk : (X.putObj D (.deferred none)).heap[g]? = X.heap[g]? := World.putObj_heap_other (fun e => hgD e)
  exact ⟨g, e, h1, by simpa using hgX, (World.cell?_of_block (w := X) (a := ⟨g, _, none⟩) hbk).trans h3⟩

theorem info3 : (Tryz.prog.info? 3).map (fun i => (i.zero, i.size, i.bytes)) = some (some (.int .i64 0), 1, 8) := by kernel_rfl
theorem cells1_new (w : World) (a : Value) (t : TypeId) : ∀ j u, [a][j]? = some u → (w.alloc (.cells #[a] t)).cell? ((⟨w.heap.size, 0, none⟩ : Addr).add j) = some u := by
  intro j u h
  have hj : j = 0 := by
    have := (List.getElem?_eq_some_iff.1 h).1
    simpa using this
  subst hj
  obtain rfl : a = u := by simpa using h
  exact cell_of_row _ _ 0 _ _ _ (World.alloc_heap_new w _)

set_option maxRecDepth 100000 in
set_option maxHeartbeats 4000000 in
theorem AppendSeq_any {O : Nat → Prop} {b1 : Nat} {v : Option Addr} {om : Option Mo} {w : World} (h : Ob false w O (.pointer v) om) (hx : Boxed w b1 63 (.pointer v)) :
    Calls Tryz.prog 88 #[.slice none 0 0, .func (.func 89) #[] #[.pointer (some ⟨b1, 0, none⟩)]] w (LstP w (tkO om)) := by
  obtain ⟨i0, hi, hz0, hzs, hz2⟩ := info_parts info3
  have HI := Lib.hid (And.intro hi (And.intro hz0 (And.intro hzs hz2)))
  clear hi hz0 hzs hz2
  obtain ⟨W1, hW1⟩ : ∃ W1, w.alloc (.cells #[.slice none 0 0] 34) = W1 := ⟨_, rfl⟩
  have hb1 : Below w.heap.size w W1 := by rw [← hW1]; exact bnew _ _
  have hz1 : W1.heap.size = w.heap.size + 1 := by rw [← hW1]; simp
  have x1 : Boxed W1 w.heap.size 34 (.slice none 0 0) := by rw [← hW1]; exact Boxed.new w 34 _
  have hlt := h.lt
  have HSQ := Lib.hid (ob_seq (n := 19) (by omega) (Zs := fun b => b = w.heap.size) (h.below hb1) (hx.kept (grown_of hb1 none) (by simp)) (fun k hk hz => by have := hlt k hk; omega))
  have HZ1 := Lib.hid hz1
  have HB1 := Lib.hid hb1
  have HX1 := Lib.hid x1
  have HE0 := Lib.hid (show (tkO om).map id = tkO om from List.map_id _)
  rw [← HE0.out]
  clear h hx hz1 hb1 x1 hlt
  refine (callsIn_wide (n := 20)).1 ?_
  refine callsIn_of_wp_marks Tryz.func88 rfl trivial ?_ rfl
  simp only [Tryz.ntmps88, List.size_toArray, List.length_cons, List.length_nil, Nat.reduceAdd, Nat.reduceSub, Array.replicate_succ, Array.replicate_zero, List.push_toArray, List.append_toArray, List.nil_append, List.cons_append]
  gi_wp2
  refine over (by omega) (gf := 89) (lb := #[.pointer (some ⟨b1, 0, none⟩)]) rfl (enters_of Tryz.func89 (by kernel_rfl) rfl) HSQ.out (Below.refl _ _) (fun _ => rfl)
    (RowS w w.heap.size id) (fun _ _ => False)
    (rowS_own w w.heap.size id (by have := HZ1.out; omega)) (fun _ _ _ _ hs _ _ => hs)
    ⟨⟨_, HX1.out, World.ownsRow_nil _ _ _ _, trivial⟩, HB1.out⟩
    (fun x => { tmps := #[.slice none 0 0, .func (.func 89) #[] #[.pointer (some ⟨b1, 0, none⟩)], .pointer (some ⟨w.heap.size, 0, none⟩), undef, .slice none 0 0, .int .i64 x, .func (.func 89) #[] #[.pointer (some ⟨b1, 0, none⟩)], .int .i64 x, undef, undef, undef, undef, undef], defers := [] })
    ?assign ?body ?done ?stop
  case assign =>
    intro l x W K hK
    unfold enc1
    gi_wp2
    exact hK
  case stop =>
    rintro D pre X hD hpre h hK
    exact h.elim
  case done =>
    rintro D X hD hS hK
    obtain ⟨⟨v, hv, _⟩, _⟩ := id hS
    obtain ⟨A, c, rfl, hE⟩ := row_end hS (by have := HZ1.out; omega) hK hv
    have c1 := hv.cell
    have HE := Lib.hid hE
    have HK := Lib.hid hK
    clear hS hK hv hE
    gi_wp2
    refine ⟨by simp, .inl ⟨_, _, rfl, run_takeDeferred HK.out, ?_⟩⟩
    exact ⟨_, by simp [results, Tryz.results88, go_sem], HE.out _ rfl⟩
  case body =>
    rintro l pre x X hx ⟨⟨v, hv, hrow, _⟩, hb⟩ hlen
    have c1 := hv.cell
    have HV := Lib.hid hv
    have HBX := Lib.hid hb
    obtain ⟨A, c, rfl⟩ := owns_form hrow
    have HR := Lib.hid hrow
    have hpl : (pre.map id).length < 1024 := by rw [List.length_map]; exact hlen
    have HP0 := Lib.hid (show pre.map id ++ [x] = (pre ++ [x]).map id by rw [List.map_append]; rfl)
    clear hx hv hb hrow
    generalize pre.map id = L at *
    obtain ⟨hi, hz0, hzs, hz2⟩ := HI.out
    gi_wp2_with (gi_at_builtin; refine wpListIn_append_own _ rfl _ _ 34 rfl w.heap.size 3 i0 (.int .i64 0) 1 8 Tryz.underlying34 hi hz0 hzs hz2 rfl (by decide) _ _ _ rfl (HR.out.alloc _) ⟨X.heap.size, 0, none⟩ 1 1 [.int .i64 (x : Int)] rfl rfl (cells1_new X _ _) (by simp [Value.oneCell']) (by unfold maxLen; omega) (by omega) (by have := HV.out.lt; simp; omega) ?_; intro v' w1 hown' hgrow _; obtain ⟨g', cap', rfl⟩ := ownsRow_succ hown'; have hP := int_push HV.out HR.out hown' hgrow HBX.out (Nat.le_refl _) (Nat.le_refl _); have HP := Lib.hid hP; have c2 := hP.1.cell; have f2 := hP.1.frozen; clear hP hown' hgrow)
    refine .inl ⟨rfl, HP.out.2.2.2.1.from _, HP.out.2.2.2.2.1, ⟨⟨_, HP.out.2.1, ?_, trivial⟩, HP.out.2.2.2.2.2⟩⟩
    rw [← HP0.out, List.length_append, cellsI_snoc]
    exact HP.out.2.2.1

end Go.Proofs.YtejfoefhaphacaaGreat
