/- Package pagemap: Marks. -/
import Derived.Test.YtdjfeibcbmelcaaLj
import Derived.Test.YtdjfeibcbmelcaaMc
namespace Go.Proofs.Ytdjfeibcbmelcaa
open Go.RowKit Go.Shelf

attribute [local go_sem] Oper.semAt_some

/-- What Marks has made of pages. -/
def MkS (w : World) (Z : Nat) (M : Nat → Int) (pre : List Nat) (X : World) : Prop := (∃ v, Boxed X Z 41 v ∧ X.ownsRow (w.heap.size + 1) 50 3 v (rkM M pre).length (cellsM (rkM M pre).reverse) ∧ True) ∧ Below w.heap.size w X ∧ (∀ p ∈ pre, p < 1024)
theorem mkS_own (w : World) (Z : Nat) (M : Nat → Int) {B : Nat} (hB : w.heap.size ≤ B) : OwnFrom B (MkS w Z M) :=
  OwnFrom.and (Own.from (holdsRow_own (w.heap.size + 1) Z 41 50 3 (fun pre => (rkM M pre).length) (fun pre => cellsM (rkM M pre).reverse) (fun _ _ => True)) B) (OwnFrom.and (ownFrom_below (Nat.le_refl _) hB) (ownFrom_pure _ (fun pre => ∀ p ∈ pre, p < 1024)))

/-- A step that turns blocks of Zs, and rows of marks. -/
theorem kpC_step {Zs : Nat → Prop} {X Y : World} {row : Option Nat} (h : X.grownBy Y row) (hr : ∀ g, row = some g → Zs g ∨ ∃ cur, X.heap[g]? = some (.cells cur 50 (0, 0))) : KpC Zs X Y :=
  ⟨h.size, fun i hi hz => h.block i hi.lt (fun e => by
    rcases hr i e.symm with h1 | ⟨cur, h1⟩
    · exact hz h1
    · obtain ⟨cs, t, d, h2, h3⟩ := hi
      rw [h1] at h2
      cases h2
      exact h3 rfl)⟩

theorem grown_set (W : World) (a : Addr) (v : Value) : W.grownBy (W.setCell a v) (some a.block) := ⟨rfl, rfl, rfl, by rw [World.size_setCell]; exact Nat.le_refl _, fun k _ hk => Below.heap_setCell _ _ _ _ (fun e => hk (by rw [e]))⟩
theorem mk_push {w X w1 : World} {v v' : Value} {k k' N : Nat} {xs xs' : List Value} {tmp : Obj} (hv : Boxed X w.heap.size 41 v) (hrow : X.ownsRow N 50 3 v k xs) (hown : w1.ownsRow N 50 3 v' k' xs') (hgrow : (X.alloc tmp).grownBy w1 v.ownBlock) (hb : Below w.heap.size w X) (hN : w.heap.size ≤ N) :
    Boxed w1 w.heap.size 41 v ∧ Boxed (w1.setCell ⟨w.heap.size, 0, none⟩ v') w.heap.size 41 v' ∧ (w1.setCell ⟨w.heap.size, 0, none⟩ v').ownsRow N 50 3 v' k' xs' ∧ KeepsOthers X (w1.setCell ⟨w.heap.size, 0, none⟩ v') ∧ KpC (fun b => b = w.heap.size) X (w1.setCell ⟨w.heap.size, 0, none⟩ v') ∧ Below w.heap.size w (w1.setCell ⟨w.heap.size, 0, none⟩ v') := by
  have hv1 : Boxed w1 w.heap.size 41 v := (hv.alloc tmp).kept hgrow (hv.not_row (by decide) hrow)
  have hsz : X.heap.size ≤ w1.heap.size := Nat.le_trans (by simp) hgrow.size
  have rowb : ∀ g, v.ownBlock = some g → N ≤ g ∧ g < X.heap.size ∧ ∃ cur, X.heap[g]? = some (.cells cur 50 (0, 0)) := fun g e => by
    rcases hrow.2 with ⟨rfl, _⟩ | ⟨g', cap, cur, rfl, hbg, hg, _⟩
    · simp [Value.ownBlock] at e
    · obtain rfl : g' = g := by simpa [Value.ownBlock] using e
      exact ⟨hbg, (Array.getElem?_eq_some_iff.1 hg).1, cur, hg⟩
  refine ⟨hv1, hv1.set v', ?_, ?_, ?_, ?_⟩
  · exact hown.kept (grownBy_setCell' w1 w.heap.size v') (.inr (hv1.not_row (by decide) hown).symm)
  · refine ((KeepsOthers.alloc X tmp).trans (KeepsOthers.of_grownBy hgrow fun j o ej hj => ?_)).trans (KeepsOthers.setCell _ _ _)
    obtain ⟨_, hlt, cur, hc⟩ := rowb j ej
    rw [Below.heap_alloc _ _ _ hlt, hc] at hj
    cases hj; rfl
  · refine (((KpC.refl _ X).below (bnew _ tmp)).trans (kpC_step hgrow fun g e => .inr ?_)).trans (kpC_step (grown_set _ _ _) fun g e => .inl (by cases e; rfl))
    obtain ⟨_, hlt, cur, hc⟩ := rowb g e
    exact ⟨cur, (Below.heap_alloc _ _ _ hlt).trans hc⟩
  · refine Below.setCell (p := ⟨w.heap.size, 0, none⟩) (Below.grown (hb.alloc hb.size tmp) hgrow (by have := hb.size; simp; omega) (fun g e => ?_)) (Nat.le_refl _) v'
    have := (rowb g e).1
    omega

theorem marks_end {w X : World} {D : Nat} {M : Nat → Int} (hS : MkS w w.heap.size M (pgs M 0) X) (hD : w.heap.size ≤ D) (hK : X.heap[D]? = some (.deferred (some []))) {v : Value} (hv : Boxed X w.heap.size 41 v) :
    ∀ (tmps : Array Value), tmps[2]? = some v → LeavesInM Fence.wide 20 Try.prog Try.f29 tmps (MarksPost w (marksM M)) [{ target := .collected D, args := #[] }] .returning X := by
  intro tmps t2
  obtain ⟨⟨v', hv', hrow, _⟩, hb, _⟩ := hS
  have hvv : v = v' := by
    have := hv.symm.trans hv'
    injection this with this
    injection this with this
    simpa using this
  subst hvv
  refine ⟨by simp, .inl ⟨_, _, rfl, run_takeDeferred hK, ?_⟩⟩
  obtain ⟨A, c, rfl, hR⟩ := RowM.done hrow
  refine ⟨.slice A (marksM M).length c, by simp [results, Try.results29, go_sem, t2, marksM], A, c, rfl, ?_, hb.trans (belowK_b (w := w) (Nat.le_refl _) X D _ _ hD hK rfl rfl)⟩
  intro i m hi
  obtain ⟨g, e, h1, h2, h3, h4, h5⟩ := hR i m hi
  have hgD : g ≠ D := fun e => by
    have hc := cells_of_cell h3
    obtain ⟨o, ho, hoc⟩ := hc
    simp only at ho
    rw [e, hK] at ho
    cases ho
    cases hoc
  have hbk : (X.putObj D (.deferred none)).heap[g]? = X.heap[g]? := World.putObj_heap_other (fun e => hgD e)
  exact ⟨g, e, by omega, by simpa using h2, (World.cell?_of_block (w := X) (a := ⟨g, _, none⟩) hbk).trans h3, (World.cell?_of_block (w := X) (a := ⟨g, _, none⟩) hbk).trans h4, (World.cell?_of_block (w := X) (a := ⟨g, _, none⟩) hbk).trans h5⟩

set_option maxRecDepth 100000 in
set_option maxHeartbeats 4000000 in
theorem Marks_any {O : Nat → Prop} {B : Nat} {M : Nat → Int} {w : World} (h : Tr w O B M) :
    Calls Try.prog 29 #[.pointer (some ⟨B, 0, none⟩)] w (MarksPost w (marksM M)) := by
  have HM := Lib.hid (made_any h)
  obtain ⟨W1, hW1⟩ : ∃ W1, w.alloc (.cells #[.slice none 0 0] 41) = W1 := ⟨_, rfl⟩
  have hb1 : Below w.heap.size w W1 := by rw [← hW1]; exact bnew _ _
  have hz1 : W1.heap.size = w.heap.size + 1 := by rw [← hW1]; simp
  have x1 : Boxed W1 w.heap.size 41 (.slice none 0 0) := by rw [← hW1]; exact Boxed.new w 41 _
  have HN := Lib.hid (numbers_any B ((0 : Nat) : Int) W1)
  have HX := Lib.hid x1
  have HB1 := Lib.hid hb1
  have HH := Lib.hid h
  have HZ1 := Lib.hid hz1
  obtain ⟨i0, hi, hz0, hzs, hz2⟩ := info_parts Try.info50
  have HI := Lib.hid (And.intro hi (And.intro hz0 (And.intro hzs hz2)))
  clear h x1 hb1 hz1 hi hz0 hzs hz2
  refine (callsIn_wide (n := 20)).1 ?_
  refine callsIn_of_wp_marks Try.func29 rfl trivial ?_ rfl
  simp only [Try.ntmps29, List.size_toArray, List.length_cons, List.length_nil, Nat.reduceAdd, Nat.reduceSub, Array.replicate_succ, Array.replicate_zero, List.push_toArray, List.append_toArray, List.nil_append, List.cons_append]
  gi_wp2_with (first | (refine ⟨trivial, ?_⟩; gi_at_call 33; refine (callsIn_wide.2 HM.out).mono ?_; rintro x _ ⟨rfl, rfl⟩) | (refine ⟨trivial, ?_⟩; gi_at_call 39; refine (callsIn_wide.2 HN.out).mono ?_; rintro x W2 ⟨rfl, hW2⟩))
  have hb2 : Below W1.heap.size W1 W2 := by rw [← hW2]; exact (bnew _ _).alloc (by simp) _
  have hsz2 : W2.heap.size = W1.heap.size + 2 := by rw [← hW2]; simp
  have y1 : Boxed W2 W1.heap.size 25 (.pointer (some ⟨B, 0, none⟩)) := by rw [← hW2]; exact (Boxed.new W1 25 _).alloc _
  have y2 : Boxed W2 (W1.heap.size + 1) 3 (.int .i64 ((0 : Nat) : Int)) := by
    rw [← hW2]
    have := Boxed.new (W1.alloc (.cells #[.pointer (some ⟨B, 0, none⟩)] 25)) 3 (.int .i64 ((0 : Nat) : Int))
    rwa [World.size_alloc] at this
  have hbW := HB1.out.trans (hb2.mono HB1.out.size)
  have hz1 := HZ1.out
  obtain ⟨R, cm, cl, T, hA, _⟩ := HH.out.below hbW
  have hOw := HH.out.lt
  have z1 : Boxed W2 w.heap.size 41 (.slice none 0 0) := (hb2.block _ HX.out.lt).trans HX.out
  have hseq := num_seq (Zs := fun b => b = w.heap.size) (n := 19) (by omega) hA y1 y2 (fun b hb hz => by have := hOw b hb; omega) (fun hz => by omega) (fun b hz => by omega) (by omega)
  have HSQ := Lib.hid hseq
  have HZ1 := Lib.hid hz1
  have HS2 := Lib.hid hsz2
  clear hW2 y1 y2 hseq hA hW1 hz1 hsz2
  gi_wp2
  refine over (by omega) (gf := 48) (lb := #[.pointer (some ⟨W1.heap.size, 0, none⟩), .pointer (some ⟨W1.heap.size + 1, 0, none⟩)]) rfl (enters_of Try.func48 (by kernel_rfl) rfl) HSQ.out (Below.refl _ _) (fun _ => rfl)
    (MkS w w.heap.size M) (fun _ _ => False)
    (mkS_own w w.heap.size M (by have := HZ1.out; have := HS2.out; omega)) (fun _ _ _ _ hs _ _ => hs)
    ⟨⟨_, z1, World.ownsRow_nil _ _ _ _, trivial⟩, hbW, fun p hp => by cases hp⟩
    (fun x => { tmps := #[.pointer (some ⟨B, 0, none⟩), undef, .slice none 0 0, .pointer (some ⟨w.heap.size, 0, none⟩), .int .i64 x, .int .i64 (M x), undef, .pointer (some ⟨B, 0, none⟩), .bool true, .bool false, .pointer (some ⟨B, 0, none⟩), .func (.func 48) #[] #[.pointer (some ⟨W1.heap.size, 0, none⟩), .pointer (some ⟨W1.heap.size + 1, 0, none⟩)], .int .i64 x, .int .i64 (M x), undef, undef, undef, undef, undef, undef, undef, undef, undef, undef, undef, undef, undef, undef, undef, undef, undef, undef, undef, undef, undef, undef, undef, undef, undef, undef, undef, undef, undef, undef], defers := [] })
    ?assign ?body ?done ?stop
  case assign =>
    intro l x W K hK
    unfold encP
    gi_wp2
    exact hK
  case stop =>
    rintro D pre X hD hpre h hK
    exact h.elim
  case done =>
    rintro D X hD hS hK
    have hS' := hS
    obtain ⟨⟨v, hv, _⟩, _⟩ := hS'
    have c1 := hv.cell
    have HE := Lib.hid (marks_end hS (by have := HZ1.out; have := HS2.out; omega) hK hv)
    clear hS hK hv
    gi_wp2
    exact HE.out _ rfl
  case body =>
    rintro l pre x X hx hS hlen
    obtain ⟨⟨v, hv, hrow, _⟩, hbX, hpl⟩ := hS
    have hx1 := hx.1
    have hsX := hbX.size
    have hrl := rkM_len M pre
    have hok := rkM_ok (M := M) hpl
    have hpx : ∀ p ∈ pre ++ [x], p < 1024 := fun p hp => by
      rcases List.mem_append.1 hp with h | h
      · exact hpl p h
      · cases List.mem_singleton.1 h; exact hx1
    have HPX := Lib.hid hpx
    have HSN := Lib.hid (rkM_snoc M pre x)
    have c1 := hv.cell
    have HV := Lib.hid hv
    have HBX := Lib.hid hbX
    clear hx hpl hpx hv hbX
    cases hr : rkM M pre with
    | nil =>
      rw [hr] at hrow HSN
      have hrow' : X.ownsRow (w.heap.size + 1) 50 3 v 0 [] := hrow
      obtain ⟨A, c, rfl⟩ := owns_form hrow'
      have HR := Lib.hid hrow'
      clear hrow hrow' hok hr hrl
      obtain ⟨hi, hz0, hzs, hz2⟩ := HI.out
      gi_wp2
      refine ⟨trivial, ?_⟩
      gi_wp2_with (gi_at_builtin; refine wpListIn_append_own _ rfl _ _ 41 rfl (w.heap.size + 1) 50 i0 (.agg #[.int .i64 0, .int .i64 0, .int .i64 0]) 3 24 Try.underlying41 hi hz0 hzs hz2 rfl (by decide) _ _ _ rfl (HR.out.alloc _) ⟨X.heap.size, 0, none⟩ 1 1 [.int .i64 (x : Int), .int .i64 1, .int .i64 (M x)] rfl rfl (cells3_new X _ _ _ _) (by simp [Value.oneCell']) (by unfold maxLen; omega) (by omega) (by have := HV.out.lt; simp; omega) ?_; intro v' w1 hown' hgrow _; obtain ⟨g', cap', rfl⟩ := ownsRow_succ hown'; have hP := mk_push HV.out HR.out hown' hgrow HBX.out (by omega); have HP := Lib.hid hP; have c2 := hP.1.cell; have f2 := hP.1.frozen; clear hP hown' hgrow)
      refine .inl ⟨rfl, HP.out.2.2.2.1.from _, HP.out.2.2.2.2.1, ⟨⟨_, HP.out.2.1, ?_, trivial⟩, HP.out.2.2.2.2.2, HPX.out⟩⟩
      rw [HSN.out]
      exact HP.out.2.2.1
    | cons m t =>
      rw [hr] at hrow HSN hrl hok
      obtain ⟨g, c, rfl, hg1, hg2, e1, e2, e3, e4⟩ := RowM.last hrow
      have hm := hok m (List.mem_cons_self ..)
      unfold MkR at hm
      rw [List.length_cons] at hrl
      have HROW := Lib.hid hrow
      obtain ⟨cur, hcur⟩ := owns_type hrow
      have HCUR := Lib.hid hcur
      obtain ⟨ms, mn, mv⟩ := m
      dsimp only at e1 e2 e3 hm
      generalize hT : t.length = Tn at hrl e1 e2 e3 e4 c1 ⊢
      have HT := Lib.hid hT
      clear hrow hok hr hcur hT
      have HC := Lib.hid (fun W => continues_any ms mn mv (M x) x W (by omega) (by omega))
      by_cases hcn : x = ms + mn ∧ M x = mv
      · have HCN := Lib.hid hcn
        rw [decide_eq_true hcn] at HC
        clear hcn
        have ET := Lib.hid (w64 (Tn : Int) (by omega))
        have EN := Lib.hid (w64 ((mn : Int) + 1) (by omega))
        obtain ⟨t1, t2⟩ := ET.out
        gi_wp2_with (refine ⟨trivial, ?_⟩; gi_at_call 43; refine (CallsIn.inRound l (callsIn_wide.2 (HC.out _))).mono ?_; rintro e X3 ⟨rfl, hb3⟩; have k1 := (hb3.cell (p := ⟨w.heap.size, 0, none⟩) (World.block_lt_of_cell? _ _ c1)).trans c1; have k2 := (hb3.cell (p := ⟨g, Tn * 3 + 1, none⟩) hg2).trans e2; have k3 := (hb3.frozen (p := ⟨g, Tn * 3 + 1, none⟩) hg2).trans e4; have n1 := EN.out.1; have n2 := EN.out.2)
        have hY := HROW.out
        have hb3g := (hb3.block g hg2).trans HCUR.out
        have hY3 := RowM.more (N := w.heap.size + 1) (t := t) (owns_below hY hb3)
        rw [HT.out] at hY3
        refine .inl ⟨rfl, (kf_below hb3).trans ((KeepsOthers.setCell _ _ _).from _), ((KpC.refl _ X).below hb3).trans (kpC_step (grown_set _ _ _) fun g' e => .inr (by cases e; exact ⟨_, hb3g⟩)), ⟨⟨_, (show Boxed X3 w.heap.size 41 _ from (hb3.block _ HV.out.lt).trans HV.out).kept (grown_set _ _ _) (by have := HV.out.lt; intro e; have e := Option.some.inj e; simp at e; omega), ?_, trivial⟩, (HBX.out.trans (hb3.mono hsX)).setCell (p := ⟨g, _, none⟩) (by show w.heap.size ≤ g; omega) _, HPX.out⟩⟩
        rw [HSN.out, addM_more HCN.out]
        unfold RowM at hY3
        rw [List.length_cons, HT.out] at hY3
        rw [List.length_cons, HT.out]
        exact hY3
      · have HCN := Lib.hid hcn
        rw [decide_eq_false hcn] at HC
        clear hcn
        have ET := Lib.hid (w64 (Tn : Int) (by omega))
        obtain ⟨t1, t2⟩ := ET.out
        have hY := HROW.out
        unfold RowM at hY
        rw [List.length_cons, HT.out] at hY
        have HY := Lib.hid hY
        obtain ⟨hi, hz0, hzs, hz2⟩ := HI.out
        clear hY
        gi_wp2_with (first | (refine ⟨trivial, ?_⟩; gi_at_call 43; refine (CallsIn.inRound l (callsIn_wide.2 (HC.out _))).mono ?_; rintro e X3 ⟨rfl, hb3⟩; have k1 := (hb3.cell (p := ⟨w.heap.size, 0, none⟩) (World.block_lt_of_cell? _ _ c1)).trans c1; have HO3 := Lib.hid (owns_below HY.out hb3); have HV3 := Lib.hid (show Boxed X3 w.heap.size 41 (.slice (some ⟨g, 0, none⟩) (Tn + 1) c) from (hb3.block _ HV.out.lt).trans (by rw [← HT.out]; exact HV.out)); have HB3 := Lib.hid (HBX.out.trans (hb3.mono hsX)); have hs3 := hb3.size; have HBB := Lib.hid hb3; clear t1 t2 e1 e2 e3 e4 hb3) | (gi_at_builtin; refine wpListIn_append_own _ rfl _ _ 41 rfl (w.heap.size + 1) 50 i0 (.agg #[.int .i64 0, .int .i64 0, .int .i64 0]) 3 24 Try.underlying41 hi hz0 hzs hz2 rfl (by decide) _ _ _ rfl (HO3.out.alloc _) ⟨X3.heap.size, 0, none⟩ 1 1 [.int .i64 (x : Int), .int .i64 1, .int .i64 (M x)] rfl rfl (cells3_new X3 _ _ _ _) (by simp [Value.oneCell']) (by unfold maxLen; omega) (by omega) (by simp; omega) ?_; intro v' w1 hown' hgrow _; obtain ⟨g', cap', rfl⟩ := ownsRow_succ hown'; have hP := mk_push HV3.out HO3.out hown' hgrow HB3.out (by omega); have HP := Lib.hid hP; have c2 := hP.1.cell; have f2 := hP.1.frozen; clear hP hown' hgrow))
        refine .inl ⟨rfl, (kf_below HBB.out).trans (HP.out.2.2.2.1.from _), ((KpC.refl _ X).below HBB.out).trans HP.out.2.2.2.2.1, ⟨⟨_, HP.out.2.1, ?_, trivial⟩, HP.out.2.2.2.2.2, HPX.out⟩⟩
        rw [HSN.out, addM_one HCN.out, List.length_cons, List.length_cons, HT.out, List.reverse_cons, cellsM_app]
        exact HP.out.2.2.1

end Go.Proofs.Ytdjfeibcbmelcaa
