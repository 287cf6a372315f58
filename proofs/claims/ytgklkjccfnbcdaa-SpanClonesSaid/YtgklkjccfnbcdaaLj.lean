/- Package span: List; Collect, Clone. -/
import Derived.Test.YtgklkjccfnbcdaaLi
import Derived.StillTail
import Derived.TacticsIn
import Derived.OrdersIn
namespace Go.Proofs.Ytgklkjccfnbcdaa
open Go.RowKit Go.Shelf

attribute [local go_sem] Oper.semAt_some

theorem undrewB {w w' : World} (h : Below w.drew.heap.size w.drew w') : Below w.heap.size w w' := ⟨h.os, h.tape, h.output, h.size, h.block⟩

/-- Behind a call that only makes memory, then an append: the round's end. -/
theorem int_push' {w X X3 w1 : World} {v v' : Value} {k k' N Z : Nat} {xs xs' : List Value} {tmp : Obj} (h3 : Below X.heap.size X X3) (hv : Boxed X3 Z 54 v) (hrow : X3.ownsRow N 3 1 v k xs) (hown : w1.ownsRow N 3 1 v' k' xs') (hgrow : (X3.alloc tmp).grownBy w1 v.ownBlock) (hb : Below w.heap.size w X3) (hN : w.heap.size ≤ N) (hZ : w.heap.size ≤ Z) (M : Nat) :
    Boxed (w1.setCell ⟨Z, 0, none⟩ v') Z 54 v' ∧ (w1.setCell ⟨Z, 0, none⟩ v').ownsRow N 3 1 v' k' xs' ∧ KeepsFrom M X (w1.setCell ⟨Z, 0, none⟩ v') ∧ KpC (fun b => b = Z) X (w1.setCell ⟨Z, 0, none⟩ v') ∧ Below w.heap.size w (w1.setCell ⟨Z, 0, none⟩ v') := by
  obtain ⟨_, a2, a3, a4, a5, a6⟩ := int_push hv hrow hown hgrow hb hN hZ
  exact ⟨a2, a3, ((KeepsOthers.of_grownBy (grown_of h3 none) (by simp)).trans a4).from _, ((KpC.refl _ X).below h3).trans a5, a6⟩

def noDefer (ops : Array Oper) : Bool := ops.all fun o => match o.op with
  | .defer _ => false
  | _ => true
theorem noDefer_at {ops : Array Oper} (h : noDefer ops = true) {i : Nat} {o : Oper} (hi : ops[i]? = some o) : ∀ c, o.op ≠ .defer c := fun c e => by
  unfold noDefer at h
  rw [Array.all_eq_true] at h
  obtain ⟨hlt, rfl⟩ := Array.getElem?_eq_some_iff.1 hi
  have := h i hlt
  rw [e] at this
  cases this

section
variable {P : Program} {ops : Array Oper} {l0 m : Nat} {Q' : Exit → Act → World → Prop}

theorem opRound {o : Oper} (hnd : ∀ c, o.op ≠ .defer c) {a : Act} {w : World} {K : Act → World → Prop} (h : o.wpIn Fence.wide m P a w K Q') : o.wpIn (Fence.wide.inRound l0) m P a w K Q' := by
  unfold Oper.wpIn at *
  refine ⟨h.1, ?_⟩
  have h2 := h.2
  rw [Oper.semAt_eq _ _ _ hnd] at h2 ⊢
  generalize (execOp a.eval o).run P w = r at h2 ⊢
  cases r with
  | ok x w' => cases x <;> exact h2
  | halt x w' => cases x <;> exact h2

theorem wpOpIn_round (hnd : noDefer ops = true) {i : Nat} {a : Act} {w : World} {K : Act → World → Prop} (h : wpOpIn Fence.wide m P ops Q' i K a w) : wpOpIn (Fence.wide.inRound l0) m P ops Q' i K a w := by
  unfold wpOpIn at *
  split
  · rename_i ho; simpa only [ho] using h
  · rename_i o ho
    simp only [ho] at h
    split
    · rename_i hw
      simp only [hw, if_true] at h
      exact opRound (noDefer_at hnd ho) h
    · rename_i hw
      simp only [hw] at h
      exact h

theorem wpAnyIn_round {md : Region.Mode} (hnd : noDefer ops = true) : ∀ (f : Nat) (listed : Array Bool) (a : Act) (w : World), wpAnyIn Fence.wide m P md ops Q' f listed a w → wpAnyIn (Fence.wide.inRound l0) m P md ops Q' f listed a w
  | 0, _, _, _, h => h
  | f + 1, _, _, _, h => ⟨h.1, fun i hi => wpOpIn_mono (fun a' w' h' => wpAnyIn_round hnd f _ a' w' h') (wpOpIn_round hnd (h.2 i hi))⟩

theorem wpIn_region_round {id : Nat} {a : Act} {w : World} (hm : P.follows .mixedOrders = true) (hnd : noDefer ops = true) (h : wpAnyIn Fence.wide m P .any ops Q' ops.size (Array.replicate ops.size false) a w.drew) : (Code.region id ops true).wpIn (Fence.wide.inRound l0) m P Q' a w :=
  wpIn_region_any hm (wpAnyIn_round hnd _ _ _ _ h)
end

/-- Operations that can only come one after the other. -/
theorem wpAnyIn_tail {F : Fence} {m : Nat} {P : Program} {ops : Array Oper} {Q' : Exit → Act → World → Prop} {md : Region.Mode} : ∀ (l : List Oper) (k : Nat) (listed : Array Bool) (a : Act) (w : World), ops.toList.drop k = l → Region.seqB md ops l.length k listed = true → wpListIn F m P ops Q' l a w → wpAnyIn F m P md ops Q' l.length listed a w
  | [], _, _, _, _, _, hB, h => ⟨by simpa [Region.seqB] using hB, h⟩
  | o :: l, k, listed, a, w, ho, hB, h => by
    simp only [List.length_cons, Region.seqB, Bool.and_eq_true, decide_eq_true_eq] at hB
    refine ⟨fun h1 => (by rw [hB.1] at h1; cases h1), fun i hi => ?_⟩
    rw [hB.1] at hi
    have hik : i = k := by simpa using hi
    subst hik
    have h0 : ops[i]? = some o := by
      have : (ops.toList.drop i)[0]? = some o := by rw [ho]; rfl
      simpa [List.getElem?_drop] using this
    have hw : wpOpIn F m P ops Q' i (wpListIn F m P ops Q' l) a w := by
      unfold wpOpIn
      simp only [h0]
      exact h
    exact wpOpIn_mono (fun a' w' h' => wpAnyIn_tail l (i + 1) _ a' w' (by rw [← List.tail_drop, ho]; rfl) hB.2 h') hw

set_option maxRecDepth 100000 in
set_option maxHeartbeats 4000000 in
theorem List_gen {v : Option Addr} {w : World} (Pd : Nat → Prop) (F : Nat → Nat) (all : List Nat)
    (hseq : ∀ W, Below w.heap.size w W → Boxed W (w.heap.size + 2) 27 (.pointer v) → SeqO 19 57 #[.pointer (some ⟨w.heap.size + 2, 0, none⟩)] enc1 Pd (fun b => b = w.heap.size + 1) all W)
    (hA : ∀ (W : World) (x : Nat), Below w.heap.size w W → Pd x → Calls Try.prog 50 #[.pointer v, .int .i64 x] W fun e w' => e = .returned (.int .i64 (F x)) ∧ Below W.heap.size W w') :
    Calls Try.prog 26 #[.pointer v] w (LstP w (all.map F)) := by
  obtain ⟨i0, hi, hz0, hzs, hz2⟩ := info_parts info3
  have HI := Lib.hid (And.intro hi (And.intro hz0 (And.intro hzs hz2)))
  clear hi hz0 hzs hz2
  have HN := Lib.hid (fun W => takenObjects_any v W)
  have HSEQ := Lib.hid hseq
  have HA := Lib.hid hA
  clear hseq hA
  refine (callsIn_wide (n := 20)).1 ?_
  refine callsIn_of_wp_marks Try.func26 rfl trivial ?_ rfl
  simp only [Try.ntmps26, List.size_toArray, List.length_cons, List.length_nil, Nat.reduceAdd, Nat.reduceSub, Array.replicate_succ, Array.replicate_zero, List.push_toArray, List.append_toArray, List.nil_append, List.cons_append]
  gi_wp2_with (refine ⟨trivial, ?_⟩; gi_at_call 37; refine (callsIn_wide.2 (HN.out _)).mono ?_; rintro x W2 ⟨rfl, hW2⟩)
  have hb2 : Below w.heap.size w W2 := by rw [← hW2]; exact ((bnew _ _).alloc (by simp) _).alloc (by simp; omega) _
  have hz2 : W2.heap.size = w.heap.size + 3 := by rw [← hW2]; simp
  have x0 : Boxed W2 w.heap.size 27 (.pointer v) := by rw [← hW2]; exact ((Boxed.new w 27 _).alloc _).alloc _
  have x1 : Boxed W2 (w.heap.size + 1) 54 (.slice none 0 0) := by
    rw [← hW2]
    have := Boxed.new (w.alloc (.cells #[.pointer v] 27)) 54 (.slice none 0 0)
    rw [World.size_alloc] at this
    exact this.alloc _
  have x2 : Boxed W2 (w.heap.size + 2) 27 (.pointer v) := by
    rw [← hW2]
    have := Boxed.new ((w.alloc (.cells #[.pointer v] 27)).alloc (.cells #[.slice none 0 0] 54)) 27 (.pointer v)
    rwa [World.size_alloc, World.size_alloc] at this
  have HSQ := Lib.hid (HSEQ.out W2 hb2 x2)
  have HZ2 := Lib.hid hz2
  clear hW2 x2 hz2 HSEQ HN
  gi_wp2
  refine over (by omega) (gf := 57) (lb := #[.pointer (some ⟨w.heap.size + 2, 0, none⟩)]) rfl (enters_of Try.func57 (by kernel_rfl) rfl) HSQ.out (Below.refl _ _) (fun _ => rfl)
    (fun pre X => RowS w (w.heap.size + 1) F pre X ∧ Boxed X w.heap.size 27 (.pointer v)) (fun _ _ => False)
    (OwnFrom.and (rowS_own w (w.heap.size + 1) F (by have := HZ2.out; omega)) (fun _ _ _ _ hs hg hr => boxed_keep hs hg hr)) (fun _ _ _ _ hs _ _ => hs)
    ⟨⟨⟨_, x1, World.ownsRow_nil _ _ _ _, trivial⟩, hb2⟩, x0⟩
    (fun x => { tmps := #[.pointer v, .pointer (some ⟨w.heap.size, 0, none⟩), .slice none 0 0, .pointer (some ⟨w.heap.size + 1, 0, none⟩), .int .i64 x, .pointer v, .func (.func 57) #[] #[.pointer (some ⟨w.heap.size + 2, 0, none⟩)], .int .i64 x, undef, undef, undef, undef, undef, undef, undef], defers := [] })
    ?assign ?body ?done ?stop
  case assign =>
    intro l x W K hK
    unfold enc1
    gi_wp2
    exact hK
  case stop =>
    rintro D pre X hD hpre h hK
    exact h.elim
  case done =>
    rintro D X hD ⟨hS, _⟩ hK
    obtain ⟨⟨v, hv, _⟩, _⟩ := id hS
    obtain ⟨A, c, rfl, hE⟩ := row_end hS (by have := HZ2.out; omega) hK hv
    have c1 := hv.cell
    have HE := Lib.hid hE
    have HK := Lib.hid hK
    clear hS hK hv hE
    gi_wp2
    refine ⟨by simp, .inl ⟨_, _, rfl, run_takeDeferred HK.out, ?_⟩⟩
    exact ⟨_, by simp [results, Try.results26, go_sem], HE.out _ rfl⟩
  case body =>
    rintro l pre x X hx ⟨⟨⟨v', hv, hrow, _⟩, hb⟩, hbx⟩ hlen
    have c1 := hv.cell
    have c0 := hbx.cell
    have HV := Lib.hid hv
    have HX0 := Lib.hid hbx
    have HBX := Lib.hid hb
    obtain ⟨A, c, rfl⟩ := owns_form hrow
    have HR := Lib.hid hrow
    have hpl : (pre.map F).length < 1024 := by rw [List.length_map]; exact hlen
    have HP0 := Lib.hid (show pre.map F ++ [F x] = (pre ++ [x]).map F by rw [List.map_append]; rfl)
    have HAX := Lib.hid (HA.out X.drew x hb.drew hx)
    clear hx hv hb hrow hbx HA x0 x1 hb2
    generalize pre.map F = L at *
    generalize F x = fx at *
    have hmx : Try.prog.follows .mixedOrders = true := by kernel_rfl
    obtain ⟨hi, hz0, hzs, hz2⟩ := HI.out
    gi_wp2
    refine wpIn_region_round (by kernel_rfl) (by kernel_rfl) ?_
    refine wpAnyIn_take (i := 2) (v := ?_) rfl rfl (by kernel_rfl) (by kernel_rfl) (by kernel_rfl) (fun _ _ _ h => h) ⟨Or.inl ⟨by rfl, ?_⟩, fun _ => rfl⟩ ?_
    rotate_left
    · (intro w; go_simp; try with_reducible rfl)
    refine wpAnyIn_ready (rs := [0, 1]) (by kernel_rfl) (by simp) ?_
    refine AllReadyIn.cons rfl (fun K hK => ?_) ?_
    · go_simp
      refine hK _ _ ?_
      clear hK K
      refine wpAnyIn_ready (rs := [1]) (by kernel_rfl) (by simp) ?_
      refine AllReadyIn.cons rfl (fun K hK => ?_) ?_
      · go_simp
        refine hK _ _ ?_
        clear hK K
        refine wpAnyIn_ready (rs := [3]) (by kernel_rfl) (by simp) ?_
        refine AllReadyIn.cons rfl (fun K hK => ?_) ?_
        · go_simp
          gi_wp2_with (refine ⟨trivial, ?_⟩; gi_at_call 50; refine (callsIn_wide.2 HAX.out).mono ?_; rintro e X3 ⟨rfl, hb3⟩; have hb4 := undrewB hb3; have hv3 := HV.out.kept (grown_of hb4 none) (by simp); have hr3 := HR.out.kept (grown_of hb4 none) (by cases A <;> simp [Value.ownBlock]); have hX3 := btr HBX.out hb4 (Nat.le_refl _); have c3 := hv3.cell; have c3a := fun o => (hv3.alloc o).cell; have z3 := hX3.size; have HV3 := Lib.hid hv3; have HR3 := Lib.hid hr3; have HX3 := Lib.hid hX3; have HB4 := Lib.hid hb4; have HX03 := Lib.hid (HX0.out.kept (grown_of hb4 none) (by simp)); clear hb4 hv3 hr3 hX3 hb3)
          refine wpAnyIn_ready (rs := [4]) (by kernel_rfl) (by simp) ?_
          refine AllReadyIn.cons rfl (fun K hK => ?_) ?_
          · go_simp
            refine hK _ _ ?_
            clear hK K
            refine wpAnyIn_tail _ 5 _ _ _ (by rfl) (by kernel_rfl) ?_
            gi_wp2_with (gi_at_builtin; refine wpListIn_append_own _ rfl _ _ 54 rfl w.heap.size 3 i0 (.int .i64 0) 1 8 Try.underlying54 hi hz0 hzs hz2 rfl (by decide) _ _ _ rfl (HR3.out.alloc _) ⟨X3.heap.size, 0, none⟩ 1 1 [.int .i64 (fx : Int)] rfl rfl (cells1_new X3 _ _) (by simp [Value.oneCell']) (by unfold maxLen; omega) (by omega) (by simp; omega) ?_; intro v' w1 hown' hgrow _; obtain ⟨g', cap', rfl⟩ := ownsRow_succ hown'; have hv1 := ((HV3.out.alloc _).kept hgrow (HV3.out.not_row (by decide) HR3.out)); have hx1 := ((HX03.out.alloc _).kept hgrow (HX03.out.not_row (by decide) HR3.out)); have HX1 := Lib.hid hx1; have HP := Lib.hid (int_push' (w := w) HB4.out HV3.out HR3.out hown' hgrow HX3.out (Nat.le_refl _) (Nat.le_succ _) W2.heap.size); have c2 := hv1.cell; have f2 := hv1.frozen; clear hv1 hx1 hown' hgrow)
            refine .inl ⟨rfl, HP.out.2.2.1, HP.out.2.2.2.1, ⟨⟨⟨_, HP.out.1, ?_, trivial⟩, HP.out.2.2.2.2⟩, HX1.out.other (by omega) _⟩⟩
            rw [← HP0.out, List.length_append, cellsI_snoc]
            exact HP.out.2.1
          exact AllReadyIn.nil
        exact AllReadyIn.nil
      exact AllReadyIn.nil
    refine AllReadyIn.cons rfl (fun K hK => ?_) ?_
    · go_simp
      refine hK _ _ ?_
      clear hK K
      refine wpAnyIn_ready (rs := [0, 3]) (by kernel_rfl) (by simp) ?_
      refine AllReadyIn.cons rfl (fun K hK => ?_) ?_
      · go_simp
        refine hK _ _ ?_
        clear hK K
        refine wpAnyIn_ready (rs := [3]) (by kernel_rfl) (by simp) ?_
        refine AllReadyIn.cons rfl (fun K hK => ?_) ?_
        · go_simp
          gi_wp2_with (refine ⟨trivial, ?_⟩; gi_at_call 50; refine (callsIn_wide.2 HAX.out).mono ?_; rintro e X3 ⟨rfl, hb3⟩; have hb4 := undrewB hb3; have hv3 := HV.out.kept (grown_of hb4 none) (by simp); have hr3 := HR.out.kept (grown_of hb4 none) (by cases A <;> simp [Value.ownBlock]); have hX3 := btr HBX.out hb4 (Nat.le_refl _); have c3 := hv3.cell; have c3a := fun o => (hv3.alloc o).cell; have z3 := hX3.size; have HV3 := Lib.hid hv3; have HR3 := Lib.hid hr3; have HX3 := Lib.hid hX3; have HB4 := Lib.hid hb4; have HX03 := Lib.hid (HX0.out.kept (grown_of hb4 none) (by simp)); clear hb4 hv3 hr3 hX3 hb3)
          refine wpAnyIn_ready (rs := [4]) (by kernel_rfl) (by simp) ?_
          refine AllReadyIn.cons rfl (fun K hK => ?_) ?_
          · go_simp
            refine hK _ _ ?_
            clear hK K
            refine wpAnyIn_tail _ 5 _ _ _ (by rfl) (by kernel_rfl) ?_
            gi_wp2_with (gi_at_builtin; refine wpListIn_append_own _ rfl _ _ 54 rfl w.heap.size 3 i0 (.int .i64 0) 1 8 Try.underlying54 hi hz0 hzs hz2 rfl (by decide) _ _ _ rfl (HR3.out.alloc _) ⟨X3.heap.size, 0, none⟩ 1 1 [.int .i64 (fx : Int)] rfl rfl (cells1_new X3 _ _) (by simp [Value.oneCell']) (by unfold maxLen; omega) (by omega) (by simp; omega) ?_; intro v' w1 hown' hgrow _; obtain ⟨g', cap', rfl⟩ := ownsRow_succ hown'; have hv1 := ((HV3.out.alloc _).kept hgrow (HV3.out.not_row (by decide) HR3.out)); have hx1 := ((HX03.out.alloc _).kept hgrow (HX03.out.not_row (by decide) HR3.out)); have HX1 := Lib.hid hx1; have HP := Lib.hid (int_push' (w := w) HB4.out HV3.out HR3.out hown' hgrow HX3.out (Nat.le_refl _) (Nat.le_succ _) W2.heap.size); have c2 := hv1.cell; have f2 := hv1.frozen; clear hv1 hx1 hown' hgrow)
            refine .inl ⟨rfl, HP.out.2.2.1, HP.out.2.2.2.1, ⟨⟨⟨_, HP.out.1, ?_, trivial⟩, HP.out.2.2.2.2⟩, HX1.out.other (by omega) _⟩⟩
            rw [← HP0.out, List.length_append, cellsI_snoc]
            exact HP.out.2.1
          exact AllReadyIn.nil
        exact AllReadyIn.nil
      refine AllReadyIn.cons rfl (fun K hK => ?_) ?_
      · go_simp
        gi_wp2_with (refine ⟨trivial, ?_⟩; gi_at_call 50; refine (callsIn_wide.2 HAX.out).mono ?_; rintro e X3 ⟨rfl, hb3⟩; have hb4 := undrewB hb3; have hv3 := HV.out.kept (grown_of hb4 none) (by simp); have hr3 := HR.out.kept (grown_of hb4 none) (by cases A <;> simp [Value.ownBlock]); have hX3 := btr HBX.out hb4 (Nat.le_refl _); have c3 := hv3.cell; have c3a := fun o => (hv3.alloc o).cell; have z3 := hX3.size; have HV3 := Lib.hid hv3; have HR3 := Lib.hid hr3; have HX3 := Lib.hid hX3; have HB4 := Lib.hid hb4; have HX03 := Lib.hid (HX0.out.kept (grown_of hb4 none) (by simp)); clear hb4 hv3 hr3 hX3 hb3)
        refine wpAnyIn_ready (rs := [0, 4]) (by kernel_rfl) (by simp) ?_
        refine AllReadyIn.cons rfl (fun K hK => ?_) ?_
        · go_simp
          refine hK _ _ ?_
          clear hK K
          refine wpAnyIn_ready (rs := [4]) (by kernel_rfl) (by simp) ?_
          refine AllReadyIn.cons rfl (fun K hK => ?_) ?_
          · go_simp
            refine hK _ _ ?_
            clear hK K
            refine wpAnyIn_tail _ 5 _ _ _ (by rfl) (by kernel_rfl) ?_
            gi_wp2_with (gi_at_builtin; refine wpListIn_append_own _ rfl _ _ 54 rfl w.heap.size 3 i0 (.int .i64 0) 1 8 Try.underlying54 hi hz0 hzs hz2 rfl (by decide) _ _ _ rfl (HR3.out.alloc _) ⟨X3.heap.size, 0, none⟩ 1 1 [.int .i64 (fx : Int)] rfl rfl (cells1_new X3 _ _) (by simp [Value.oneCell']) (by unfold maxLen; omega) (by omega) (by simp; omega) ?_; intro v' w1 hown' hgrow _; obtain ⟨g', cap', rfl⟩ := ownsRow_succ hown'; have hv1 := ((HV3.out.alloc _).kept hgrow (HV3.out.not_row (by decide) HR3.out)); have hx1 := ((HX03.out.alloc _).kept hgrow (HX03.out.not_row (by decide) HR3.out)); have HX1 := Lib.hid hx1; have HP := Lib.hid (int_push' (w := w) HB4.out HV3.out HR3.out hown' hgrow HX3.out (Nat.le_refl _) (Nat.le_succ _) W2.heap.size); have c2 := hv1.cell; have f2 := hv1.frozen; clear hv1 hx1 hown' hgrow)
            refine .inl ⟨rfl, HP.out.2.2.1, HP.out.2.2.2.1, ⟨⟨⟨_, HP.out.1, ?_, trivial⟩, HP.out.2.2.2.2⟩, HX1.out.other (by omega) _⟩⟩
            rw [← HP0.out, List.length_append, cellsI_snoc]
            exact HP.out.2.1
          exact AllReadyIn.nil
        refine AllReadyIn.cons rfl (fun K hK => ?_) ?_
        · go_simp
          refine hK _ _ ?_
          clear hK K
          refine wpAnyIn_ready (rs := [0]) (by kernel_rfl) (by simp) ?_
          refine AllReadyIn.cons rfl (fun K hK => ?_) ?_
          · go_simp
            refine hK _ _ ?_
            clear hK K
            refine wpAnyIn_tail _ 5 _ _ _ (by rfl) (by kernel_rfl) ?_
            gi_wp2_with (gi_at_builtin; refine wpListIn_append_own _ rfl _ _ 54 rfl w.heap.size 3 i0 (.int .i64 0) 1 8 Try.underlying54 hi hz0 hzs hz2 rfl (by decide) _ _ _ rfl (HR3.out.alloc _) ⟨X3.heap.size, 0, none⟩ 1 1 [.int .i64 (fx : Int)] rfl rfl (cells1_new X3 _ _) (by simp [Value.oneCell']) (by unfold maxLen; omega) (by omega) (by simp; omega) ?_; intro v' w1 hown' hgrow _; obtain ⟨g', cap', rfl⟩ := ownsRow_succ hown'; have hv1 := ((HV3.out.alloc _).kept hgrow (HV3.out.not_row (by decide) HR3.out)); have hx1 := ((HX03.out.alloc _).kept hgrow (HX03.out.not_row (by decide) HR3.out)); have HX1 := Lib.hid hx1; have HP := Lib.hid (int_push' (w := w) HB4.out HV3.out HR3.out hown' hgrow HX3.out (Nat.le_refl _) (Nat.le_succ _) W2.heap.size); have c2 := hv1.cell; have f2 := hv1.frozen; clear hv1 hx1 hown' hgrow)
            refine .inl ⟨rfl, HP.out.2.2.1, HP.out.2.2.2.1, ⟨⟨⟨_, HP.out.1, ?_, trivial⟩, HP.out.2.2.2.2⟩, HX1.out.other (by omega) _⟩⟩
            rw [← HP0.out, List.length_append, cellsI_snoc]
            exact HP.out.2.1
          exact AllReadyIn.nil
        exact AllReadyIn.nil
      exact AllReadyIn.nil
    exact AllReadyIn.nil

end Go.Proofs.Ytgklkjccfnbcdaa
