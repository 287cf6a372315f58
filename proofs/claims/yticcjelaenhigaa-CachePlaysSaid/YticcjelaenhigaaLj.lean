/- Package cache, its lists: add. -/
import Derived.Test.YticcjelaenhigaaLi
namespace Go.Proofs.Yticcjelaenhigaa
open Go.RowKit Go.Shelf

attribute [local go_sem] Oper.semAt_some

theorem add0' (b : Nat) : (⟨b, 0, none⟩ : Addr).add 0 = ⟨b, 0, none⟩ := by rw [Addr.add_lit]
/-- What add returns and leaves. -/
def AdP (w : World) (O : Nat → Prop) (p : Nat) (k : Kl) (z : List Int) (e : Ending) (w' : World) : Prop :=
  (256 < k.l.length + z.length → e = .returned (.int .i64 6) ∧ Below w.heap.size w w') ∧ (¬ 256 < k.l.length + z.length → e = .returned (.int .i64 0) ∧ KMut w O p (addK k z) w')
/-- What the rounds have added. -/
def AdS (w : World) (O : Nat → Prop) (p b N0 : Nat) (k : Kl) (z : List Int) (pre : List Nat) (X : World) : Prop :=
  Boxed X b 69 (.pointer (some ⟨p, 0, none⟩)) ∧ (∃ O' V, KAt X O' p V { k with l := k.l ++ pre.map (fun i => z.getD i 0) } ∧ ∀ j, O' j → O j ∨ N0 ≤ j) ∧ Keep O w X ∧ N0 ≤ X.heap.size
theorem boxed_keep {B b : Nat} {t : TypeId} {v : Value} {X Y : World} {row : Option Nat} (h : Boxed X b t v) (hg : X.grownBy Y row) (hr : ∀ r, row = some r → B ≤ r ∧ ∃ o : Obj, X.heap[r]? = some o ∧ o.isCells = false) : Boxed Y b t v :=
  h.kept hg (fun e => by obtain ⟨_, o, ho, hc⟩ := hr b e.symm; rw [show X.heap[b]? = _ from h] at ho; cases ho; cases hc)
theorem adS_own {w : World} {O : Nat → Prop} {p b N0 : Nat} {k : Kl} {z : List Int} {B : Nat} (hB : w.heap.size ≤ B) : OwnFrom B (AdS w O p b N0 k z) := fun pre X Y row hs hg hr => by
  obtain ⟨h1, ⟨O', V, h2, h3⟩, h4, h5⟩ := hs
  refine ⟨boxed_keep h1 hg hr, ⟨O', V, h2.grown hg (fun r e => (hr r e).2), h3⟩, ⟨hg.os.trans h4.os, hg.tape.trans h4.tape, hg.output.trans h4.output, Nat.le_trans h4.size hg.size, fun j hj ho => (hg.block j (Nat.lt_of_lt_of_le hj h4.size) (fun e => ?_)).trans (h4.block j hj ho)⟩, Nat.le_trans h5 hg.size⟩
  have := (hr j e.symm).1
  omega
theorem map_rev (z : List Int) : ((List.range z.length).reverse).map (fun i => z.getD i 0) = z.reverse := by
  rw [List.map_reverse]
  congr 1
  refine List.ext_getElem (by simp) fun i h1 h2 => ?_
  simp at h1
  simp [h1]

set_option maxRecDepth 100000 in
set_option maxHeartbeats 4000000 in
theorem ladd_any {w : World} {O P : Nat → Prop} {p c : Nat} {k : Kl} {z : List Int} {A : Option Addr} (h : KOb w O p k) (hz : IAt P w A z) (hzO : ∀ g, P g → ¬ O g) (hzl : z.length ≤ 9223372036854775807) :
    Calls Try.prog 60 #[.pointer (some ⟨p, 0, none⟩), .slice A z.length c] w (AdP w O p k z) := by
  have HBW := Lib.hid (slBackward_any A z.length c)
  obtain ⟨V, h⟩ := h
  obtain ⟨i0, hi, hz0, hz1, hz2⟩ := info_parts info3
  have HI := Lib.hid (And.intro hi (And.intro hz0 (And.intro hz1 hz2)))
  clear hi hz0 hz1 hz2
  obtain ⟨A2, c2', rfl, h1, h2⟩ := h.form
  obtain ⟨W0, hW0⟩ : ∃ W0, w.alloc (.cells #[.pointer (some ⟨p, 0, none⟩)] 69) = W0 := ⟨_, rfl⟩
  have hb0 : Below w.heap.size w W0 := by rw [← hW0]; exact bnew _ _
  have x0 : Boxed W0 w.heap.size 69 (.pointer (some ⟨p, 0, none⟩)) := by rw [← hW0]; exact Boxed.new w 69 _
  have hs0 : W0.heap.size = w.heap.size + 1 := by rw [← hW0]; simp
  have HH := Lib.hid h
  have HZ := Lib.hid (hz.mono (P' := fun g => P g ∧ g < w.heap.size) (fun g hg hp => ⟨hp, hg⟩))
  have HZO := Lib.hid hzO
  have c2 := (h.below hb0).cells.2.2.1
  have cb := x0.cell
  have hlen := h.wf.len
  obtain ⟨n, hn⟩ : ∃ n, k.l.length = n := ⟨_, rfl⟩
  obtain ⟨N, hN⟩ : ∃ N, z.length = N := ⟨_, rfl⟩
  have HN := Lib.hid (And.intro hn hN)
  have HB := Lib.hid (And.intro hb0 (And.intro x0 hs0))
  rw [hn] at c2 hlen
  rw [hN] at hzl HBW ⊢
  obtain ⟨q1, q2⟩ := w64 (256 - (n : Int)) (by omega)
  clear h hz hzO hb0 x0 hs0 hn hN h1 h2
  refine (callsIn_wide (n := 20)).1 ?_
  refine callsIn_of_wp_marks Try.func60 rfl trivial ?_ rfl
  simp only [Try.ntmps60, List.size_toArray, List.length_cons, List.length_nil, Nat.reduceAdd, Nat.reduceSub, Array.replicate_succ, Array.replicate_zero, List.push_toArray, List.append_toArray, List.nil_append, List.cons_append]
  by_cases hbig : 256 < n + N
  · have d1 : decide (256 - (n : Int) < (N : Int)) = true := decide_eq_true (by omega)
    gi_wp2
    have HF : AdP w O p k z (.returned (.int .i64 6)) W0 := ⟨fun _ => ⟨rfl, HB.out.1⟩, fun h => absurd (by rw [HN.out.1, HN.out.2]; exact hbig) h⟩
    exact ⟨.int .i64 6, by simp [results, Try.results60, go_sem], HF⟩
  · have d1 : decide (256 - (n : Int) < (N : Int)) = false := decide_eq_false (by omega)
    gi_wp2_with (refine ⟨trivial, ?_⟩; gi_at_call 72; refine (callsIn_wide.2 (HBW.out _)).mono ?_; rintro e W2 ⟨rfl, hW2⟩)
    have hb2 : Below W0.heap.size W0 W2 := by rw [← hW2]; exact bnew _ _
    have hs2 : W2.heap.size = w.heap.size + 2 := by rw [← hW2]; simp; exact HB.out.2.2
    have x2 : Boxed W2 W0.heap.size 33 (.slice A N c) := by rw [← hW2]; exact Boxed.new W0 33 _
    have x1 : Boxed W2 w.heap.size 69 (.pointer (some ⟨p, 0, none⟩)) := (hb2.block _ HB.out.2.1.lt).trans HB.out.2.1
    have hbw : Below w.heap.size w W2 := btr HB.out.1 hb2 (Nat.le_refl _)
    have HSQ := Lib.hid (bw_seq (n := 19) (by omega) (Zs := fun b => O b ∨ W2.heap.size ≤ b) HN.out.2 (by omega) (HZ.out.below hbw) x2 (fun hx => by
      rcases hx with hx | hx
      · have := HH.out.lt _ hx; have := HB.out.2.2; omega
      · have := HB.out.2.2; omega) (fun g hg hx => by
      rcases hx with hx | hx
      · exact HZO.out g hg.1 hx
      · have := hbw.size; omega))
    have HZR := Lib.hid HZ.out.inr
    have HS2 := Lib.hid (And.intro hs2 HB.out.2.2)
    have HBW2 := Lib.hid hbw
    have HX1 := Lib.hid x1
    have hs0 : W0.heap.size = w.heap.size + 1 := HB.out.2.2
    have HK2 := Lib.hid (HH.out.below hbw)
    have hnN : n + N ≤ 256 := by omega
    clear hW2 x2 x1 hs2 hb2 hbw q1 q2 d1 cb c2 hW0
    gi_wp2
    rw [hs0] at HSQ ⊢
    refine over (by omega) (gf := 78) (lb := #[.pointer (some ⟨w.heap.size + 1, 0, none⟩)]) rfl (enters_of Try.func78 (by kernel_rfl) rfl) HSQ.out (Below.refl _ _) (fun _ => rfl)
      (AdS w O p w.heap.size W2.heap.size k z) (fun _ _ => False)
      (adS_own (by have := HS2.out; omega)) (fun _ _ _ _ hs _ _ => hs)
      ⟨HX1.out, ⟨O, _, by simpa using HK2.out, fun _ h => .inl h⟩, Keep.of HBW2.out, Nat.le_refl _⟩
      (fun x => { tmps := #[.pointer (some ⟨p, 0, none⟩), .slice A N c, .pointer (some ⟨w.heap.size, 0, none⟩), undef, .int .i64 0, undef, .int .i64 (z.getD x 0), .slice A N c, .int .i64 N, .pointer (some ⟨p, 0, none⟩), .pointer (some ⟨p, 0, none⟩), .pointer (some ⟨p, 2, none⟩), .slice A2 n c2', .int .i64 n, .int .i64 (256 - (n : Int)), .bool false, .slice A N c, .func (.func 78) #[] #[.pointer (some ⟨w.heap.size + 1, 0, none⟩)], .int .i64 x, .int .i64 (z.getD x 0), undef, undef, undef, undef, undef, undef, undef, undef, undef, undef], defers := [] })
      ?assign ?body ?done ?stop
    case assign =>
      intro l x W K hK
      unfold encB
      gi_wp2
      simpa using hK
    case stop =>
      rintro D pre X hD hpre h hK
      exact h.elim
    case done =>
      rintro D X hD ⟨hx, ⟨O', V', hk, hO'⟩, hkp, _⟩ hK
      have HE : ∀ (tmps : Array Value), tmps[4]? = some (.int .i64 0) → LeavesInM Fence.wide 20 Try.prog Try.f60 tmps (AdP w O p k z) [{ target := .collected D, args := #[] }] .returning X := by
        intro tmps t4
        refine ⟨by simp, .inl ⟨_, _, rfl, run_takeDeferred hK, ?_⟩⟩
        refine ⟨.int .i64 0, by simp [results, Try.results60, go_sem, t4], fun hh => absurd hh (by rw [HN.out.1, HN.out.2]; exact hbig), fun _ => ⟨rfl, ?_⟩⟩
        have hg : X.grownBy (X.putObj D (.deferred none)) (some D) := grownBy_putObj' X D _
        have hw2 : w.heap.size ≤ D := by have := HS2.out; omega
        have hKX : Keep O w (X.putObj D (.deferred none)) := ⟨hg.os.trans hkp.os, hg.tape.trans hkp.tape, hg.output.trans hkp.output, Nat.le_trans hkp.size hg.size, fun j hj ho => (hg.block j (Nat.lt_of_lt_of_le hj hkp.size) (fun e => by injection e with e; omega)).trans (hkp.block j hj ho)⟩
        have hkX := hk.grown hg (fun r e => by injection e with e; subst e; exact ⟨_, hK, rfl⟩)
        refine ⟨⟨V', ?_⟩, hKX⟩
        have hmr := map_rev z
        rw [HN.out.2] at hmr
        rw [hmr] at hkX
        exact hkX.mono (fun j hj => by
          rcases hO' j hj with h1 | h1
          · exact .inl h1
          · exact .inr ⟨by have := HBW2.out.size; omega, hkX.lt j hj⟩) (Ext.lt HH.out.lt hKX.size)
      have HE := Lib.hid HE
      clear hx hk hO' hkp hK
      gi_wp2
      exact HE.out _ rfl
    case body =>
      rintro l pre x X hx ⟨hx1, ⟨O', V', hk, hO'⟩, hkp, hXW⟩ hlen2
      rw [List.length_reverse, List.length_range] at hlen2
      obtain ⟨K1, hK1⟩ : ∃ K1 : Kl, { k with l := k.l ++ pre.map (fun i => z.getD i 0) } = K1 := ⟨_, rfl⟩
      rw [hK1] at hk
      have hm1 : K1.l.length = n + pre.length := by rw [← hK1]; simp [HN.out.1]
      obtain ⟨A3, c3, rfl, h1, h2⟩ := hk.form
      obtain ⟨m, hm⟩ : ∃ m, K1.l.length = m := ⟨_, rfl⟩
      have HK1 := Lib.hid (And.intro hm hk)
      rw [hm] at h1 hk
      have hm256 : m < 256 := by omega
      have HR := Lib.hid ((hk.row.below (bnew X (.cells #[.int .i64 (z.getD x 0)] 3))).below (w' := X.drew.alloc (.cells #[.int .i64 (z.getD x 0)] 3)) ⟨rfl, rfl, rfl, Nat.le_refl _, fun _ _ => rfl⟩)
      have cX := hk.cells.2.2.1
      have cXa := fun o => (hk.below (bnew X o)).cells.2.2.1
      have dX := hx1.cell
      have dXa := fun o => (hx1.alloc o).cell
      have hzr : InR (z.getD x 0) := by
        rw [List.getD_eq_getElem?_getD, List.getElem?_eq_getElem (by have := HN.out.2; omega)]
        exact HZR.out _ (List.getElem_mem _)
      have HD5 := Lib.hid (fun (w5 : World) (hgr : (X.drew.alloc (.cells #[.int .i64 (z.getD x 0)] 3)).grownBy w5 (Value.slice A3 m c3).ownBlock) => show w5.cell? ⟨p, 2, none⟩ = some (.slice A3 m c3) ∧ w5.frozen? ⟨p, 2, none⟩ = false ∧ w5.cell? ⟨w.heap.size, 0, none⟩ = some (.pointer (some ⟨p, 0, none⟩)) from by
        have hp5 : w5.heap[p]? = X.heap[p]? := (hgr.block p (by simp; have := hk.lt _ hk.ob; omega) (fun e => (hk.rowO p e.symm).2 rfl)).trans (Below.heap_alloc _ _ _ (hk.lt _ hk.ob))
        have hcl := hk.hd.of_block hp5
        have hbx : w5.heap[w.heap.size]? = X.heap[w.heap.size]? := (hgr.block _ (by simp; have := hx1.lt; omega) (fun e => by
          have h7 := hO' _ (hk.rowO _ e.symm).1
          rcases h7 with h7 | h7
          · have := HH.out.lt _ h7; omega
          · have := HS2.out; omega)).trans (Below.heap_alloc _ _ _ hx1.lt)
        exact ⟨hcl.cell 2 (by omega), hcl.free 2 (by omega), (World.cell?_of_block (a := ⟨w.heap.size, 0, none⟩) hbx).trans hx1.cell⟩)
      have HFB := Lib.hid (fun (a0 : Act) (v' : Value) (w5 X6 : World) (hrow : OffR w5 3 v' (cZ K1.l ++ [.int .i64 (z.getD x 0)])) (hgr : (X.drew.alloc (.cells #[.int .i64 (z.getD x 0)] 3)).grownBy w5 (Value.slice A3 m c3).ownBlock) (hat : v'.ownBlock = (Value.slice A3 m c3).ownBlock ∨ v'.ownBlock = some (X.drew.alloc (.cells #[.int .i64 (z.getD x 0)] 3)).heap.size) (hs : X6 = w5.setCell ⟨p, 2, none⟩ v') => show BodyO W2.heap.size (fun b => O b ∨ W2.heap.size ≤ b) (AdS w O p w.heap.size W2.heap.size k z) (fun _ _ => False) (pre ++ [x]) X .normal a0 X6 from by
        have hgr' : (X.alloc (.cells #[.int .i64 (z.getD x 0)] 3)).grownBy w5 (Value.slice A3 m c3).ownBlock := ⟨hgr.os, hgr.tape, hgr.output, hgr.size, hgr.block⟩
        obtain ⟨a1, a2, a3⟩ := push_post hk hrow hgr' hat hs hzr (by rw [hm]; exact hm256)
        have hkz : ∀ b, O' b → O b ∨ W2.heap.size ≤ b := hO'
        refine .inl ⟨rfl, a3.from _, ⟨a2.size, fun i hi hz => a2.block i hi.lt (fun ho => hz (hkz i ho))⟩, ?_, ⟨Ext O' X X6, v', ?_, fun j hj => ?_⟩, hkp.trans (a2.mono fun j hj ho => ?_), Nat.le_trans hXW a2.size⟩
        · exact (a2.block _ hx1.lt (fun ho => by
            rcases hO' _ ho with h7 | h7
            · have := HH.out.lt _ h7; omega
            · have := HS2.out; omega)).trans hx1
        · rw [List.map_append, ← List.append_assoc]
          have := a1
          rw [← hK1] at this
          exact this
        · rcases hj with hj | hj
          · exact hkz j hj
          · exact .inr (by omega)
        · rcases hO' j ho with h7 | h7
          · exact .inl h7
          · exact .inr ⟨by have := HBW2.out.size; omega, hj⟩)
      have HCN := Lib.hid (show (X.drew.alloc (.cells #[.int .i64 (z.getD x 0)] 3)).cell? ⟨X.heap.size, 0, none⟩ = some (.int .i64 (z.getD x 0)) from cell_block (heap_alloc_new X.drew _) rfl)
      obtain ⟨hi, hz0, hz1, hz2⟩ := HI.out
      generalize z.getD x 0 = zx at *
      clear hk hx1 hO' hkp hK1 hm1 hm hzr h2 hXW
      gi_wp2
    -- ORDERS
      refine wpIn_region_round (by kernel_rfl) (by kernel_rfl) ?_
      refine wpAnyIn_take (i := 5) (v := ?_) rfl rfl (by kernel_rfl) (by kernel_rfl) (by kernel_rfl) (fun _ _ _ h => h) ⟨Or.inl ⟨by rfl, ?_⟩, fun _ => rfl⟩ ?_
      rotate_left
      · (intro w; go_simp; try with_reducible rfl)
      refine wpAnyIn_ready (rs := [0, 1, 6]) (by kernel_rfl) (by simp) ?_
      refine AllReadyIn.cons rfl (fun K hK => ?_) ?_
      · go_simp
        refine hK _ _ ?_
        clear hK K
        refine wpAnyIn_ready (rs := [1, 6]) (by kernel_rfl) (by simp) ?_
        refine AllReadyIn.cons rfl (fun K hK => ?_) ?_
        · go_simp
          refine hK _ _ ?_
          clear hK K
          refine wpAnyIn_take (i := 2) (v := ?_) rfl rfl (by kernel_rfl) (by kernel_rfl) (by kernel_rfl) (fun _ _ _ h => h) ⟨Or.inl ⟨by rfl, ?_⟩, fun _ => rfl⟩ ?_
          rotate_left
          · (intro w; go_simp; try with_reducible rfl)
          refine wpAnyIn_take (i := 3) (v := ?_) rfl rfl (by kernel_rfl) (by kernel_rfl) (by kernel_rfl) (fun _ _ _ h => h) ⟨Or.inl ⟨by rfl, ?_⟩, fun _ => rfl⟩ ?_
          rotate_left
          · (intro w; go_simp; try with_reducible rfl)
          refine wpAnyIn_ready (rs := [4, 6]) (by kernel_rfl) (by simp) ?_
          refine AllReadyIn.cons rfl (fun K hK => ?_) ?_
          · go_simp
            refine hK _ _ ?_
            clear hK K
            refine wpAnyIn_ready (rs := [6]) (by kernel_rfl) (by simp) ?_
            refine AllReadyIn.cons rfl (fun K hK => ?_) ?_
            · go_simp
              refine hK _ _ ?_
              clear hK K
              refine wpAnyIn_tail _ 7 _ _ _ (by rfl) (by kernel_rfl) ?_
              clear cX cXa dX dXa
              gi_wp2_with (gi_at_builtin; refine wpListIn_append_off _ rfl _ _ 33 rfl 3 i0 (.int .i64 0) 8 undInts hi hz0 hz1 hz2 rfl (.slice A3 m c3) (cZ K1.l) rfl HR.out ⟨X.heap.size, 0, none⟩ 1 (.int .i64 zx) rfl HCN.out (add0' _) rfl (by rw [cZ_len, HK1.out.1]; unfold maxLen; omega) (by rw [cZ_len, HK1.out.1]; omega) ?_; intro g5 q5 cp5 w5 hown hgrow hat; rw [cZ_len, HK1.out.1] at hown hat ⊢; obtain ⟨y1, u1, y2⟩ := HD5.out _ hgrow; have HA5 := Lib.hid (And.intro hown (And.intro hgrow hat)); clear hown hgrow hat)
              exact HFB.out _ _ _ _ HA5.out.1 HA5.out.2.1 HA5.out.2.2 rfl
            exact AllReadyIn.nil
          refine AllReadyIn.cons rfl (fun K hK => ?_) ?_
          · go_simp
            refine hK _ _ ?_
            clear hK K
            refine wpAnyIn_ready (rs := [4]) (by kernel_rfl) (by simp) ?_
            refine AllReadyIn.cons rfl (fun K hK => ?_) ?_
            · go_simp
              refine hK _ _ ?_
              clear hK K
              refine wpAnyIn_tail _ 7 _ _ _ (by rfl) (by kernel_rfl) ?_
              clear cX cXa dX dXa
              gi_wp2_with (gi_at_builtin; refine wpListIn_append_off _ rfl _ _ 33 rfl 3 i0 (.int .i64 0) 8 undInts hi hz0 hz1 hz2 rfl (.slice A3 m c3) (cZ K1.l) rfl HR.out ⟨X.heap.size, 0, none⟩ 1 (.int .i64 zx) rfl HCN.out (add0' _) rfl (by rw [cZ_len, HK1.out.1]; unfold maxLen; omega) (by rw [cZ_len, HK1.out.1]; omega) ?_; intro g5 q5 cp5 w5 hown hgrow hat; rw [cZ_len, HK1.out.1] at hown hat ⊢; obtain ⟨y1, u1, y2⟩ := HD5.out _ hgrow; have HA5 := Lib.hid (And.intro hown (And.intro hgrow hat)); clear hown hgrow hat)
              exact HFB.out _ _ _ _ HA5.out.1 HA5.out.2.1 HA5.out.2.2 rfl
            exact AllReadyIn.nil
          exact AllReadyIn.nil
        refine AllReadyIn.cons rfl (fun K hK => ?_) ?_
        · go_simp
          refine hK _ _ ?_
          clear hK K
          refine wpAnyIn_ready (rs := [1]) (by kernel_rfl) (by simp) ?_
          refine AllReadyIn.cons rfl (fun K hK => ?_) ?_
          · go_simp
            refine hK _ _ ?_
            clear hK K
            refine wpAnyIn_take (i := 2) (v := ?_) rfl rfl (by kernel_rfl) (by kernel_rfl) (by kernel_rfl) (fun _ _ _ h => h) ⟨Or.inl ⟨by rfl, ?_⟩, fun _ => rfl⟩ ?_
            rotate_left
            · (intro w; go_simp; try with_reducible rfl)
            refine wpAnyIn_take (i := 3) (v := ?_) rfl rfl (by kernel_rfl) (by kernel_rfl) (by kernel_rfl) (fun _ _ _ h => h) ⟨Or.inl ⟨by rfl, ?_⟩, fun _ => rfl⟩ ?_
            rotate_left
            · (intro w; go_simp; try with_reducible rfl)
            refine wpAnyIn_ready (rs := [4]) (by kernel_rfl) (by simp) ?_
            refine AllReadyIn.cons rfl (fun K hK => ?_) ?_
            · go_simp
              refine hK _ _ ?_
              clear hK K
              refine wpAnyIn_tail _ 7 _ _ _ (by rfl) (by kernel_rfl) ?_
              clear cX cXa dX dXa
              gi_wp2_with (gi_at_builtin; refine wpListIn_append_off _ rfl _ _ 33 rfl 3 i0 (.int .i64 0) 8 undInts hi hz0 hz1 hz2 rfl (.slice A3 m c3) (cZ K1.l) rfl HR.out ⟨X.heap.size, 0, none⟩ 1 (.int .i64 zx) rfl HCN.out (add0' _) rfl (by rw [cZ_len, HK1.out.1]; unfold maxLen; omega) (by rw [cZ_len, HK1.out.1]; omega) ?_; intro g5 q5 cp5 w5 hown hgrow hat; rw [cZ_len, HK1.out.1] at hown hat ⊢; obtain ⟨y1, u1, y2⟩ := HD5.out _ hgrow; have HA5 := Lib.hid (And.intro hown (And.intro hgrow hat)); clear hown hgrow hat)
              exact HFB.out _ _ _ _ HA5.out.1 HA5.out.2.1 HA5.out.2.2 rfl
            exact AllReadyIn.nil
          exact AllReadyIn.nil
        exact AllReadyIn.nil
      refine AllReadyIn.cons rfl (fun K hK => ?_) ?_
      · go_simp
        refine hK _ _ ?_
        clear hK K
        refine wpAnyIn_take (i := 2) (v := ?_) rfl rfl (by kernel_rfl) (by kernel_rfl) (by kernel_rfl) (fun _ _ _ h => h) ⟨Or.inl ⟨by rfl, ?_⟩, fun _ => rfl⟩ ?_
        rotate_left
        · (intro w; go_simp; try with_reducible rfl)
        refine wpAnyIn_take (i := 3) (v := ?_) rfl rfl (by kernel_rfl) (by kernel_rfl) (by kernel_rfl) (fun _ _ _ h => h) ⟨Or.inl ⟨by rfl, ?_⟩, fun _ => rfl⟩ ?_
        rotate_left
        · (intro w; go_simp; try with_reducible rfl)
        refine wpAnyIn_ready (rs := [0, 4, 6]) (by kernel_rfl) (by simp) ?_
        refine AllReadyIn.cons rfl (fun K hK => ?_) ?_
        · go_simp
          refine hK _ _ ?_
          clear hK K
          refine wpAnyIn_ready (rs := [4, 6]) (by kernel_rfl) (by simp) ?_
          refine AllReadyIn.cons rfl (fun K hK => ?_) ?_
          · go_simp
            refine hK _ _ ?_
            clear hK K
            refine wpAnyIn_ready (rs := [6]) (by kernel_rfl) (by simp) ?_
            refine AllReadyIn.cons rfl (fun K hK => ?_) ?_
            · go_simp
              refine hK _ _ ?_
              clear hK K
              refine wpAnyIn_tail _ 7 _ _ _ (by rfl) (by kernel_rfl) ?_
              clear cX cXa dX dXa
              gi_wp2_with (gi_at_builtin; refine wpListIn_append_off _ rfl _ _ 33 rfl 3 i0 (.int .i64 0) 8 undInts hi hz0 hz1 hz2 rfl (.slice A3 m c3) (cZ K1.l) rfl HR.out ⟨X.heap.size, 0, none⟩ 1 (.int .i64 zx) rfl HCN.out (add0' _) rfl (by rw [cZ_len, HK1.out.1]; unfold maxLen; omega) (by rw [cZ_len, HK1.out.1]; omega) ?_; intro g5 q5 cp5 w5 hown hgrow hat; rw [cZ_len, HK1.out.1] at hown hat ⊢; obtain ⟨y1, u1, y2⟩ := HD5.out _ hgrow; have HA5 := Lib.hid (And.intro hown (And.intro hgrow hat)); clear hown hgrow hat)
              exact HFB.out _ _ _ _ HA5.out.1 HA5.out.2.1 HA5.out.2.2 rfl
            exact AllReadyIn.nil
          refine AllReadyIn.cons rfl (fun K hK => ?_) ?_
          · go_simp
            refine hK _ _ ?_
            clear hK K
            refine wpAnyIn_ready (rs := [4]) (by kernel_rfl) (by simp) ?_
            refine AllReadyIn.cons rfl (fun K hK => ?_) ?_
            · go_simp
              refine hK _ _ ?_
              clear hK K
              refine wpAnyIn_tail _ 7 _ _ _ (by rfl) (by kernel_rfl) ?_
              clear cX cXa dX dXa
              gi_wp2_with (gi_at_builtin; refine wpListIn_append_off _ rfl _ _ 33 rfl 3 i0 (.int .i64 0) 8 undInts hi hz0 hz1 hz2 rfl (.slice A3 m c3) (cZ K1.l) rfl HR.out ⟨X.heap.size, 0, none⟩ 1 (.int .i64 zx) rfl HCN.out (add0' _) rfl (by rw [cZ_len, HK1.out.1]; unfold maxLen; omega) (by rw [cZ_len, HK1.out.1]; omega) ?_; intro g5 q5 cp5 w5 hown hgrow hat; rw [cZ_len, HK1.out.1] at hown hat ⊢; obtain ⟨y1, u1, y2⟩ := HD5.out _ hgrow; have HA5 := Lib.hid (And.intro hown (And.intro hgrow hat)); clear hown hgrow hat)
              exact HFB.out _ _ _ _ HA5.out.1 HA5.out.2.1 HA5.out.2.2 rfl
            exact AllReadyIn.nil
          exact AllReadyIn.nil
        refine AllReadyIn.cons rfl (fun K hK => ?_) ?_
        · go_simp
          refine hK _ _ ?_
          clear hK K
          refine wpAnyIn_ready (rs := [0, 6]) (by kernel_rfl) (by simp) ?_
          refine AllReadyIn.cons rfl (fun K hK => ?_) ?_
          · go_simp
            refine hK _ _ ?_
            clear hK K
            refine wpAnyIn_ready (rs := [6]) (by kernel_rfl) (by simp) ?_
            refine AllReadyIn.cons rfl (fun K hK => ?_) ?_
            · go_simp
              refine hK _ _ ?_
              clear hK K
              refine wpAnyIn_tail _ 7 _ _ _ (by rfl) (by kernel_rfl) ?_
              clear cX cXa dX dXa
              gi_wp2_with (gi_at_builtin; refine wpListIn_append_off _ rfl _ _ 33 rfl 3 i0 (.int .i64 0) 8 undInts hi hz0 hz1 hz2 rfl (.slice A3 m c3) (cZ K1.l) rfl HR.out ⟨X.heap.size, 0, none⟩ 1 (.int .i64 zx) rfl HCN.out (add0' _) rfl (by rw [cZ_len, HK1.out.1]; unfold maxLen; omega) (by rw [cZ_len, HK1.out.1]; omega) ?_; intro g5 q5 cp5 w5 hown hgrow hat; rw [cZ_len, HK1.out.1] at hown hat ⊢; obtain ⟨y1, u1, y2⟩ := HD5.out _ hgrow; have HA5 := Lib.hid (And.intro hown (And.intro hgrow hat)); clear hown hgrow hat)
              exact HFB.out _ _ _ _ HA5.out.1 HA5.out.2.1 HA5.out.2.2 rfl
            exact AllReadyIn.nil
          refine AllReadyIn.cons rfl (fun K hK => ?_) ?_
          · go_simp
            refine hK _ _ ?_
            clear hK K
            refine wpAnyIn_ready (rs := [0, 7]) (by kernel_rfl) (by simp) ?_
            refine AllReadyIn.cons rfl (fun K hK => ?_) ?_
            · go_simp
              refine hK _ _ ?_
              clear hK K
              refine wpAnyIn_tail _ 7 _ _ _ (by rfl) (by kernel_rfl) ?_
              clear cX cXa dX dXa
              gi_wp2_with (gi_at_builtin; refine wpListIn_append_off _ rfl _ _ 33 rfl 3 i0 (.int .i64 0) 8 undInts hi hz0 hz1 hz2 rfl (.slice A3 m c3) (cZ K1.l) rfl HR.out ⟨X.heap.size, 0, none⟩ 1 (.int .i64 zx) rfl HCN.out (add0' _) rfl (by rw [cZ_len, HK1.out.1]; unfold maxLen; omega) (by rw [cZ_len, HK1.out.1]; omega) ?_; intro g5 q5 cp5 w5 hown hgrow hat; rw [cZ_len, HK1.out.1] at hown hat ⊢; obtain ⟨y1, u1, y2⟩ := HD5.out _ hgrow; have HA5 := Lib.hid (And.intro hown (And.intro hgrow hat)); clear hown hgrow hat)
              exact HFB.out _ _ _ _ HA5.out.1 HA5.out.2.1 HA5.out.2.2 rfl
            refine AllReadyIn.cons rfl (fun K hK => ?_) ?_
            · refine stepIn_append_off _ rfl _ _ 33 rfl 3 i0 (.int .i64 0) 8 undInts hi hz0 hz1 hz2 rfl (.slice A3 m c3) (cZ K1.l) rfl HR.out ⟨X.heap.size, 0, none⟩ 1 (.int .i64 zx) rfl HCN.out (add0' _) rfl (by rw [cZ_len, HK1.out.1]; unfold maxLen; omega) (by rw [cZ_len, HK1.out.1]; omega) ?_
              intro g5 q5 cp5 w5 hown hgrow hat
              rw [cZ_len, HK1.out.1] at hown hat ⊢
              obtain ⟨y1, u1, y2⟩ := HD5.out _ hgrow
              have HA5 := Lib.hid (And.intro hown (And.intro hgrow hat))
              clear hown hgrow hat cX cXa dX dXa
              go_simp
              refine hK _ _ ?_
              clear hK K
              refine wpAnyIn_ready (rs := [0]) (by kernel_rfl) (by simp) ?_
              refine AllReadyIn.cons rfl (fun K hK => ?_) ?_
              · go_simp
                refine hK _ _ ?_
                clear hK K
                refine wpAnyIn_tail _ 8 _ _ _ (by rfl) (by kernel_rfl) ?_
                gi_wp2
                exact HFB.out _ _ _ _ HA5.out.1 HA5.out.2.1 HA5.out.2.2 rfl
              exact AllReadyIn.nil
            exact AllReadyIn.nil
          exact AllReadyIn.nil
        refine AllReadyIn.cons rfl (fun K hK => ?_) ?_
        · go_simp
          refine hK _ _ ?_
          clear hK K
          refine wpAnyIn_ready (rs := [0, 4]) (by kernel_rfl) (by simp) ?_
          refine AllReadyIn.cons rfl (fun K hK => ?_) ?_
          · go_simp
            refine hK _ _ ?_
            clear hK K
            refine wpAnyIn_ready (rs := [4]) (by kernel_rfl) (by simp) ?_
            refine AllReadyIn.cons rfl (fun K hK => ?_) ?_
            · go_simp
              refine hK _ _ ?_
              clear hK K
              refine wpAnyIn_tail _ 7 _ _ _ (by rfl) (by kernel_rfl) ?_
              clear cX cXa dX dXa
              gi_wp2_with (gi_at_builtin; refine wpListIn_append_off _ rfl _ _ 33 rfl 3 i0 (.int .i64 0) 8 undInts hi hz0 hz1 hz2 rfl (.slice A3 m c3) (cZ K1.l) rfl HR.out ⟨X.heap.size, 0, none⟩ 1 (.int .i64 zx) rfl HCN.out (add0' _) rfl (by rw [cZ_len, HK1.out.1]; unfold maxLen; omega) (by rw [cZ_len, HK1.out.1]; omega) ?_; intro g5 q5 cp5 w5 hown hgrow hat; rw [cZ_len, HK1.out.1] at hown hat ⊢; obtain ⟨y1, u1, y2⟩ := HD5.out _ hgrow; have HA5 := Lib.hid (And.intro hown (And.intro hgrow hat)); clear hown hgrow hat)
              exact HFB.out _ _ _ _ HA5.out.1 HA5.out.2.1 HA5.out.2.2 rfl
            exact AllReadyIn.nil
          refine AllReadyIn.cons rfl (fun K hK => ?_) ?_
          · go_simp
            refine hK _ _ ?_
            clear hK K
            refine wpAnyIn_ready (rs := [0, 7]) (by kernel_rfl) (by simp) ?_
            refine AllReadyIn.cons rfl (fun K hK => ?_) ?_
            · go_simp
              refine hK _ _ ?_
              clear hK K
              refine wpAnyIn_tail _ 7 _ _ _ (by rfl) (by kernel_rfl) ?_
              clear cX cXa dX dXa
              gi_wp2_with (gi_at_builtin; refine wpListIn_append_off _ rfl _ _ 33 rfl 3 i0 (.int .i64 0) 8 undInts hi hz0 hz1 hz2 rfl (.slice A3 m c3) (cZ K1.l) rfl HR.out ⟨X.heap.size, 0, none⟩ 1 (.int .i64 zx) rfl HCN.out (add0' _) rfl (by rw [cZ_len, HK1.out.1]; unfold maxLen; omega) (by rw [cZ_len, HK1.out.1]; omega) ?_; intro g5 q5 cp5 w5 hown hgrow hat; rw [cZ_len, HK1.out.1] at hown hat ⊢; obtain ⟨y1, u1, y2⟩ := HD5.out _ hgrow; have HA5 := Lib.hid (And.intro hown (And.intro hgrow hat)); clear hown hgrow hat)
              exact HFB.out _ _ _ _ HA5.out.1 HA5.out.2.1 HA5.out.2.2 rfl
            refine AllReadyIn.cons rfl (fun K hK => ?_) ?_
            · refine stepIn_append_off _ rfl _ _ 33 rfl 3 i0 (.int .i64 0) 8 undInts hi hz0 hz1 hz2 rfl (.slice A3 m c3) (cZ K1.l) rfl HR.out ⟨X.heap.size, 0, none⟩ 1 (.int .i64 zx) rfl HCN.out (add0' _) rfl (by rw [cZ_len, HK1.out.1]; unfold maxLen; omega) (by rw [cZ_len, HK1.out.1]; omega) ?_
              intro g5 q5 cp5 w5 hown hgrow hat
              rw [cZ_len, HK1.out.1] at hown hat ⊢
              obtain ⟨y1, u1, y2⟩ := HD5.out _ hgrow
              have HA5 := Lib.hid (And.intro hown (And.intro hgrow hat))
              clear hown hgrow hat cX cXa dX dXa
              go_simp
              refine hK _ _ ?_
              clear hK K
              refine wpAnyIn_ready (rs := [0]) (by kernel_rfl) (by simp) ?_
              refine AllReadyIn.cons rfl (fun K hK => ?_) ?_
              · go_simp
                refine hK _ _ ?_
                clear hK K
                refine wpAnyIn_tail _ 8 _ _ _ (by rfl) (by kernel_rfl) ?_
                gi_wp2
                exact HFB.out _ _ _ _ HA5.out.1 HA5.out.2.1 HA5.out.2.2 rfl
              exact AllReadyIn.nil
            exact AllReadyIn.nil
          exact AllReadyIn.nil
        exact AllReadyIn.nil
      refine AllReadyIn.cons rfl (fun K hK => ?_) ?_
      · go_simp
        refine hK _ _ ?_
        clear hK K
        refine wpAnyIn_ready (rs := [0, 1]) (by kernel_rfl) (by simp) ?_
        refine AllReadyIn.cons rfl (fun K hK => ?_) ?_
        · go_simp
          refine hK _ _ ?_
          clear hK K
          refine wpAnyIn_ready (rs := [1]) (by kernel_rfl) (by simp) ?_
          refine AllReadyIn.cons rfl (fun K hK => ?_) ?_
          · go_simp
            refine hK _ _ ?_
            clear hK K
            refine wpAnyIn_take (i := 2) (v := ?_) rfl rfl (by kernel_rfl) (by kernel_rfl) (by kernel_rfl) (fun _ _ _ h => h) ⟨Or.inl ⟨by rfl, ?_⟩, fun _ => rfl⟩ ?_
            rotate_left
            · (intro w; go_simp; try with_reducible rfl)
            refine wpAnyIn_take (i := 3) (v := ?_) rfl rfl (by kernel_rfl) (by kernel_rfl) (by kernel_rfl) (fun _ _ _ h => h) ⟨Or.inl ⟨by rfl, ?_⟩, fun _ => rfl⟩ ?_
            rotate_left
            · (intro w; go_simp; try with_reducible rfl)
            refine wpAnyIn_ready (rs := [4]) (by kernel_rfl) (by simp) ?_
            refine AllReadyIn.cons rfl (fun K hK => ?_) ?_
            · go_simp
              refine hK _ _ ?_
              clear hK K
              refine wpAnyIn_tail _ 7 _ _ _ (by rfl) (by kernel_rfl) ?_
              clear cX cXa dX dXa
              gi_wp2_with (gi_at_builtin; refine wpListIn_append_off _ rfl _ _ 33 rfl 3 i0 (.int .i64 0) 8 undInts hi hz0 hz1 hz2 rfl (.slice A3 m c3) (cZ K1.l) rfl HR.out ⟨X.heap.size, 0, none⟩ 1 (.int .i64 zx) rfl HCN.out (add0' _) rfl (by rw [cZ_len, HK1.out.1]; unfold maxLen; omega) (by rw [cZ_len, HK1.out.1]; omega) ?_; intro g5 q5 cp5 w5 hown hgrow hat; rw [cZ_len, HK1.out.1] at hown hat ⊢; obtain ⟨y1, u1, y2⟩ := HD5.out _ hgrow; have HA5 := Lib.hid (And.intro hown (And.intro hgrow hat)); clear hown hgrow hat)
              exact HFB.out _ _ _ _ HA5.out.1 HA5.out.2.1 HA5.out.2.2 rfl
            exact AllReadyIn.nil
          exact AllReadyIn.nil
        refine AllReadyIn.cons rfl (fun K hK => ?_) ?_
        · go_simp
          refine hK _ _ ?_
          clear hK K
          refine wpAnyIn_take (i := 2) (v := ?_) rfl rfl (by kernel_rfl) (by kernel_rfl) (by kernel_rfl) (fun _ _ _ h => h) ⟨Or.inl ⟨by rfl, ?_⟩, fun _ => rfl⟩ ?_
          rotate_left
          · (intro w; go_simp; try with_reducible rfl)
          refine wpAnyIn_take (i := 3) (v := ?_) rfl rfl (by kernel_rfl) (by kernel_rfl) (by kernel_rfl) (fun _ _ _ h => h) ⟨Or.inl ⟨by rfl, ?_⟩, fun _ => rfl⟩ ?_
          rotate_left
          · (intro w; go_simp; try with_reducible rfl)
          refine wpAnyIn_ready (rs := [0, 4]) (by kernel_rfl) (by simp) ?_
          refine AllReadyIn.cons rfl (fun K hK => ?_) ?_
          · go_simp
            refine hK _ _ ?_
            clear hK K
            refine wpAnyIn_ready (rs := [4]) (by kernel_rfl) (by simp) ?_
            refine AllReadyIn.cons rfl (fun K hK => ?_) ?_
            · go_simp
              refine hK _ _ ?_
              clear hK K
              refine wpAnyIn_tail _ 7 _ _ _ (by rfl) (by kernel_rfl) ?_
              clear cX cXa dX dXa
              gi_wp2_with (gi_at_builtin; refine wpListIn_append_off _ rfl _ _ 33 rfl 3 i0 (.int .i64 0) 8 undInts hi hz0 hz1 hz2 rfl (.slice A3 m c3) (cZ K1.l) rfl HR.out ⟨X.heap.size, 0, none⟩ 1 (.int .i64 zx) rfl HCN.out (add0' _) rfl (by rw [cZ_len, HK1.out.1]; unfold maxLen; omega) (by rw [cZ_len, HK1.out.1]; omega) ?_; intro g5 q5 cp5 w5 hown hgrow hat; rw [cZ_len, HK1.out.1] at hown hat ⊢; obtain ⟨y1, u1, y2⟩ := HD5.out _ hgrow; have HA5 := Lib.hid (And.intro hown (And.intro hgrow hat)); clear hown hgrow hat)
              exact HFB.out _ _ _ _ HA5.out.1 HA5.out.2.1 HA5.out.2.2 rfl
            exact AllReadyIn.nil
          refine AllReadyIn.cons rfl (fun K hK => ?_) ?_
          · go_simp
            refine hK _ _ ?_
            clear hK K
            refine wpAnyIn_ready (rs := [0, 7]) (by kernel_rfl) (by simp) ?_
            refine AllReadyIn.cons rfl (fun K hK => ?_) ?_
            · go_simp
              refine hK _ _ ?_
              clear hK K
              refine wpAnyIn_tail _ 7 _ _ _ (by rfl) (by kernel_rfl) ?_
              clear cX cXa dX dXa
              gi_wp2_with (gi_at_builtin; refine wpListIn_append_off _ rfl _ _ 33 rfl 3 i0 (.int .i64 0) 8 undInts hi hz0 hz1 hz2 rfl (.slice A3 m c3) (cZ K1.l) rfl HR.out ⟨X.heap.size, 0, none⟩ 1 (.int .i64 zx) rfl HCN.out (add0' _) rfl (by rw [cZ_len, HK1.out.1]; unfold maxLen; omega) (by rw [cZ_len, HK1.out.1]; omega) ?_; intro g5 q5 cp5 w5 hown hgrow hat; rw [cZ_len, HK1.out.1] at hown hat ⊢; obtain ⟨y1, u1, y2⟩ := HD5.out _ hgrow; have HA5 := Lib.hid (And.intro hown (And.intro hgrow hat)); clear hown hgrow hat)
              exact HFB.out _ _ _ _ HA5.out.1 HA5.out.2.1 HA5.out.2.2 rfl
            refine AllReadyIn.cons rfl (fun K hK => ?_) ?_
            · refine stepIn_append_off _ rfl _ _ 33 rfl 3 i0 (.int .i64 0) 8 undInts hi hz0 hz1 hz2 rfl (.slice A3 m c3) (cZ K1.l) rfl HR.out ⟨X.heap.size, 0, none⟩ 1 (.int .i64 zx) rfl HCN.out (add0' _) rfl (by rw [cZ_len, HK1.out.1]; unfold maxLen; omega) (by rw [cZ_len, HK1.out.1]; omega) ?_
              intro g5 q5 cp5 w5 hown hgrow hat
              rw [cZ_len, HK1.out.1] at hown hat ⊢
              obtain ⟨y1, u1, y2⟩ := HD5.out _ hgrow
              have HA5 := Lib.hid (And.intro hown (And.intro hgrow hat))
              clear hown hgrow hat cX cXa dX dXa
              go_simp
              refine hK _ _ ?_
              clear hK K
              refine wpAnyIn_ready (rs := [0]) (by kernel_rfl) (by simp) ?_
              refine AllReadyIn.cons rfl (fun K hK => ?_) ?_
              · go_simp
                refine hK _ _ ?_
                clear hK K
                refine wpAnyIn_tail _ 8 _ _ _ (by rfl) (by kernel_rfl) ?_
                gi_wp2
                exact HFB.out _ _ _ _ HA5.out.1 HA5.out.2.1 HA5.out.2.2 rfl
              exact AllReadyIn.nil
            exact AllReadyIn.nil
          exact AllReadyIn.nil
        exact AllReadyIn.nil
      exact AllReadyIn.nil
    -- END OF ORDERS
end Go.Proofs.Yticcjelaenhigaa
