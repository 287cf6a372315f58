/- What Make returns. -/
import Derived.Test.YtjloipljecjbaaaMb
import Derived.Maps.AppendAt
import Derived.WalkSmall
namespace Go.Proofs.Ytjloipljecjbaaa
open Go.RowKit Go.Shelf

attribute [local go_sem] Oper.semAt_some

theorem Try.info24 : (Try.prog.info? 24).map (fun i => (i.zero, i.size, i.bytes)) = some (some (.agg #[.int .i64 0, .int .i64 0, .int .i64 0]), 3, 24) := by kernel_rfl

set_option maxHeartbeats 400000 in
theorem candidates_any (waste : Int) (w : World) :
    Calls Try.prog 34 #[.int .i64 waste] w fun e w' => e = .returned (.func (.func 40) #[] #[.pointer (some ⟨w.heap.size, 0, none⟩)]) ∧ w.alloc (.cells #[.int .i64 waste] 3) = w' := by
  go_enter Try.func34, Try.ntmps34
  go_wp2
  go_ret
  exact ⟨rfl, rfl⟩

theorem cand_stops (n : Nat) (hn1 : 1 ≤ n) (Bn : Nat) (waste : Int) (hw2 : 2 ≤ waste) (hw16 : waste ≤ 16) (w : World) (hc : Boxed w Bn 3 (.int .i64 waste)) :
    SeqStopsK Fence.wide n Try.prog 40 #[.pointer (some ⟨Bn, 0, none⟩)] (fun x : Sz => #[valZ waste x]) (KpB Bn 3 (.int .i64 waste)) (fun ys => ys = cands waste) (fun pre => pre <+: cands waste) (cands waste).length w := fun l J Jx W hW hJ _ hY h0 =>
  cand_in n hn1 l Bn waste hw2 hw16 J Jx (fun s A B hs hb => hJ s A B none hs (grown_of hb none) (fun _ h => by cases h)) hY W (hc.kept (row := none) (grown_of hW _) (by simp)) h0

/-- The box of a class. -/
def Box3 (W : World) (B : Nat) (waste : Int) (x : Sz) : Prop := W.heap[B]? = some (.cells #[.int .i64 x.val, .int .i64 (spI x.val waste), .int .i64 (batI x.val)] 24 (0, 0))

theorem cells3_new (w : World) (a b c : Value) (t : TypeId) : ∀ j u, [a, b, c][j]? = some u → (w.alloc (.cells #[a, b, c] t)).cell? ((⟨w.heap.size, 0, none⟩ : Addr).add j) = some u := by
  intro j u h
  have hj : j = 0 ∨ j = 1 ∨ j = 2 := by
    have := (List.getElem?_eq_some_iff.1 h).1
    simp at this
    omega
  have h0 : (w.alloc (.cells #[a, b, c] t)).heap[w.heap.size]? = some (.cells #[a, b, c] t (0, 0)) := World.alloc_heap_new w _
  rcases hj with rfl | rfl | rfl
  · obtain rfl : a = u := by simpa using h
    exact cell_of_row _ _ 0 _ _ _ h0
  · obtain rfl : b = u := by simpa using h
    exact cell_of_row _ _ 1 _ _ _ h0
  · obtain rfl : c = u := by simpa using h
    exact cell_of_row _ _ 2 _ _ _ h0

theorem cells3_at (w : World) (B : Nat) (hB : w.heap.size = B) (a b c : Value) (t : TypeId) : ∀ j u, [a, b, c][j]? = some u → (w.alloc (.cells #[a, b, c] t)).cell? ((⟨B, 0, none⟩ : Addr).add j) = some u := by
  subst hB
  exact cells3_new w a b c t

theorem undrewB {w w' : World} (h : Below w.drew.heap.size w.drew w') : Below w.heap.size w w' := ⟨h.os, h.tape, h.output, h.size, h.block⟩
theorem undrew {w w' : World} {r : Option Nat} (h : w.drew.grownBy w' r) : w.grownBy w' r := ⟨h.os, h.tape, h.output, h.size, h.block⟩

/-- What Make's rounds keep: the table's box and row, the captured waste, all that lay before. -/
def InvM (waste : Int) (w : World) (pre : List Sz) (W : World) : Prop :=
  ((∃ v, Boxed W w.heap.size 22 v ∧ W.ownsRow w.heap.size 24 3 v (mkZ waste pre).length (cellsZ waste (mkZ waste pre)) ∧ True) ∧ Boxed W (w.heap.size + 1) 3 (.int .i64 waste)) ∧ Below w.heap.size w W

/-- Behind the append: the round's end. -/
theorem round_end {waste : Int} {w W W2 w1 : World} {k m : Nat} {xs ys : List Value} {v v' : Value} {tmp : Obj} {pre : List Sz} {B : Nat}
    (hW2 : KeepsOthers W W2) (hv : Boxed W2 w.heap.size 22 v) (hrow : W2.ownsRow w.heap.size 24 3 v k xs) (hW : Boxed W2 (w.heap.size + 1) 3 (.int .i64 waste)) (hB : Below w.heap.size w W2)
    (hown' : w1.ownsRow w.heap.size 24 3 v' m ys) (hgrow : (W2.alloc tmp).grownBy w1 v.ownBlock)
    (hm : m = (mkZ waste pre).length) (hys : ys = cellsZ waste (mkZ waste pre)) :
    KeepsFrom B W (w1.setCell ⟨w.heap.size, 0, none⟩ v') ∧ KpB (w.heap.size + 1) 3 (.int .i64 waste) W (w1.setCell ⟨w.heap.size, 0, none⟩ v') ∧ InvM waste w pre (w1.setCell ⟨w.heap.size, 0, none⟩ v') := by
  obtain ⟨a1, a2, a3, a4, a5⟩ := hv.appended (by decide) hrow hB.size (Nat.le_refl _) hown' hgrow
  have hW' : Boxed (w1.setCell ⟨w.heap.size, 0, none⟩ v') (w.heap.size + 1) 3 (.int .i64 waste) :=
    ((hW.alloc tmp).kept hgrow (hW.not_row (by decide) hrow)).other (by omega) _
  subst hm hys
  exact ⟨(hW2.trans a4).from _, fun _ => hW', ⟨⟨v', a2, a3, trivial⟩, hW'⟩, hB.trans a5⟩

theorem owns_form {W : World} {base : Nat} {e : TypeId} {size : Nat} {v : Value} {k : Nat} {xs : List Value} (h : W.ownsRow base e size v k xs) : ∃ A c, v = .slice A k c := by
  rcases h.2 with ⟨rfl, rfl⟩ | ⟨g, cap, _, rfl, _⟩
  · exact ⟨none, 0, rfl⟩
  · exact ⟨_, cap, rfl⟩

theorem owns_cell {W : World} {base : Nat} {e : TypeId} {size g n cap j : Nat} {xs : List Value} {u : Value} (h : W.ownsRow base e size (.slice (some ⟨g, 0, none⟩) n cap) n xs) (hu : xs[j]? = some u) : W.cell? ⟨g, j, none⟩ = some u := by
  rcases h.2 with ⟨h0, _⟩ | ⟨g', cap', cur, hv, _, hg, _, _, _, ht⟩
  · cases h0
  · cases hv
    rw [cell_of_row _ _ _ _ _ _ hg]
    rw [← ht, List.getElem?_take] at hu
    split at hu
    · simpa using hu
    · cases hu

theorem owns_cap {W : World} {base : Nat} {e : TypeId} {size g n cap : Nat} {xs : List Value} (h : W.ownsRow base e size (.slice (some ⟨g, 0, none⟩) n cap) n xs) : n ≤ cap ∧ cap ≤ maxLen := by
  rcases h.2 with ⟨h0, _⟩ | ⟨g', cap', cur, hv, _, _, hn, hc, _, _⟩
  · cases h0
  · cases hv
    exact ⟨hn, hc⟩

theorem Box3.kept {W W' : World} {row : Option Nat} {B : Nat} {waste : Int} {x : Sz} (h : Box3 W B waste x) (hg : W.grownBy W' row) (hne : some B ≠ row) : Box3 W' B waste x := (hg.block B (Array.getElem?_eq_some_iff.1 h).1 hne).trans h
theorem Box3.cells {W : World} {B : Nat} {waste : Int} {x : Sz} (h : Box3 W B waste x) : W.cell? ⟨B, 0, none⟩ = some (.int .i64 x.val) ∧ W.cell? ⟨B, 1, none⟩ = some (.int .i64 (spI x.val waste)) ∧ W.cell? ⟨B, 2, none⟩ = some (.int .i64 (batI x.val)) := by
  unfold Box3 at h
  exact ⟨by simp [World.cell?, h], by simp [World.cell?, h], by simp [World.cell?, h]⟩

set_option maxRecDepth 100000 in
set_option maxHeartbeats 2000000 in
theorem Make_yes (waste : Int) (hw2 : 2 ≤ waste) (hw16 : waste ≤ 16) (w : World) :
    Calls Try.prog 22 #[.int .i64 waste] w fun e w' => ∃ v, e = .returned (.tuple #[v, .int .i64 0]) ∧ w'.ownsRow w.heap.size 24 3 v (mkZ waste (cands waste)).length (cellsZ waste (mkZ waste (cands waste))) ∧ Below w.heap.size w w' := by
  refine (callsIn_wide (n := 6)).1 ?_
  obtain ⟨i0, hi, hz0, hz1, hz2⟩ := info_parts Try.info24
  refine callsIn_of_wp_marks Try.func22 rfl trivial ?_ rfl
  simp only [Try.ntmps22, List.size_toArray, List.length_cons, List.length_nil, Nat.reduceAdd, Nat.reduceSub, Array.replicate_succ, Array.replicate_zero, List.push_toArray, List.append_toArray, List.nil_append, List.cons_append]
  have hd1 : decide (waste < 2) = false := decide_eq_false (by omega)
  have hd2 : decide (16 < waste) = false := decide_eq_false (by omega)
  gi_wp2_with (refine ⟨trivial, ?_⟩; gi_at_call 34; refine (callsIn_wide.2 (candidates_any _ _)).mono ?_; rintro e w' ⟨rfl, rfl⟩)
  have bT := (Boxed.new w 22 (.slice none 0 0)).alloc (.cells #[.int .i64 waste] 3)
  have bW := Boxed.new (w.alloc (.cells #[.slice none 0 0] 22)) 3 (.int .i64 waste)
  simp only [World.size_alloc] at bW
  have hB0 : Below w.heap.size w ((w.alloc (.cells #[.slice none 0 0] 22)).alloc (.cells #[.int .i64 waste] 3)) := ((Below.refl _ w).alloc (Nat.le_refl _) _).alloc (by simp) _
  have hsz : ((w.alloc (.cells #[.slice none 0 0] 22)).alloc (.cells #[.int .i64 waste] 3)).heap.size = w.heap.size + 2 := by simp
  obtain ⟨W0, hW0⟩ : ∃ W0, (w.alloc (.cells #[.slice none 0 0] 22)).alloc (.cells #[.int .i64 waste] 3) = W0 := ⟨_, rfl⟩
  rw [hW0] at bT bW hB0 hsz ⊢
  clear hW0
  refine wpIn_rangeFunc_ownH rfl (by omega) (gf := 40) (lb := #[.pointer (some ⟨w.heap.size + 1, 0, none⟩)]) rfl trivial (enters_of Try.func40 (by kernel_rfl) rfl)
    (cand_stops 5 (by omega) (w.heap.size + 1) waste hw2 hw16 W0 bW) kpB_t (kpB_b (by omega)) (Below.refl _ _) (fun _ => rfl)
    (InvM waste w)
    (fun _ _ _ => False)
    (OwnFrom.and (OwnFrom.and (Own.from (holdsRow_own w.heap.size w.heap.size 22 24 3 (fun pre => (mkZ waste pre).length) (fun pre => cellsZ waste (mkZ waste pre)) (fun _ _ => True)) _) (Own.from (boxed_own _ _ _) _)) (ownFrom_below (Nat.le_refl _) (by omega)))
    (fun _ _ _ _ _ hs _ _ => hs)
    ⟨⟨⟨_, bT, World.ownsRow_nil _ _ _ _, trivial⟩, bW⟩, hB0⟩
    (fun x a' W => ∃ Bx, w.heap.size + 1 < Bx ∧ Box3 W Bx waste x ∧ a' = { tmps := #[.int .i64 waste, undef, .slice none 0 0, .int .i64 0, .pointer (some ⟨w.heap.size, 0, none⟩), .pointer (some ⟨Bx, 0, none⟩), undef, .int .i64 waste, .bool false, .bool false, .int .i64 waste, .bool false, .bool false, .int .i64 waste, .func (.func 40) #[] #[.pointer (some ⟨w.heap.size + 1, 0, none⟩)], valZ waste x, undef, undef, undef, undef, undef, undef, undef, undef, undef, undef, undef, undef, undef, undef, undef, undef, undef, undef, undef, undef, undef], defers := [] })
    (fun x a' _ X Y row hs hg hr => by obtain ⟨Bx, h1, h2, h3⟩ := hs; exact ⟨Bx, h1, Box3.kept h2 hg (fun e => by obtain ⟨_, o, ho, hc⟩ := hr Bx e.symm; rw [show X.heap[Bx]? = _ from h2] at ho; cases ho; cases hc), h3⟩)
    ?assign ?body ?done ?stop
  case assign =>
    rintro l pre x W K ⟨⟨⟨v, bT1, hrow, _⟩, bW1⟩, hB1⟩ hK
    unfold valZ
    gi_wp2
    exact hK _ _ ((KeepsOthers.alloc _ _).from _) (fun h => h.alloc _) ⟨⟨⟨v, bT1.alloc _, hrow.alloc _, trivial⟩, bW1.alloc _⟩, hB1.alloc hB1.size _⟩ ⟨W.heap.size, bW1.lt, World.alloc_heap_new W _, rfl⟩
  case body =>
    rintro l pre x a' W hl _ ⟨⟨⟨v, bT1, hrow, _⟩, bW1⟩, hB1⟩ ⟨Bx, hBx, bX, rfl⟩ hlt
    have cT := bT1.cell
    have hmx : Try.prog.follows .mixedOrders = true := by kernel_rfl
    obtain ⟨cX0, cX1, cX2⟩ := bX.cells
    rcases List.eq_nil_or_concat (mkZ waste pre) with hnil | ⟨init, d, hsnoc⟩
    · have hmk : mkZ waste (pre ++ [x]) = [x] := by rw [mkZ_snoc, hnil]; rfl
      have hlen : (mkZ waste (pre ++ [x])).length = 1 := by rw [hmk]; rfl
      have hcl : cellsZ waste (mkZ waste (pre ++ [x])) = [.int .i64 x.val, .int .i64 (spI x.val waste), .int .i64 (batI x.val)] := by rw [hmk]; rfl
      have HL := Lib.hid hlen
      have HC := Lib.hid hcl
      rw [hnil] at hrow
      simp only [List.length_nil] at hrow
      clear hlen hcl
      have HM := Lib.hid hmk
      clear hmk hnil
      obtain ⟨A, c, rfl⟩ := owns_form hrow
      gi_wp2
      gi_region_with_o (refine ⟨trivial, ?_⟩)
      all_goals
       gi_wp2_with (gi_at_builtin; refine wpListIn_append_own _ rfl _ _ 22 rfl w.heap.size 24 i0 (.agg #[.int .i64 0, .int .i64 0, .int .i64 0]) 3 24 Try.underlying22 hi hz0 hz1 hz2 rfl (by decide) _ _ _ rfl (hrow.alloc _).drew ⟨W.heap.size, 0, none⟩ 1 1 [.int .i64 x.val, .int .i64 (spI x.val waste), .int .i64 (batI x.val)] rfl rfl (cells3_new W _ _ _ _) (by simp [Value.oneCell']) (by unfold maxLen; omega) (by omega) (by have := hB1.size; simp; omega) ?_; intro v' w1 hown' hgrow _; obtain ⟨g', cap', rfl⟩ := ownsRow_succ hown'; have hgr := undrew hgrow; have hc1 := ((bT1.alloc _).kept hgr (bT1.not_row (by decide) hrow)).cell; have hf1 := ((bT1.alloc _).kept hgr (bT1.not_row (by decide) hrow)).frozen)
       exact round_end (KeepsOthers.refl _) bT1 hrow bW1 hB1 hown' hgr (by rw [HL.out]) (by rw [HC.out]; rfl)
    · rw [List.concat_eq_append] at hsnoc
      obtain ⟨k, hk⟩ : ∃ k, init.length = k := ⟨_, rfl⟩
      have hlen : (mkZ waste pre).length = k + 1 := by rw [hsnoc]; simp [hk]
      have hpre := mkZ_len waste pre
      have hcl := cands_len waste
      rw [hlen] at hrow hpre
      rw [hsnoc, cellsZ_snoc] at hrow
      obtain ⟨g, cap, rfl⟩ := ownsRow_succ hrow
      have hkc := (owns_cap hrow).1
      have hlc : (cellsZ waste init).length = k * 3 := by rw [cellsZ_len, hk]
      have e0 : W.cell? ⟨g, k * 3, none⟩ = some (.int .i64 d.val) := owns_cell hrow (by simp [hlc])
      have e1 : W.cell? ⟨g, k * 3 + 1, none⟩ = some (.int .i64 (spI d.val waste)) := owns_cell hrow (by simp [hlc])
      have e2 : W.cell? ⟨g, k * 3 + 2, none⟩ = some (.int .i64 (batI d.val)) := owns_cell hrow (by simp [hlc])
      have hsame := sameSpans_any d.val (spI d.val waste) (batI d.val) x.val (spI x.val waste) (batI x.val)
      have hsz := fun w => hsame w (spI_bd _ _).1 (spI_bd _ _).2 d.lo d.hi (spI_bd _ _).1 (spI_bd _ _).2 x.lo x.hi
      have HS := Lib.hid hsz
      clear hsame hsz
      have hcap : k + 1 ≤ 64 := by omega
      have hpl : pre.length ≤ 64 := by omega
      cases hsm : sameZ waste d x
      · have hmk : mkZ waste (pre ++ [x]) = mkZ waste pre ++ [x] := by rw [mkZ_snoc, hsnoc, addZ_other _ _ _ _ hsm]
        have hml : (mkZ waste (pre ++ [x])).length = k + 1 + 1 := by rw [hmk, List.length_append, hlen]; rfl
        have hmc : cellsZ waste (mkZ waste (pre ++ [x])) = cellsZ waste init ++ [.int .i64 d.val, .int .i64 (spI d.val waste), .int .i64 (batI d.val)] ++ [.int .i64 x.val, .int .i64 (spI x.val waste), .int .i64 (batI x.val)] := by rw [hmk, cellsZ_snoc, hsnoc, cellsZ_snoc]
        have HL := Lib.hid hml
        have HC := Lib.hid hmc
        unfold sameZ at hsm
        clear hmk hml hmc hsnoc hk hlen hlc hpre hcl
        gi_wp2
        gi_region_with_o (first | (refine ⟨trivial, ?_⟩; gi_at_call 35; refine (CallsIn.inRound l (callsIn_wide.2 (HS.out _))).mono ?_; rintro e w3 ⟨rfl, hb3⟩; have hb4 := undrewB hb3; have bT3 := bT1.kept (grown_of hb4 none) (by simp); have hr3 := hrow.kept (grown_of hb4 none) (.inr (by simp [Value.ownBlock])); have bW3 := bW1.kept (grown_of hb4 none) (by simp); obtain ⟨cY0, cY1, cY2⟩ := (bX.kept (grown_of hb4 none) (by simp)).cells; have cT3 := bT3.cell; have fT3 := bT3.frozen) | (refine ⟨trivial, ?_⟩))
        all_goals
         gi_wp2_with (gi_at_builtin; refine wpListIn_append_own _ rfl _ _ 22 rfl w.heap.size 24 i0 (.agg #[.int .i64 0, .int .i64 0, .int .i64 0]) 3 24 Try.underlying22 hi hz0 hz1 hz2 rfl (by decide) _ _ _ rfl (hr3.alloc _) ⟨w3.heap.size, 0, none⟩ 1 1 [.int .i64 x.val, .int .i64 (spI x.val waste), .int .i64 (batI x.val)] rfl rfl (cells3_new w3 _ _ _ _) (by simp [Value.oneCell']) (by unfold maxLen; omega) (by omega) (by have := hB1.size; have := hb4.size; simp; omega) ?_; intro v' w1 hown' hgrow _; obtain ⟨g', cap', rfl⟩ := ownsRow_succ hown'; have hc1 := ((bT3.alloc _).kept hgrow (bT3.not_row (by decide) hr3)).cell; have hf1 := ((bT3.alloc _).kept hgrow (bT3.not_row (by decide) hr3)).frozen)
         exact round_end (KeepsOthers.of_grownBy (grown_of hb4 none) (by simp)) bT3 hr3 bW3 (btr hB1 hb4 (Nat.le_refl _)) hown' hgrow (by rw [HL.out]) (by rw [HC.out])
      · have hmk : mkZ waste (pre ++ [x]) = init ++ [x] := by rw [mkZ_snoc, hsnoc, addZ_same _ _ _ _ hsm]
        have hml : (mkZ waste (pre ++ [x])).length = k + 1 := by rw [hmk, List.length_append, hk]; rfl
        have hmc : cellsZ waste (mkZ waste (pre ++ [x])) = cellsZ waste init ++ [.int .i64 x.val, .int .i64 (spI x.val waste), .int .i64 (batI x.val)] := by rw [hmk, cellsZ_snoc]
        have HL := Lib.hid hml
        have HC := Lib.hid hmc
        unfold sameZ at hsm
        have HLC := Lib.hid hlc
        clear hmk hml hmc hsnoc hk hlen hlc hpre hcl
        gi_wp2
        gi_region_with_o (first | (refine ⟨trivial, ?_⟩; gi_at_call 35; refine (CallsIn.inRound l (callsIn_wide.2 (HS.out _))).mono ?_; rintro e w3 ⟨rfl, hb3⟩; have hb4 := undrewB hb3; have bT3 := bT1.kept (grown_of hb4 none) (by simp); have hr3 := hrow.kept (grown_of hb4 none) (.inr (by simp [Value.ownBlock])); have bW3 := bW1.kept (grown_of hb4 none) (by simp); obtain ⟨cY0, cY1, cY2⟩ := (bX.kept (grown_of hb4 none) (by simp)).cells; have cT3 := bT3.cell; have fT3 := bT3.frozen) | (refine ⟨trivial, ?_⟩))
        all_goals
          have hpop := ownsRow_pop HLC.out hr3
          have hpop2 : (w3.setCell ⟨w.heap.size, 0, none⟩ (.slice (some ⟨g, 0, none⟩) k cap)).ownsRow w.heap.size 24 3 (.slice (some ⟨g, 0, none⟩) k cap) k (cellsZ waste init) := hpop.kept (grownBy_setCell' _ _ _) (.inr (bT3.not_row (by decide) hpop).symm)
          have bT4 := bT3.set (.slice (some ⟨g, 0, none⟩) k cap)
          have bW4 := bW3.other (B' := w.heap.size) (by omega) (.slice (some ⟨g, 0, none⟩) k cap)
          have cT4 := bT4.cell
          have fT4 := bT4.frozen
          gi_wp2_with (gi_at_builtin; refine wpListIn_append_own _ rfl _ _ 22 rfl w.heap.size 24 i0 (.agg #[.int .i64 0, .int .i64 0, .int .i64 0]) 3 24 Try.underlying22 hi hz0 hz1 hz2 rfl (by decide) _ _ _ rfl (hpop2.alloc _) ⟨w3.heap.size, 0, none⟩ 1 1 [.int .i64 x.val, .int .i64 (spI x.val waste), .int .i64 (batI x.val)] rfl rfl (cells3_at (w3.setCell ⟨w.heap.size, 0, none⟩ (.slice (some ⟨g, 0, none⟩) k cap)) _ (by simp) _ _ _ _) (by simp [Value.oneCell']) (by unfold maxLen; omega) (by omega) (by have := hB1.size; have := hb4.size; simp; omega) ?_; intro v' w1 hown' hgrow _; obtain ⟨g', cap', rfl⟩ := ownsRow_succ hown'; have hc1 := ((bT4.alloc _).kept hgrow (bT4.not_row (by decide) hpop2)).cell; have hf1 := ((bT4.alloc _).kept hgrow (bT4.not_row (by decide) hpop2)).frozen)
          exact round_end ((KeepsOthers.of_grownBy (grown_of hb4 none) (by simp)).trans (KeepsOthers.setCell _ _ _)) bT4 hpop2 bW4 ((btr hB1 hb4 (Nat.le_refl _)).setCell (p := ⟨w.heap.size, 0, none⟩) (Nat.le_refl _) _) hown' hgrow (by rw [HL.out]) (by rw [HC.out])
  case done =>
    rintro D ys W hD rfl ⟨⟨⟨v, bT1, hrow, _⟩, bW1⟩, hB1⟩ hK
    have cT := bT1.cell
    gi_wp2
    refine ⟨by simp, .inl ⟨_, _, rfl, run_takeDeferred hK, ?_⟩⟩
    exact ⟨_, results_tmp2 rfl _ _ _, v, rfl, ownsRow_putObj hrow _ hK rfl, hB1.trans (belowK_b (w := w) (Nat.le_refl _) W D _ _ (by omega) hK rfl rfl)⟩
  case stop =>
    rintro D c pre W _ _ h _
    exact h.elim

end Go.Proofs.Ytjloipljecjbaaa
