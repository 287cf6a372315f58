/- Blocks: the starts, collected. -/
import Derived.Test.YtnmejilpifmlnaaDoorLg
import Derived.Maps.AppendAt
import Derived.WalkSmall
namespace Go.Proofs.YtnmejilpifmlnaaDoor
open Go.RowKit Go.Shelf

attribute [local go_sem] Oper.semAt_some

theorem Tryd.info3 : (Tryd.prog.info? 3).map (fun i => (i.zero, i.size, i.bytes)) = some (some (.int .i64 0), 1, 8) := by kernel_rfl
theorem grown_of {w w' : World} (h : Below w.heap.size w w') (row : Option Nat) : w.grownBy w' row := ⟨h.os, h.tape, h.output, h.size, fun k hk _ => h.block k hk⟩

set_option maxHeartbeats 400000 in
theorem starts_any (B : Nat) (k : Nat) (w : World) :
    Calls Tryd.prog 48 #[.pointer (some ⟨B, 0, none⟩), .int .i64 k] w fun e w' => e = .returned (.func (.func 64) #[] #[.pointer (some ⟨w.heap.size, 0, none⟩), .pointer (some ⟨w.heap.size + 1, 0, none⟩)]) ∧
      (w.alloc (.cells #[.pointer (some ⟨B, 0, none⟩)] 25)).alloc (.cells #[.int .i64 k] 3) = w' := by
  go_enter Tryd.func48, Tryd.ntmps48
  go_wp2
  go_ret
  exact ⟨rfl, rfl⟩

theorem ItIn.belowN {W W' : World} {O : Nat → Prop} {B : Nat} {m : Mo} {b1 b2 k N : Nat} (h : ItIn W O B m b1 b2 k) (hb : Below N W W') (hO : ∀ x, O x → x < N) (h1 : b1 < N) (h2 : b2 < N) (hN : 1 < N) : ItIn W' O B m b1 b2 k := by
  have hk : Keep (fun x => N ≤ x) W W' := ⟨hb.os, hb.tape, hb.output, hb.size, fun i _ ho => hb.block i (by omega)⟩
  have e1 := hb.block b1 h1
  have e2 := hb.block b2 h2
  exact ⟨h.hp.keep hk (fun x hx hy => by have := hO x hx; omega) (by omega), e1.trans h.x1, e2.trans h.x2⟩
theorem ItIn.below {W W' : World} {O : Nat → Prop} {B : Nat} {m : Mo} {b1 b2 k : Nat} (h : ItIn W O B m b1 b2 k) (hb : Below W.heap.size W W') : ItIn W' O B m b1 b2 k :=
  h.belowN hb (h.hp.lt) h.x1.lt h.x2.lt h.hp.tb.lt

theorem starts_stops (n : Nat) (hn1 : 1 ≤ n) {O : Nat → Prop} {B : Nat} {m : Mo} {b1 b2 k : Nat} (hk : k < ords m.n) (w : World) (hI : ItIn w O B m b1 b2 k) :
    SeqStopsK Fence.wide n Tryd.prog 64 #[.pointer (some ⟨b1, 0, none⟩), .pointer (some ⟨b2, 0, none⟩)] (fun x : Nat => #[.int .i64 (x : Int)]) (KpI O B m b1 b2 k) (fun ys => ys = bl m.F m.n k) (fun pre => pre <+: bl m.F m.n k) (bl m.F m.n k).length w := fun l J Jx W hW hJ _ hY h0 =>
  starts_in n hn1 l hk J Jx (fun s A B hs hb => hJ s A B none hs (grown_of hb none) (fun _ h => by cases h)) (fun pre x W _ hj hl => hY pre x W hj hl) W (hI.below hW) h0

/-- The numbers of a list as cells. -/
def natC (l : List Nat) : List Value := l.map fun (x : Nat) => Value.int .i64 (x : Int)

set_option maxRecDepth 100000 in
set_option maxHeartbeats 2000000 in
theorem append_any {O : Nat → Prop} {B : Nat} {m : Mo} {b1 b2 k : Nat} (hk : k < ords m.n) (w : World) (hI : ItIn w O B m b1 b2 k) :
    Calls Tryd.prog 63 #[.slice none 0 0, .func (.func 64) #[] #[.pointer (some ⟨b1, 0, none⟩), .pointer (some ⟨b2, 0, none⟩)]] w fun e w' => ∃ v, e = .returned v ∧ w'.ownsRow w.heap.size 3 1 v (bl m.F m.n k).length (natC (bl m.F m.n k)) ∧ Below w.heap.size w w' := by
  refine (callsIn_wide (n := 6)).1 ?_
  obtain ⟨i0, hi, hz0, hz1, hz2⟩ := info_parts Tryd.info3
  have hlen := bl_len m.F m.n k
  have hn2 := hI.hp.wf.n2
  refine callsIn_of_wp_marks Tryd.func63 rfl trivial ?_ rfl
  simp only [Tryd.ntmps63, List.size_toArray, List.length_cons, List.length_nil, Nat.reduceAdd, Nat.reduceSub, Array.replicate_succ, Array.replicate_zero, List.push_toArray, List.append_toArray, List.nil_append, List.cons_append]
  gi_wp2
  have bO := Boxed.new w 43 (.slice none 0 0)
  have hB0 := bnew w (.cells #[.slice none 0 0] 43)
  have hI0 := hI.below hB0
  have hb1 := hI.x1.lt
  have hb2 := hI.x2.lt
  have hO := hI.hp.lt
  have h1w := hI.hp.tb.lt
  refine wpIn_rangeFunc_ownG rfl (by omega) (gf := 64) (lb := #[.pointer (some ⟨b1, 0, none⟩), .pointer (some ⟨b2, 0, none⟩)]) rfl trivial (enters_of Tryd.func64 (by kernel_rfl) rfl)
    (starts_stops 5 (by omega) hk _ hI0) kpI_t (kpI_b (fun x hx => by have := hO x hx; simp; omega) (by simp; omega) (by simp; omega) (by simp; omega)) (Below.refl _ _) (fun _ => rfl)
    (fun pre W => (∃ v, Boxed W w.heap.size 43 v ∧ W.ownsRow w.heap.size 3 1 v pre.length (natC pre) ∧ True) ∧ Below w.heap.size w W)
    (fun _ _ _ => False)
    (OwnFrom.and (Own.from (holdsRow_own w.heap.size w.heap.size 43 3 1 (fun pre => pre.length) (fun pre => natC pre) (fun _ _ => True)) _) (ownFrom_below (Nat.le_refl _) (by simp)))
    (fun _ _ _ _ _ hs _ _ => hs)
    ⟨⟨_, bO, World.ownsRow_nil _ _ _ _, trivial⟩, hB0⟩
    (fun x => { tmps := #[.slice none 0 0, .func (.func 64) #[] #[.pointer (some ⟨b1, 0, none⟩), .pointer (some ⟨b2, 0, none⟩)], .pointer (some ⟨w.heap.size, 0, none⟩), undef, .slice none 0 0, .int .i64 (x : Int), .func (.func 64) #[] #[.pointer (some ⟨b1, 0, none⟩), .pointer (some ⟨b2, 0, none⟩)], .int .i64 (x : Int), undef, undef, undef, undef, undef], defers := [] }) ?assign ?body ?done ?stop
  case assign =>
    intro l x W K hK
    gi_wp2
    exact hK
  case body =>
    rintro l pre x W ⟨⟨v, hv, hrow, _⟩, hB⟩ hlt
    have hc := hv.cell
    gi_wp2_with (gi_at_builtin; refine wpListIn_append_own _ rfl _ _ 43 rfl w.heap.size 3 i0 (.int .i64 0) 1 8 Tryd.underlying43 hi hz0 hz1 hz2 rfl (by decide) _ _ _ rfl (hrow.alloc _) ⟨W.heap.size, 0, none⟩ 1 1 [.int .i64 (x : Int)] rfl rfl (cell_one_new _ _ _) (by simp [Value.oneCell']) (by unfold maxLen; omega) (by omega) (by have := hB.size; simp; omega) ?_; intro v' w1 hown' hgrow _; obtain ⟨g', cap', rfl⟩ := ownsRow_succ hown'; obtain ⟨hv1, hv2, hr2, hk2, hb2⟩ := hv.appended (by decide) hrow hB.size (Nat.le_refl _) hown' hgrow; have hc1 := hv1.cell; have hf1 := hv1.frozen)
    exact ⟨hk2.from _, fun hx => hx.belowN hb2 (fun i hi => hO i hi) hb1 (by assumption) h1w, ⟨_, hv2, by simpa [natC] using hr2, trivial⟩, hB.trans hb2⟩
  case done =>
    rintro D ys W hD rfl ⟨⟨v, hv, hrow, hnil⟩, hB⟩ hK
    have hc := hv.cell
    gi_wp2
    refine ⟨by simp, .inl ⟨_, _, rfl, run_takeDeferred hK, ?_⟩⟩
    exact ⟨_, results_tmp rfl _ _ _, v, rfl, ownsRow_putObj hrow _ hK rfl, hB.trans (belowK_b (w := w) (Nat.le_refl _) W D _ _ (by simp at hD; omega) hK rfl rfl)⟩
  case stop =>
    rintro D c pre W _ _ h _
    exact h.elim

/-- Numbers that lie in memory, in a block from N on. -/
def NatsAt (w : World) (N : Nat) (A : Option Addr) (l : List Nat) : Prop := ∀ i x : Nat, l[i]? = some x → ∃ g, A = some ⟨g, 0, none⟩ ∧ N ≤ g ∧ g < w.heap.size ∧ w.cell? ⟨g, i, none⟩ = some (.int .i64 x)
theorem NatsAt.keep {w w' : World} {N : Nat} {A : Option Addr} {l : List Nat} {O : Nat → Prop} (h : NatsAt w N A l) (hk : Keep O w w') (hd : ∀ k, N ≤ k → ¬ O k) : NatsAt w' N A l := fun i x hi => by
  obtain ⟨g, e, h1, h2, h3⟩ := h i x hi
  exact ⟨g, e, h1, Nat.lt_of_lt_of_le h2 hk.size, (World.cell?_of_block (w := w) (a := ⟨g, _, none⟩) (hk.block g h2 (hd g h1))).trans h3⟩
theorem NatsAt.below {w w' : World} {N : Nat} {A : Option Addr} {l : List Nat} (h : NatsAt w N A l) (hb : Below w.heap.size w w') : NatsAt w' N A l := h.keep (Keep.of (O := fun _ => False) hb) (fun _ _ h => h)
theorem NatsAt.nil (w : World) (N : Nat) : NatsAt w N none [] := fun i x h => by simp at h
def NatsPost (w : World) (l : List Nat) (e : Ending) (w' : World) : Prop := ∃ A c, e = .returned (.slice A l.length c) ∧ NatsAt w' w.heap.size A l ∧ Below w.heap.size w w'

theorem owns_cell {W : World} {base : Nat} {e : TypeId} {size g n cap j : Nat} {xs : List Value} {u : Value} (h : W.ownsRow base e size (.slice (some ⟨g, 0, none⟩) n cap) n xs) (hu : xs[j]? = some u) : W.cell? ⟨g, j, none⟩ = some u ∧ W.frozen? ⟨g, j, none⟩ = false := by
  rcases h.2 with ⟨h0, _⟩ | ⟨g', cap', cur, hv, _, hg, _, _, _, ht⟩
  · cases h0
  · cases hv
    refine ⟨?_, by simp [World.frozen?, hg]⟩
    have e1 : W.cell? ⟨g, j, none⟩ = cur[j]? := by simp [World.cell?, hg]
    rw [e1]
    rw [← ht, List.getElem?_take] at hu
    split at hu
    · simpa using hu
    · cases hu
theorem nats_of_owns {w : World} {base : Nat} {v : Value} {l : List Nat} (h : w.ownsRow base 3 1 v l.length (natC l)) : ∃ A c, v = .slice A l.length c ∧ NatsAt w base A l := by
  rcases h.2 with ⟨rfl, h0⟩ | ⟨g, cap, cur, rfl, hb, hg, _⟩
  · refine ⟨none, 0, by rw [h0], fun i x hi => ?_⟩
    have := (List.getElem?_eq_some_iff.1 hi).1
    omega
  · refine ⟨_, cap, rfl, fun i x hi => ⟨g, rfl, hb, (Array.getElem?_eq_some_iff.1 hg).1, (owns_cell h ?_).1⟩⟩
    unfold natC
    rw [List.getElem?_map, hi]
    rfl

set_option maxHeartbeats 400000 in
theorem collect_any {O : Nat → Prop} {B : Nat} {m : Mo} {b1 b2 k : Nat} (hk : k < ords m.n) (w : World) (hI : ItIn w O B m b1 b2 k) :
    Calls Tryd.prog 47 #[.func (.func 64) #[] #[.pointer (some ⟨b1, 0, none⟩), .pointer (some ⟨b2, 0, none⟩)]] w (NatsPost w (bl m.F m.n k)) := by
  have HA := Lib.hid (append_any hk w hI)
  clear hI
  go_enter Tryd.func47, Tryd.ntmps47
  go_wp2_with (go_at_call 63; refine HA.out.mono ?_; rintro e w1 ⟨v, rfl, ho, hb1⟩)
  have HO := Lib.hid ho
  clear ho
  go_ret
  obtain ⟨A, c, rfl, hn⟩ := nats_of_owns HO.out
  exact ⟨A, c, rfl, hn, hb1⟩

/-- The starts of the free blocks of any order. -/
def blV (m : Mo) (k : Int) : List Nat := if 0 ≤ k then bl m.F m.n k.toNat else []

set_option maxRecDepth 100000 in
set_option maxHeartbeats 1000000 in
theorem Blocks_any {O : Nat → Prop} {B : Nat} {m : Mo} {w : World} (k : Int) (h : Hp w O B m) (hk : -9223372036854775808 ≤ k ∧ k ≤ 9223372036854775807) :
    Calls Tryd.prog 22 #[.pointer (some ⟨B, 0, none⟩), .int .i64 k] w (NatsPost w (blV m k)) := by
  have HM := Lib.hid (made_any h)
  have HH := Lib.hid h
  have hwf := h.wf
  have hKl := (hwf.K).2.1
  obtain ⟨A, cap, mb, h⟩ := h
  have c1 := h.c1
  clear h
  by_cases h0 : k < 0
  · have hv : blV m k = [] := by unfold blV; rw [if_neg (by omega)]
    rw [hv]
    clear hv hwf
    generalize ords m.n = K at *
    go_enter Tryd.func22, Tryd.ntmps22
    go_wp2_with (go_at_call 33; refine HM.out.mono ?_; rintro x _ ⟨rfl, rfl⟩)
    go_ret
    exact ⟨none, 0, rfl, NatsAt.nil _ _, Below.refl _ _⟩
  · by_cases h1 : (ords m.n : Int) ≤ k
    · have hv : blV m k = [] := by
        unfold blV
        rw [if_pos (by omega)]
        have hp := pow_le (show ords m.n ≤ k.toNat by omega)
        have := (ords_facts hwf.n1 hwf.n2).2.2.1
        exact bl_nil hwf.f (by omega)
      rw [hv]
      clear hv hwf
      generalize ords m.n = K at *
      go_enter Tryd.func22, Tryd.ntmps22
      go_wp2_with (go_at_call 33; refine HM.out.mono ?_; rintro x _ ⟨rfl, rfl⟩)
      go_ret
      exact ⟨none, 0, rfl, NatsAt.nil _ _, Below.refl _ _⟩
    · obtain ⟨j, rfl⟩ : ∃ j : Nat, k = j := ⟨k.toNat, by omega⟩
      have hj : j < ords m.n := by omega
      have hv : blV m j = bl m.F m.n j := by unfold blV; rw [if_pos (by omega), Int.toNat_natCast]
      rw [hv]
      have HJ := Lib.hid hj
      have HST := Lib.hid (starts_any B j w)
      have hjk : ¬ ((ords m.n : Int) ≤ (j : Int)) := h1
      clear hv hj hwf hk h0 h1
      generalize hK : ords m.n = K at c1 hKl hjk
      clear hK
      go_enter Tryd.func22, Tryd.ntmps22
      go_wp2_with (first | (go_at_call 33; refine HM.out.mono ?_; rintro x _ ⟨rfl, rfl⟩) | (go_at_call 48; refine HST.out.mono ?_; rintro x w1 ⟨rfl, hw1⟩))
      have hb1 : Below w.heap.size w w1 := by rw [← hw1]; exact (bnew _ _).alloc (by simp) _
      have hx1 : Boxed w1 w.heap.size 25 (.pointer (some ⟨B, 0, none⟩)) := by rw [← hw1]; exact (Boxed.new w 25 _).alloc _
      have hx2 : Boxed w1 (w.heap.size + 1) 3 (.int .i64 j) := by
        rw [← hw1]
        have := Boxed.new (w.alloc (.cells #[.pointer (some ⟨B, 0, none⟩)] 25)) 3 (.int .i64 (j : Int))
        rwa [World.size_alloc] at this
      have HC := Lib.hid (collect_any HJ.out w1 ⟨HH.out.below hb1, hx1, hx2⟩)
      have HB1 := Lib.hid hb1
      clear hw1 hb1 hx1 hx2
      go_wp2_with (go_at_call 47; refine HC.out.mono ?_; rintro x w2 ⟨A', c', rfl, hn, hb2⟩; have HN := Lib.hid hn; clear hn)
      go_ret
      refine ⟨A', c', rfl, fun i x hi => ?_, btr HB1.out hb2 (Nat.le_refl _)⟩
      obtain ⟨g, e, q1, q2, q3⟩ := HN.out i x hi
      exact ⟨g, e, Nat.le_trans HB1.out.size q1, q2, q3⟩

end Go.Proofs.YtnmejilpifmlnaaDoor
