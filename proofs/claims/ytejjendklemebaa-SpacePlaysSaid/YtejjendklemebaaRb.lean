/- Package space: Runs. -/
import Derived.Test.YtejjendklemebaaFc
import Derived.Test.YtejjendklemebaaRa
import Derived.IntWalk
namespace Go.Proofs.Ytejjendklemebaa
open Go.RowKit

/-- Runs that lie in memory, in a block from N on. -/
def RunsAt (w : World) (N : Nat) (A : Option Addr) (l : List (Nat × Nat)) : Prop :=
  ∀ i a b : Nat, l[i]? = some (a, b) → ∃ g, A = some ⟨g, 0, none⟩ ∧ N ≤ g ∧ g < w.heap.size ∧ w.cell? ⟨g, i * 2, none⟩ = some (.int .i64 a) ∧ w.cell? ⟨g, i * 2 + 1, none⟩ = some (.int .i64 b)
theorem RunsAt.keep {w w' : World} {N : Nat} {A : Option Addr} {l : List (Nat × Nat)} {O : Nat → Prop} (h : RunsAt w N A l) (hk : Keep O w w') (hd : ∀ k, N ≤ k → ¬ O k) : RunsAt w' N A l := fun i a b hi => by
  obtain ⟨g, e, h1, h2, h3, h4⟩ := h i a b hi
  exact ⟨g, e, h1, Nat.lt_of_lt_of_le h2 hk.size, (World.cell?_of_block (w := w) (a := ⟨g, _, none⟩) (hk.block g h2 (hd g h1))).trans h3, (World.cell?_of_block (w := w) (a := ⟨g, _, none⟩) (hk.block g h2 (hd g h1))).trans h4⟩
theorem RunsAt.below {w w' : World} {N : Nat} {A : Option Addr} {l : List (Nat × Nat)} (h : RunsAt w N A l) (hb : Below w.heap.size w w') : RunsAt w' N A l := h.keep (Keep.of (O := fun _ => False) hb) (fun _ _ h => h)
def RunsPost (w : World) (l : List (Nat × Nat)) (e : Ending) (w' : World) : Prop := ∃ A c, e = .returned (.slice A l.length c) ∧ RunsAt w' w.heap.size A l ∧ Below w.heap.size w w'

theorem owns_base {W : World} {base base' : Nat} {e : TypeId} {size n : Nat} {v : Value} {xs : List Value} (h : W.ownsRow base e size v n xs) (hb : base' ≤ base) : W.ownsRow base' e size v n xs := by
  obtain ⟨h1, h2⟩ := h
  refine ⟨h1, ?_⟩
  rcases h2 with h0 | ⟨g, cap, cur, a, b, c⟩
  · exact .inl h0
  · exact .inr ⟨g, cap, cur, a, Nat.le_trans hb b, c⟩
theorem owns_form {W : World} {base : Nat} {e : TypeId} {size : Nat} {v : Value} {k : Nat} {xs : List Value} (h : W.ownsRow base e size v k xs) : ∃ A c, v = .slice A k c := by
  rcases h.2 with ⟨rfl, rfl⟩ | ⟨g, cap, _, rfl, _⟩
  · exact ⟨none, 0, rfl⟩
  · exact ⟨_, cap, rfl⟩
theorem owns_some {W : World} {base : Nat} {e : TypeId} {size : Nat} {v : Value} {k : Nat} {xs : List Value} (h : W.ownsRow base e size v (k + 1) xs) : ∃ g cap, v = .slice (some ⟨g, 0, none⟩) (k + 1) cap ∧ base ≤ g ∧ g < W.heap.size := by
  rcases h.2 with ⟨_, h0⟩ | ⟨g, cap, cur, hv, hb, hg, _⟩
  · omega
  · exact ⟨g, cap, hv, hb, (Array.getElem?_eq_some_iff.1 hg).1⟩
theorem owns_cell {W : World} {base : Nat} {e : TypeId} {size g n cap j : Nat} {xs : List Value} {u : Value} (h : W.ownsRow base e size (.slice (some ⟨g, 0, none⟩) n cap) n xs) (hu : xs[j]? = some u) : W.cell? ⟨g, j, none⟩ = some u ∧ W.frozen? ⟨g, j, none⟩ = false := by
  rcases h.2 with ⟨h0, _⟩ | ⟨g', cap', cur, hv, _, hg, _, _, _, ht⟩
  · cases h0
  · cases hv
    refine ⟨?_, by simp [World.frozen?, hg]⟩
    have e1 : W.cell? ⟨g, j, none⟩ = cur[j]? := by simp [World.cell?, hg]
    rw [e1]
    rw [← ht, List.getElem?_take] at hu
    split at hu
    · simpa using hu
    · cases hu
theorem owns_below {w w' : World} {B e size n : Nat} {v : Value} {xs : List Value} (h : w.ownsRow B e size v n xs) (hb : Below w.heap.size w w') : w'.ownsRow B e size v n xs := by
  obtain ⟨h1, h2⟩ := h
  refine ⟨h1, ?_⟩
  rcases h2 with h0 | ⟨g, cap, cur, a, b, hg, c⟩
  · exact .inl h0
  · exact .inr ⟨g, cap, cur, a, b, by rw [hb.block g (Array.getElem?_eq_some_iff.1 hg).1]; exact hg, c⟩
/-- A cell of an owned row is written. -/
theorem owns_set {W : World} {base : Nat} {e : TypeId} {size g n cap j : Nat} {xs xs' : List Value} {u : Value} (h : W.ownsRow base e size (.slice (some ⟨g, 0, none⟩) n cap) n xs) (hx : xs.set j u = xs') : 
    (W.setCell ⟨g, j, none⟩ u).ownsRow base e size (.slice (some ⟨g, 0, none⟩) n cap) n xs' := by
  subst hx
  rcases h.2 with ⟨h0, _⟩ | ⟨g', cap', cur, hv, hb, hg, hn, hc, hs, ht⟩
  · cases h0
  · cases hv
    refine ⟨by rw [List.length_set]; exact h.1, .inr ⟨g, cap, cur.setIfInBounds j u, rfl, hb, ?_, hn, hc, by rw [Array.size_setIfInBounds]; exact hs, ?_⟩⟩
    · simp [World.setCell, Array.getElem?_modify, hg]
    · rw [← ht, Array.toList_setIfInBounds, List.take_set]
theorem runs_of_owns {w : World} {base : Nat} {v : Value} {l : List (Nat × Nat)} (h : w.ownsRow base 54 2 v l.length (cellsR l)) : ∃ A c, v = .slice A l.length c ∧ RunsAt w base A l := by
  rcases h.2 with ⟨rfl, h0⟩ | ⟨g, cap, cur, rfl, hb, hg, _⟩
  · refine ⟨none, 0, by rw [h0], fun i a b hi => ?_⟩
    have := (List.getElem?_eq_some_iff.1 hi).1
    omega
  · refine ⟨_, cap, rfl, fun i a b hi => ⟨g, rfl, hb, (Array.getElem?_eq_some_iff.1 hg).1, ?_, ?_⟩⟩
    · exact (owns_cell h (cellsR_at _ _ _ _ hi).1).1
    · exact (owns_cell h (cellsR_at _ _ _ _ hi).2).1
theorem cells2_new (w : World) (a b : Value) (t : TypeId) : ∀ j u, [a, b][j]? = some u → (w.alloc (.cells #[a, b] t)).cell? ((⟨w.heap.size, 0, none⟩ : Addr).add j) = some u := by
  intro j u h
  have hj : j = 0 ∨ j = 1 := by
    have := (List.getElem?_eq_some_iff.1 h).1
    simp at this
    omega
  rcases hj with rfl | rfl
  · obtain rfl : a = u := by simpa using h
    go_simp
  · obtain rfl : b = u := by simpa using h
    go_simp

theorem Try.info54 : (Try.prog.info? 54).map (fun i => (i.zero, i.size, i.bytes)) = some (some (.agg #[.int .i64 0, .int .i64 0]), 2, 16) := by kernel_rfl

/-- What Runs has made after some pages. -/
structure RunsIn (w wr : World) (st : Nat → Int) (s : Int) (k : Nat) (v : Value) : Prop where
  own : wr.ownsRow w.heap.size 54 2 v (rr st s k).length (cellsR (rr st s k).reverse)
  bel : Below w.heap.size w wr
theorem RunsIn.then {w wr w1 : World} {st : Nat → Int} {s : Int} {k : Nat} {v : Value} (h : RunsIn w wr st s k v) (hb : Below wr.heap.size wr w1) : RunsIn w w1 st s k v :=
  ⟨owns_below h.own hb, btr h.bel hb (Nat.le_refl _)⟩
theorem RunsIn.skip {w wr : World} {st : Nat → Int} {s : Int} {k : Nat} {v : Value} (h : RunsIn w wr st s k v) (hs : st k ≠ s) : RunsIn w wr st s (k + 1) v := by
  have e : rr st s (k + 1) = rr st s k := if_neg hs
  exact ⟨by rw [e]; exact h.own, h.bel⟩
theorem RunsIn.form {w wr : World} {st : Nat → Int} {s : Int} {k : Nat} {v : Value} (h : RunsIn w wr st s k v) : ∃ A c, v = .slice A (rr st s k).length c := owns_form h.own
theorem RunsIn.done {w wr : World} {st : Nat → Int} {s : Int} {n : Nat} {v : Value} (h : RunsIn w wr st s n v) : RunsPost w (runsL st s n) (.returned v) wr := by
  have hl : (runsL st s n).length = (rr st s n).length := List.length_reverse
  have ho := h.own
  rw [← hl] at ho
  obtain ⟨A, c, rfl, hr⟩ := runs_of_owns ho
  exact ⟨A, c, rfl, hr, h.bel⟩
/-- The last run, as it lies in memory. -/
theorem RunsIn.last {w wr : World} {st : Nat → Int} {s : Int} {k a b : Nat} {t : List (Nat × Nat)} {v : Value} (h : RunsIn w wr st s k v) (hr : rr st s k = (a, b) :: t) :
    ∃ g c, v = .slice (some ⟨g, 0, none⟩) (t.length + 1) c ∧ w.heap.size ≤ g ∧ g < wr.heap.size ∧ wr.cell? ⟨g, t.length * 2, none⟩ = some (.int .i64 a) ∧ wr.cell? ⟨g, t.length * 2 + 1, none⟩ = some (.int .i64 b) ∧ wr.frozen? ⟨g, t.length * 2 + 1, none⟩ = false := by
  have ho := h.own
  rw [hr] at ho
  obtain ⟨g, c, rfl, hb, hg⟩ := owns_some (k := t.length) ho
  have hat : ((a, b) :: t).reverse[t.length]? = some (a, b) := by rw [List.reverse_cons, List.getElem?_append_right (by simp)]; simp
  have h1 := owns_cell ho (cellsR_at _ _ _ _ hat).1
  have h2 := owns_cell ho (cellsR_at _ _ _ _ hat).2
  exact ⟨g, c, rfl, hb, hg, h1.1, h2.1, h2.2⟩
/-- One page more in the last run. -/
theorem RunsIn.more {w wr : World} {st : Nat → Int} {s : Int} {k a b g c : Nat} {t : List (Nat × Nat)} (h : RunsIn w wr st s k (.slice (some ⟨g, 0, none⟩) (t.length + 1) c)) (hr : rr st s k = (a, b) :: t) (hs : st k = s) (hk : a + b = k) (hg : w.heap.size ≤ g) :
    RunsIn w (wr.setCell ⟨g, t.length * 2 + 1, none⟩ (.int .i64 ((b : Int) + 1))) st s (k + 1) (.slice (some ⟨g, 0, none⟩) (t.length + 1) c) := by
  have e : rr st s (k + 1) = (a, b + 1) :: t := by
    show (if st k = s then addR (rr st s k) k else rr st s k) = _
    rw [if_pos hs, hr, addR_cons, if_pos hk]
  refine ⟨?_, h.bel.setCell (p := ⟨g, _, none⟩) hg _⟩
  have ho := h.own
  rw [hr] at ho
  rw [e]
  refine owns_set (n := t.length + 1) (size := 2) ho ?_
  rw [List.reverse_cons, List.reverse_cons]
  have := cellsR_set t.reverse a b
  rw [List.length_reverse] at this
  exact this
theorem RunsIn.one {w wr : World} {st : Nat → Int} {s : Int} {k : Nat} {v : Value} (h : wr.ownsRow w.heap.size 54 2 v ((rr st s k).length + 1) (cellsR (rr st s k).reverse ++ [.int .i64 k, .int .i64 1])) (hb : Below w.heap.size w wr) (hs : st k = s) (hn : ∀ a b t, rr st s k = (a, b) :: t → a + b ≠ k) :
    RunsIn w wr st s (k + 1) v := by
  have e : rr st s (k + 1) = (k, 1) :: rr st s k := by
    show (if st k = s then addR (rr st s k) k else rr st s k) = _
    rw [if_pos hs]
    cases hr : rr st s k with
    | nil => rfl
    | cons x t =>
      obtain ⟨a, b⟩ := x
      rw [addR_cons, if_neg (hn a b t hr)]
  refine ⟨?_, hb⟩
  rw [e, List.reverse_cons, cellsR_app]
  exact h

set_option maxRecDepth 100000 in
set_option maxHeartbeats 2000000 in
theorem Runs_any {O : Nat → Prop} {B : Nat} {m : Mo} {w : World} (s : Int) (h : Sp w O B m) : Calls Try.prog 25 #[.pointer (some ⟨B, 0, none⟩), .int .i64 s] w (RunsPost w (runsL m.st s m.n)) := by
  have HM := Lib.hid (made_any h)
  obtain ⟨A, cap, pt, h⟩ := h
  obtain ⟨i0, hi, hz0, hz1, hz2⟩ := info_parts Try.info54
  have HI := Lib.hid (And.intro hi (And.intro hz0 (And.intro hz1 hz2)))
  have c0 := h.c0
  have hn2 := h.wf.n2
  have HS := Lib.hid h
  obtain ⟨n, hn⟩ : ∃ n, n = m.n := ⟨_, rfl⟩
  rw [← hn] at c0 hn2 ⊢
  have HN := Lib.hid hn
  clear h hn hi hz0 hz1 hz2
  go_enter Try.func25, Try.ntmps25
  go_wp2_with (go_at_call 38; refine HM.out.mono ?_; rintro e w1 ⟨rfl, rfl⟩)
  go_loopw [5, 17] (fun v i wr => ∃ k : Nat, k ≤ n ∧ i = .int .i64 k ∧ RunsIn w wr m.st s k v) (fun _ i _ => n - (intOf i).toNat)
  case atStart => exact ⟨0, by omega, rfl, ⟨⟨rfl, .inl ⟨rfl, rfl⟩⟩, Below.refl _ _⟩⟩
  case round =>
    obtain ⟨k, hk, rfl, hR⟩ := hrel
    by_cases hlt : k < n
    · have hS := HS.out.below hR.bel
      have g0 := hS.a0 (k := k) (by have := HN.out; omega)
      have g1 := hS.a1 (k := k) (by have := HN.out; omega)
      have HST := Lib.hid (fun w1 => state_of (w := wr) hS (k := k) (by have := HN.out; omega) w1)
      clear hS
      generalize decide (m.st k ≠ 0) = bb at g0 HST
      generalize ptrA (pt k) = pp at g1 HST
      by_cases hs : m.st k = s
      · rw [hs] at HST
        have HSK := Lib.hid hs
        clear hs
        obtain hr | ⟨a, b, t, hr⟩ : rr m.st s k = [] ∨ ∃ a b t, rr m.st s k = (a, b) :: t := by
          cases rr m.st s k with
          | nil => exact .inl rfl
          | cons x t => exact .inr ⟨x.1, x.2, t, rfl⟩
        · have HRR := Lib.hid hr
          clear hr
          obtain ⟨Ax, cx, rfl⟩ := hR.form
          rw [HRR.out, List.length_nil] at hR ⊢
          have HR := Lib.hid hR
          clear hR
          go_wp2_with (go_at_call 58; refine (HST.out _).mono ?_; rintro e w1 ⟨rfl, hb1⟩)
          go_quiet (fail)
          have hR2 := HR.out.then (btr (btr (bnew wr _) hb1 (Nat.le_refl _)) (belowN (Below.refl _ _) nq) (Nat.le_refl _))
          have hB2 := hR2.bel
          have ho2 := hR2.own
          rw [HRR.out] at ho2
          have HR2 := Lib.hid ho2
          have HB2 := Lib.hid hB2
          have hlen := rr_len m.st s k
          rw [HRR.out] at hlen
          obtain ⟨hi, hz0, hz1, hz2⟩ := HI.out
          clear hR2 hB2 ho2 hb1
          go_wp2_with (at_builtin; go_loud (refine wpList_append_own _ rfl _ _ 51 rfl w.heap.size 54 i0 (.agg #[.int .i64 0, .int .i64 0]) 2 16 Try.underlying51 hi hz0 hz1 hz2 rfl (by decide) _ _ _ rfl (HR2.out.alloc _) ⟨(w1.drewN nq).heap.size, 0, none⟩ 1 1 [.int .i64 k, .int .i64 1] rfl rfl (cells2_new (w1.drewN nq) _ _ _) (by simp [Value.oneCell']) (by unfold maxLen; omega) (by omega) (by have := HB2.out.size; simp at this ⊢; omega) ?_); intro v' w5 hown' hgrow _; have hB5 : Below w.heap.size w w5 := (HB2.out.alloc HB2.out.size _).grown hgrow (by have := HB2.out.size; simp at this ⊢; omega) (fun k e => (HR2.out.lt k e).1); have HO5 := Lib.hid hown'; have HB5 := Lib.hid hB5; clear hown' hgrow hB5)
          go_roundw
          case rel => exact ⟨k + 1, by omega, by go_num, RunsIn.one (by rw [HRR.out]; exact HO5.out) HB5.out HSK.out (by rw [HRR.out]; intro a b t h; cases h)⟩
          case measure => simp [intOf]; omega
        · have HRR := Lib.hid hr
          clear hr
          obtain ⟨g, c, rfl, hg1, hg2, e1, e2, e3⟩ := hR.last HRR.out
          have HR := Lib.hid hR
          clear hR
          have hlen := rr_len m.st s k
          rw [HRR.out, List.length_cons] at hlen
          have hgw : g ≠ wr.heap.size := by omega
          have hab := rr_ok m.st s k
          rw [HRR.out] at hab
          obtain ⟨hab1, hab2, _⟩ := hab
          generalize hT : t.length = T at hlen e1 e2 e3 HR ⊢
          have HT := Lib.hid hT
          clear hT
          by_cases hk2 : a + b = k
          · have hk3 : ((a : Int) + b == k) = true := by simp; omega
            go_wp2_with (go_at_call 58; refine (HST.out _).mono ?_; rintro e w1 ⟨rfl, hb1⟩)
            have hb1b := btr (bnew wr _) hb1 (Nat.le_refl _)
            have f1 := (hb1b.cell (p := ⟨g, T * 2, none⟩) hg2).trans e1
            have f2 := (hb1b.cell (p := ⟨g, T * 2 + 1, none⟩) hg2).trans e2
            have f3 := (hb1b.frozen (p := ⟨g, T * 2 + 1, none⟩) hg2).trans e3
            clear e1 e2 e3 hb1b
            have u1 : IntKind.i64.wrap ((a : Int) + (b : Int)) = (a : Int) + (b : Int) := IntWalk.i64_in _ (by omega)
            go_quiet (fail)
            have hR2 := HR.out.then (btr (btr (bnew wr _) hb1 (Nat.le_refl _)) (belowN (Below.refl _ _) nq) (Nat.le_refl _))
            rw [← HT.out] at hR2
            have hR3 := hR2.more HRR.out HSK.out hk2 hg1
            rw [HT.out] at hR3
            have HR3 := Lib.hid hR3
            clear hR2 hR3 u1 hb1 hk3
            go_wp2
            go_roundw
            case rel => exact ⟨k + 1, by omega, by go_num, HR3.out⟩
            case measure => simp [intOf]; omega
          · have hk3 : ((a : Int) + b == k) = false := by simp; omega
            have HNE := Lib.hid hk2
            clear hk2
            go_wp2_with (go_at_call 58; refine (HST.out _).mono ?_; rintro e w1 ⟨rfl, hb1⟩)
            have hb1b := btr (bnew wr _) hb1 (Nat.le_refl _)
            have f1 := (hb1b.cell (p := ⟨g, T * 2, none⟩) hg2).trans e1
            have f2 := (hb1b.cell (p := ⟨g, T * 2 + 1, none⟩) hg2).trans e2
            have f3 := (hb1b.frozen (p := ⟨g, T * 2 + 1, none⟩) hg2).trans e3
            clear e1 e2 e3 hb1b
            have u1 : IntKind.i64.wrap ((a : Int) + (b : Int)) = (a : Int) + (b : Int) := IntWalk.i64_in _ (by omega)
            go_quiet (fail)
            have hR2 := HR.out.then (btr (btr (bnew wr _) hb1 (Nat.le_refl _)) (belowN (Below.refl _ _) nq) (Nat.le_refl _))
            have hB2 := hR2.bel
            have ho2 := hR2.own
            rw [HRR.out, List.length_cons, HT.out] at ho2
            have HR2 := Lib.hid ho2
            have HB2 := Lib.hid hB2
            obtain ⟨hi, hz0, hz1, hz2⟩ := HI.out
            clear hR2 hB2 ho2 hb1 u1 hk3 f1 f2 f3
            go_wp2_with (at_builtin; go_loud (refine wpList_append_own _ rfl _ _ 51 rfl w.heap.size 54 i0 (.agg #[.int .i64 0, .int .i64 0]) 2 16 Try.underlying51 hi hz0 hz1 hz2 rfl (by decide) _ _ _ rfl (HR2.out.alloc _) ⟨(w1.drewN nq).heap.size, 0, none⟩ 1 1 [.int .i64 k, .int .i64 1] rfl rfl (cells2_new (w1.drewN nq) _ _ _) (by simp [Value.oneCell']) (by unfold maxLen; omega) (by omega) (by have := HB2.out.size; simp at this ⊢; omega) ?_); intro v' w5 hown' hgrow _; have hB5 : Below w.heap.size w w5 := (HB2.out.alloc HB2.out.size _).grown hgrow (by have := HB2.out.size; simp at this ⊢; omega) (fun k e => (HR2.out.lt k e).1); have HO5 := Lib.hid hown'; have HB5 := Lib.hid hB5; clear hown' hgrow hB5)
            go_roundw
            case rel => exact ⟨k + 1, by omega, by go_num, RunsIn.one (by rw [HRR.out, List.length_cons, HT.out]; exact HO5.out) HB5.out HSK.out (by rw [HRR.out]; intro a' b' t' h; cases h; exact HNE.out)⟩
            case measure => simp [intOf]; omega
      · have HSK := Lib.hid hs
        obtain ⟨Ax, cx, rfl⟩ := hR.form
        have HR := Lib.hid hR
        clear hR
        generalize m.st k = S at HST hs
        have hq : (S == s) = false := by simpa using hs
        have hq' : (S != s) = true := by simpa using hs
        clear hs
        go_wp2_with (go_at_call 58; refine (HST.out _).mono ?_; rintro e w1 ⟨rfl, hb1⟩)
        go_roundw
        case rel => exact ⟨k + 1, by omega, by go_num, (HR.out.then (btr (bnew wr _) hb1 (Nat.le_refl _))).skip HSK.out⟩
        case measure => simp [intOf]; omega
    · go_wp2
      go_ret
      obtain rfl : k = n := by omega
      exact hR.done

end Go.Proofs.Ytejjendklemebaa
