/- A cache that nobody made. -/
import Derived.Test.YticcjelaenhigaaFe
import Derived.Test.YticcjelaenhigaaFf
namespace Go.Proofs.Yticcjelaenhigaa
open Go.RowKit Go.Lib

theorem no_nil (r : Bool) (w : World) : TOb r w (fun _ => False) (.pointer none) none := ⟨.inl rfl, fun _ h => h.elim⟩
theorem two_nil {w : World} : Two false true w w (.pointer none) (.pointer none) none none (fun _ => False) (fun _ => False) :=
  ⟨⟨no_nil _ _, fun _ h => h.elim, Below.refl _ _⟩, ⟨no_nil _ _, fun _ h => h.elim, Below.refl _ _⟩, fun _ h _ => h⟩
theorem two_zero {w W : World} {U : Nat} (h : W.cell? ⟨U, 1, none⟩ = some (.map none)) (hb : Below w.heap.size w W) (hU : w.heap.size ≤ U) : Two false true w W (.pointer (some ⟨U, 0, none⟩)) (.pointer none) none none (fun k => k = U) (fun _ => False) :=
  ⟨⟨⟨.inr ⟨rfl, U, rfl, rfl, h⟩, fun k hk => by subst hk; exact World.block_lt_of_cell? _ _ h⟩, fun k hk => by subst hk; exact hU, hb⟩, ⟨no_nil _ _, fun _ h => h.elim, hb⟩, fun _ _ h => h⟩
theorem acts1 {W : World} {x : Ak} {u : Value} {N : Nat} (hN : N ≤ W.heap.size) (hx : AkV W N x u) (t : TypeId) : ActsAt (W.alloc (.cells #[.int .i64 x.k, .int .i64 x.c, .int .i64 x.a, u] t)) (W.alloc (.cells #[.int .i64 x.k, .int .i64 x.c, .int .i64 x.a, u] t)).heap.size (some ⟨W.heap.size, 0, none⟩) [x] := by
  intro k y hy
  cases k with
  | zero =>
    simp at hy
    subst hy
    have h2 := hx.below ((bnew W (.cells #[.int .i64 x.k, .int .i64 x.c, .int .i64 x.a, u] t)).mono hN)
    obtain ⟨A, c, e, hz⟩ := h2.v
    exact ⟨_, 0, u, rfl, by simp, cell_block (heap_alloc_new W _) rfl, cell_block (heap_alloc_new W _) rfl, cell_block (heap_alloc_new W _) rfl, cell_block (heap_alloc_new W _) rfl, h2.k, h2.c, h2.a, h2.n, A, c, e, hz.mono fun k _ hk => Nat.lt_of_lt_of_le hk (Nat.le_trans hN (bnew W (.cells #[.int .i64 x.k, .int .i64 x.c, .int .i64 x.a, u] t)).size)⟩
  | succ k => simp at hy

set_option maxRecDepth 100000 in
set_option maxHeartbeats 8000000 in
theorem none_walk (x : Ak) (u : Value) (w : World) (hx : AkV w w.heap.size x u) : Calls Try.prog 4 #[.agg #[.int .i64 x.k, .int .i64 x.c, .int .i64 x.a, u]] w (Yes w) := by
  have HAL := Lib.hid alive_any
  obtain ⟨W0, hW0, hb0, hs0, x0, x1, x2, x3⟩ := newA4 w (.int .i64 x.k) (.int .i64 x.c) (.int .i64 x.a) u 35
  have hx0 := hx.below hb0
  have HB0 := Lib.hid hb0
  have HX := Lib.hid hx
  have HC := Lib.hid (fun W (hb : Below W0.heap.size W0 W) => show W.cell? ⟨w.heap.size, 0, none⟩ = some (.int .i64 x.k) ∧ W.cell? ⟨w.heap.size, 1, none⟩ = some (.int .i64 x.c) ∧ W.cell? ⟨w.heap.size, 2, none⟩ = some (.int .i64 x.a) ∧ W.cell? ⟨w.heap.size, 3, none⟩ = some u from
    ⟨(hb.cell (p := ⟨w.heap.size, 0, none⟩) hs0).trans x0, (hb.cell (p := ⟨w.heap.size, 1, none⟩) hs0).trans x1, (hb.cell (p := ⟨w.heap.size, 2, none⟩) hs0).trans x2, (hb.cell (p := ⟨w.heap.size, 3, none⟩) hs0).trans x3⟩)
  have HG := Lib.hid (great_any (some ⟨W0.heap.size, 0, none⟩) 1 [x] (W0.alloc (.cells #[.int .i64 x.k, .int .i64 x.c, .int .i64 x.a, u] 35)) (by show 1 ≤ _; omega) (acts1 hb0.size hx0 _))
  obtain ⟨A, cap, rfl, hz⟩ := hx.v
  obtain ⟨n, hn⟩ : ∃ n, x.l.length = n := ⟨_, rfl⟩
  obtain ⟨xk, hxk⟩ : ∃ xk, x.k = xk := ⟨_, rfl⟩
  obtain ⟨xc, hxc⟩ : ∃ xc, x.c = xc := ⟨_, rfl⟩
  obtain ⟨xa, hxa⟩ : ∃ xa, x.a = xa := ⟨_, rfl⟩
  have HK := Lib.hid (And.intro hxk (And.intro hxc (And.intro hxa hn)))
  rw [hn] at HG HX HC x3 hW0 ⊢
  rw [hxk] at HG HC x0 hW0 ⊢
  rw [hxc] at HG HC x1 hW0 ⊢
  rw [hxa] at HG HC x2 hW0 ⊢
  clear hx hx0 hb0 hz hn hxk hxc hxa
  obtain ⟨W1, hW1⟩ : ∃ W1, W0.alloc (.cells #[.int .i64 xk, .int .i64 xc, .int .i64 xa, .slice A n cap] 35) = W1 := ⟨_, rfl⟩
  have HB1 := Lib.hid (show Below W0.heap.size W0 W1 by rw [← hW1]; exact bnew _ _)
  rw [hW1] at HG
  by_cases hg : grB [x] = true
  · rw [hg] at HG
    go_enter Try.func4, Try.ntmps4
    go_wp2_with fail
    refine HG.out.mono ?_
    rintro e _ ⟨rfl, rfl⟩
    go_wp2_with fail
    refine (HAL.out _).mono ?_
    rintro e w2 ⟨rfl, hb⟩
    have HF := Lib.hid (btr (btr HB0.out HB1.out (Nat.le_refl _)) hb (Nat.le_refl _))
    clear hb
    go_wp2_with fail
    go_ret
    exact ⟨rfl, HF.out⟩
  · have hg' : grB [x] = false := by simpa using hg
    rw [hg'] at HG
    obtain ⟨W2, hW2⟩ : ∃ W2, W1.alloc (.cells #[.int .i64 0, .map none] 43) = W2 := ⟨_, rfl⟩
    have HB2 := Lib.hid (show Below W1.heap.size W1 W2 by rw [← hW2]; exact bnew _ _)
    have HU := Lib.hid (show W2.cell? ⟨W1.heap.size, 1, none⟩ = some (.map none) ∧ W1.heap.size < W2.heap.size from by subst hW2; exact ⟨cell_block (heap_alloc_new W1 _) rfl, by simp⟩)
    have HB12 := Lib.hid (btr HB1.out HB2.out (Nat.le_refl _))
    have HBW := Lib.hid (btr HB0.out HB12.out (Nat.le_refl _))
    have HP1 := Lib.hid (play_any (w0 := W2) x two_nil (Nat.le_trans HBW.out.size (Nat.le_refl _)) (HX.out.below HBW.out))
    rw [HK.out.1, HK.out.2.1, HK.out.2.2.1, dkD_none] at HP1
    obtain ⟨y0, y1, y2, y3⟩ := HC.out _ HB12.out
    clear hg hg'
    go_enter Try.func4, Try.ntmps4
    go_wp2_with fail
    refine HG.out.mono ?_
    rintro e _ ⟨rfl, rfl⟩
    clear x0 x1 x2 x3
    go_wp2_with fail
    refine HP1.out.mono ?_
    rintro e w3 ⟨rfl, O1, O2, hT⟩
    have HT := Lib.hid hT
    have HB3 := Lib.hid (btr HB2.out hT.a.bel (Nat.le_refl _))
    obtain ⟨z0, z1, z2, z3⟩ := HC.out _ (btr HB12.out hT.a.bel (Nat.le_refl _))
    have hu := (hT.a.bel.cell (p := ⟨W1.heap.size, 1, none⟩) HU.out.2).trans HU.out.1
    have HZ := Lib.hid (two_zero hu HB3.out (Nat.le_refl _))
    clear hT y0 y1 y2 y3 hu
    have HP2 := play_any x HZ.out (N0 := w.heap.size) (Nat.le_trans HB0.out.size HB1.out.size) (HX.out.below (btr (btr HB0.out HB1.out (Nat.le_refl _)) HB3.out (Nat.le_refl _)))
    rw [HK.out.1, HK.out.2.1, HK.out.2.2.1, dkD_none] at HP2
    have HP2 := Lib.hid HP2
    go_wp2_with fail
    refine HP2.out.mono ?_
    rintro e w4 ⟨rfl, O3, O4, hT⟩
    have HT2 := Lib.hid hT
    clear hT HP2 z0 z1 z2 z3
    go_wp2_with fail
    have HS1 := Same_any 2 (by omega) (no_nil false w4) (no_nil true w4)
    refine HS1.mono ?_
    rintro e w5 ⟨rfl, hb5⟩
    have HT3 := Lib.hid (HT2.out.below hb5)
    clear hb5 HS1
    go_wp2_with fail
    refine (Same_any 2 (by omega) HT3.out.a.ob HT3.out.b.ob).mono ?_
    rintro e w6 ⟨rfl, hb6⟩
    have HT4 := Lib.hid (HT3.out.below hb6)
    clear hb6
    go_wp2_with fail
    refine (cClone_any (no_nil false w6)).mono ?_
    rintro e w7 ⟨p7, rfl, _, hv, hb7⟩
    obtain rfl := hv.1 rfl
    have HT5 := Lib.hid (HT4.out.below hb7)
    clear hb7 hv
    go_wp2_with fail
    refine (cClone_any HT5.out.a.ob).mono ?_
    rintro e w8 ⟨p8, rfl, _, hv, hb8⟩
    obtain rfl := hv.1 rfl
    have HT6 := Lib.hid (HT5.out.below hb8)
    clear hb8 hv
    go_wp2_with fail
    refine (HAL.out _).mono ?_
    rintro e w9 ⟨rfl, hb⟩
    have HF := Lib.hid (btr HT6.out.a.bel hb (Nat.le_refl _))
    clear hb
    go_wp2_with fail
    go_ret
    exact ⟨rfl, btr (btr HB0.out HB1.out (Nat.le_refl _)) HF.out (Nat.le_refl _)⟩
end Go.Proofs.Yticcjelaenhigaa
