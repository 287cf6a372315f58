/- Calls that come in, read off memory. -/
import Derived.Test.YticcjelaenhigaaFa
import Derived.ProofKit
import Derived.OpenShut
import Derived.ChangeSame
import Derived.ChangeOld
import Derived.Deep.Slices
import Derived.Deep.Strs
import Derived.Lib.SmallJoins
namespace Go.Proofs.Yticcjelaenhigaa
open Go.ChangeShapes Go.WideShapes Go.ChangeAt Go.RowKit

theorem Try.ownNone : ownKnob Try.prog.godebug = none := by kernel_rfl
theorem Try.laidOut : laidOutB Try.prog = true := by kernel_rfl

theorem list_of {α : Type} {P : Nat → α → Prop} : ∀ n : Nat, (∀ i, i < n → ∃ c, P i c) → ∃ t : List α, t.length = n ∧ ∀ i c, t[i]? = some c → P i c
  | 0, _ => ⟨[], rfl, fun i c h => by simp at h⟩
  | n + 1, h => by
    obtain ⟨t, hl, ht⟩ := list_of n fun i hi => h i (by omega)
    obtain ⟨c, hc⟩ := h n (by omega)
    refine ⟨t ++ [c], by simp [hl], fun i d hd => ?_⟩
    rcases Nat.lt_or_ge i n with hlt | hge
    · rw [List.getElem?_append_left (by omega)] at hd
      exact ht i d hd
    · have hi : i < (t ++ [c]).length := (List.getElem?_eq_some_iff.1 hd).1
      have : i = n := by simp [hl] at hi; omega
      subst this
      rw [List.getElem?_append_right (by omega), hl, Nat.sub_self] at hd
      cases hd
      exact hc

section
variable {H : Type} {enc : TypeId × Value → H} {W : World} {base : Nat} {spare : Nat → Bool} {held : Bool}

theorem cells3 : Try.prog.cellsOf 3 = 1 := by kernel_rfl
theorem cellsI' : Try.prog.cellsOf 33 = 1 := by kernel_rfl
theorem cellsA : Try.prog.cellsOf 35 = 4 := by kernel_rfl
theorem cellsC : Try.prog.cellsOf 56 = 3 := by kernel_rfl
theorem trod_four {P : Program} {w : World} {t : TypeId} {f0 f1 f2 f3 : Field} {fuel : Nat} {cs : List Value} {x : DataW H × List MemPlace} (ht : P.underlying t = some (.struct #[f0, f1, f2, f3])) (h : DataW.trod enc P w base spare held fuel t cs = some x) :
    ∃ y0 y1 y2 y3 n, x = (.agg [y0.1, y1.1, y2.1, y3.1], y0.2 ++ y1.2 ++ y2.2 ++ y3.2) ∧ cs.length = P.cellsOf t ∧ DataW.trod enc P w base spare held n f0.type ((cs.drop f0.offset).take (P.cellsOf f0.type)) = some y0 ∧
      DataW.trod enc P w base spare held n f1.type ((cs.drop f1.offset).take (P.cellsOf f1.type)) = some y1 ∧ DataW.trod enc P w base spare held n f2.type ((cs.drop f2.offset).take (P.cellsOf f2.type)) = some y2 ∧ DataW.trod enc P w base spare held n f3.type ((cs.drop f3.offset).take (P.cellsOf f3.type)) = some y3 := by
  obtain ⟨xs, n, _, rfl, hl, hlen, hf⟩ := DataW.trod_struct ht h
  match xs, hlen with
  | [y0, y1, y2, y3], _ => exact ⟨y0, y1, y2, y3, n, by simp, hl, by simpa using hf 0 f0 rfl, by simpa using hf 1 f1 rfl, by simpa using hf 2 f2 rfl, by simpa using hf 3 f3 rfl⟩

set_option maxRecDepth 100000 in
/-- A list of numbers that can be read lies in memory. -/
theorem one_ints {fuel : Nat} {v : Value} {x : DataW H × List MemPlace} (h : DataW.trod enc Try.prog W base spare held fuel 33 [v] = some x) :
    ∃ (zs : List Int) (A : Option Addr) (c : Nat), v = .slice A zs.length c ∧ zs.length ≤ 9223372036854775807 ∧ IAt (fun k => k < W.heap.size) W A zs := by
  rcases Go.Deep.open_slice1 Try.underlying33 cells3 h with ⟨hcs, _⟩ | ⟨a, n, cap, m, fu, V, D, Pl, hcs, _, hl, hm, hmm, _, hi⟩
  · injection hcs with hcs
    subst hcs
    exact ⟨[], none, 0, rfl, by simp, fun k c hk => by simp at hk⟩
  · injection hcs with hcs
    subst hcs
    have hlm : n ≤ m := by rw [hmm]; split <;> omega
    obtain ⟨bk, off, spot⟩ := a
    have hel : ∀ i, i < n → ∃ z : Int, InR z ∧ spot = none ∧ bk < W.heap.size ∧ W.cell? ((⟨bk, off, none⟩ : Addr).add i) = some (.int .i64 z) := by
      intro i hin
      have hs : spot = none := by
        have := World.cell?_spot (hi 0 (by omega)).1
        simpa [Addr.add] using this
      subst hs
      obtain ⟨hc, ht⟩ := hi i (by omega)
      obtain ⟨z, e0, _, w0⟩ := DataW.trod_int Try.underlying3 ht
      simp at e0
      rw [e0] at hc
      have hblk := World.block_lt_of_cell? W _ hc
      rw [add_plain] at hblk
      exact ⟨z, bounds_i64 w0, rfl, hblk, hc⟩
    obtain ⟨t, htl, htt⟩ := list_of n hel
    refine ⟨t, some ⟨bk, off, spot⟩, cap, by rw [htl], by unfold maxLen at hm; omega, fun k z hk => ?_⟩
    obtain ⟨hr, hs, hblk, hcell⟩ := htt k z hk
    subst hs
    rw [add_plain] at hcell
    exact ⟨bk, off, rfl, hblk, hblk, hcell, hr⟩

set_option maxRecDepth 100000 in
theorem one_act {fuel : Nat} {cs : List Value} {x : DataW H × List MemPlace} (h : DataW.trod enc Try.prog W base spare held fuel 35 cs = some x) :
    ∃ (a : Ak) (u : Value), AkV W W.heap.size a u ∧ cs = [.int .i64 a.k, .int .i64 a.c, .int .i64 a.a, u] := by
  obtain ⟨y0, y1, y2, y3, m, _, hlen, h0, h1, h2, h3⟩ := trod_four Try.underlying35 h
  rw [cellsA] at hlen
  match cs, hlen with
  | [c0, c1, c2, c3], _ =>
    rw [cells3] at h0 h1 h2
    rw [cellsI'] at h3
    obtain ⟨k, e0, _, w0⟩ := DataW.trod_int Try.underlying3 h0
    obtain ⟨x1, e1, _, w1⟩ := DataW.trod_int Try.underlying3 h1
    obtain ⟨x2, e2, _, w2⟩ := DataW.trod_int Try.underlying3 h2
    simp at e0 e1 e2
    subst e0 e1 e2
    obtain ⟨zs, A, c, hv, hz, hat⟩ := one_ints (v := c3) h3
    exact ⟨⟨k, x1, x2, zs⟩, c3, ⟨bounds_i64 w0, bounds_i64 w1, bounds_i64 w2, hz, A, c, hv, hat⟩, rfl⟩
set_option maxRecDepth 100000 in
theorem open_act {r : Reach} {b0 : Nat} {v : Value} {d : DataW H} {p : List MemPlace} (hv : Value.okWide Try.prog W r b0 35 v) (h : DataW.Trod enc Try.prog W base spare held 35 v d p) :
    ∃ (a : Ak) (u : Value), AkV W W.heap.size a u ∧ v = .agg #[.int .i64 a.k, .int .i64 a.c, .int .i64 a.a, u] := by
  obtain ⟨cs, rfl, hsz⟩ := okWide_struct Try.underlying35 hv
  obtain ⟨fuel, hf⟩ := h
  obtain ⟨a, u, hr, e⟩ := one_act hf
  refine ⟨a, u, hr, ?_⟩
  congr 1
  apply Array.ext'
  simpa [Value.cells] using e

set_option maxRecDepth 100000 in
/-- A list of calls that can be read lies in memory. -/
theorem open_acts {A : Option Addr} {n cap : Nat} {d : DataW H} {p : List MemPlace} (h : DataW.Trod enc Try.prog W base spare held 23 (.slice A n cap) d p) :
    ∃ t : List Ak, t.length = n ∧ n ≤ 9223372036854775807 ∧ ActsAt W W.heap.size A t := by
  obtain ⟨fuel, hf⟩ := h
  rcases Go.Deep.open_slice Try.underlying23 hf with ⟨hcs, _⟩ | ⟨a, len, cap', m, fu, D, Pl, hcs, _, hl, hm, hmm, _, hi⟩
  · simp [Value.cells] at hcs
    obtain ⟨rfl, rfl, rfl⟩ := hcs
    exact ⟨[], rfl, by omega, fun k c hk => by simp at hk⟩
  · simp [Value.cells] at hcs
    obtain ⟨rfl, rfl, rfl⟩ := hcs
    have hlm : n ≤ m := by rw [hmm]; split <;> omega
    rw [cellsA] at hi
    obtain ⟨bk, off, spot⟩ := a
    have hel : ∀ i, i < n → ∃ c : Ak, ∃ v, AkV W W.heap.size c v ∧ spot = none ∧ bk < W.heap.size ∧ (∀ j u, [Value.int .i64 c.k, .int .i64 c.c, .int .i64 c.a, v][j]? = some u → W.cell? (((⟨bk, off, none⟩ : Addr).add (i * 4)).add j) = some u) := by
      intro i hin
      have spot0 : ∀ i0, i0 < n → i0 = 0 → spot = none := by
        intro i0 h0 e0
        subst e0
        obtain ⟨cs', hc, ht⟩ := hi 0 (by omega)
        obtain ⟨x, v, _, rfl⟩ := one_act ht
        obtain ⟨_, _, hcell⟩ := World.cells?_some hc
        have := World.cell?_spot (hcell 0 (by omega))
        simpa [Addr.add] using this
      have hs : spot = none := spot0 0 (by omega) rfl
      subst hs
      obtain ⟨cs', hc, ht⟩ := hi i (by omega)
      obtain ⟨x, v, hr, rfl⟩ := one_act ht
      obtain ⟨_, _, hcell⟩ := World.cells?_some hc
      have hblk := World.block_lt_of_cell? W _ (hcell 0 (by omega))
      rw [add_plain, add_plain] at hblk
      refine ⟨x, v, hr, rfl, hblk, fun j u hu => ?_⟩
      have hj : j < 4 := by have := (List.getElem?_eq_some_iff.1 hu).1; simpa using this
      rw [hcell j hj]
      exact hu
    obtain ⟨t, htl, htt⟩ := list_of n hel
    refine ⟨t, htl, by unfold maxLen at hm; omega, fun k c hk => ?_⟩
    obtain ⟨v, hr, rfl, hblk, hcell⟩ := htt k c hk
    refine ⟨bk, off, v, rfl, hblk, ?_, ?_, ?_, ?_, hr⟩
    · have := hcell 0 _ rfl
      rwa [add_plain, add_plain, Nat.add_zero] at this
    · have := hcell 1 _ rfl
      rwa [add_plain, add_plain] at this
    · have := hcell 2 _ rfl
      rwa [add_plain, add_plain] at this
    · have := hcell 3 _ rfl
      rwa [add_plain, add_plain] at this

set_option maxRecDepth 100000 in
theorem one_class {fuel : Nat} {cs : List Value} {x : DataW H × List MemPlace} (h : DataW.trod enc Try.prog W base spare held fuel 56 cs = some x) :
    ∃ s p b : Int, cs = [.int .i64 s, .int .i64 p, .int .i64 b] := by
  obtain ⟨y0, y1, y2, m, _, hlen, h0, h1, h2⟩ := Go.Deep.trod_struct3 Try.underlying56 h
  rw [cellsC] at hlen
  match cs, hlen with
  | [c0, c1, c2], _ =>
    rw [cells3] at h0 h1 h2
    obtain ⟨s, e0, _, _⟩ := DataW.trod_int Try.underlying3 h0
    obtain ⟨p, e1, _, _⟩ := DataW.trod_int Try.underlying3 h1
    obtain ⟨b, e2, _, _⟩ := DataW.trod_int Try.underlying3 h2
    simp at e0 e1 e2
    subst e0 e1 e2
    exact ⟨s, p, b, rfl⟩

set_option maxRecDepth 100000 in
/-- A list of classes that can be read is a table in memory. -/
theorem open_tab {A : Option Addr} {n cap : Nat} {d : DataW H} {p : List MemPlace} (h : DataW.Trod enc Try.prog W base spare held 22 (.slice A n cap) d p) :
    ∃ t : List Cs, t.length = n ∧ n ≤ 9223372036854775807 ∧ TabAt W W.heap.size A t := by
  obtain ⟨fuel, hf⟩ := h
  rcases Go.Deep.open_slice Try.underlying22 hf with ⟨hcs, _⟩ | ⟨a, len, cap', m, fu, D, Pl, hcs, _, hl, hm, hmm, _, hi⟩
  · simp [Value.cells] at hcs
    obtain ⟨rfl, rfl, rfl⟩ := hcs
    exact ⟨[], rfl, by omega, fun k c hk => by simp at hk⟩
  · simp [Value.cells] at hcs
    obtain ⟨rfl, rfl, rfl⟩ := hcs
    have hlm : n ≤ m := by rw [hmm]; split <;> omega
    rw [cellsC] at hi
    obtain ⟨bk, off, spot⟩ := a
    have hel : ∀ i, i < n → ∃ c : Cs, spot = none ∧ bk < W.heap.size ∧ (∀ j u, [Value.int .i64 c.s, .int .i64 c.p, .int .i64 c.b][j]? = some u → W.cell? (((⟨bk, off, none⟩ : Addr).add (i * 3)).add j) = some u) := by
      intro i hin
      have spot0 : ∀ i0, i0 < n → i0 = 0 → spot = none := by
        intro i0 h0 e0
        subst e0
        obtain ⟨cs', hc, ht⟩ := hi 0 (by omega)
        obtain ⟨s, p, b, rfl⟩ := one_class ht
        obtain ⟨_, _, hcell⟩ := World.cells?_some hc
        have := World.cell?_spot (hcell 0 (by omega))
        simpa [Addr.add] using this
      have hs : spot = none := spot0 0 (by omega) rfl
      subst hs
      obtain ⟨cs', hc, ht⟩ := hi i (by omega)
      obtain ⟨s, p, b, rfl⟩ := one_class ht
      obtain ⟨_, _, hcell⟩ := World.cells?_some hc
      have hblk := World.block_lt_of_cell? W _ (hcell 0 (by omega))
      rw [add_plain, add_plain] at hblk
      refine ⟨⟨s, p, b⟩, rfl, hblk, fun j u hu => ?_⟩
      have hj : j < 3 := by have := (List.getElem?_eq_some_iff.1 hu).1; simpa using this
      rw [hcell j hj]
      exact hu
    obtain ⟨t, htl, htt⟩ := list_of n hel
    refine ⟨t, htl, by unfold maxLen at hm; omega, fun k c hk => ?_⟩
    obtain ⟨rfl, hblk, hcell⟩ := htt k c hk
    refine ⟨bk, off, rfl, hblk, ?_, ?_, ?_⟩
    · have := hcell 0 _ rfl
      rwa [add_plain, add_plain, Nat.add_zero] at this
    · have := hcell 1 _ rfl
      rwa [add_plain, add_plain] at this
    · have := hcell 2 _ rfl
      rwa [add_plain, add_plain] at this

end
end Go.Proofs.Yticcjelaenhigaa
