/- A list of classes that comes in, read off memory. -/
import Derived.Test.YtjloipljecjbaaaTa
import Derived.ProofKit
import Derived.OpenShut
import Derived.ChangeOld
import Derived.Deep.Slices
import Derived.Deep.Strs
import Derived.Lib.SmallJoins
namespace Go.Proofs.Ytjloipljecjbaaa
open Go.ChangeShapes Go.WideShapes Go.ChangeAt Go.RowKit

theorem Try.ownNone : ownKnob Try.prog.godebug = none := by kernel_rfl
theorem Try.laidOut : laidOutB Try.prog = true := by kernel_rfl

theorem list_of {P : Nat → Cl → Prop} : ∀ n : Nat, (∀ i, i < n → ∃ c, P i c) → ∃ t : List Cl, t.length = n ∧ ∀ i c, t[i]? = some c → P i c
  | 0, _ => ⟨[], rfl, fun i c h => by simp at h⟩
  | n + 1, h => by
    obtain ⟨t, hl, ht⟩ := list_of n fun i hi => h i (by omega)
    obtain ⟨c, hc⟩ := h n (by omega)
    refine ⟨t ++ [c], by simp [hl], fun i d hd => ?_⟩
    rcases Nat.lt_or_ge i n with hlt | hge
    · rw [List.getElem?_append_left (by omega)] at hd
      exact ht i d hd
    · have hi : i < (t ++ [c]).length := (List.getElem?_eq_some_iff.1 hd).1
      have : i = n := by simp [hl] at hi; omega
      subst this
      rw [List.getElem?_append_right (by omega), hl, Nat.sub_self] at hd
      cases hd
      exact hc

section
variable {H : Type} {enc : TypeId × Value → H} {W : World} {base : Nat} {spare : Nat → Bool} {held : Bool}

theorem cells3 : Try.prog.cellsOf 3 = 1 := by kernel_rfl
theorem cells24 : Try.prog.cellsOf 24 = 3 := by kernel_rfl

theorem one_class {fuel : Nat} {cs : List Value} {x : DataW H × List MemPlace} (h : DataW.trod enc Try.prog W base spare held fuel 24 cs = some x) :
    ∃ s p b : Int, cs = [.int .i64 s, .int .i64 p, .int .i64 b] := by
  obtain ⟨y0, y1, y2, m, _, hlen, h0, h1, h2⟩ := Go.Deep.trod_struct3 Try.underlying24 h
  rw [cells24] at hlen
  match cs, hlen with
  | [c0, c1, c2], _ =>
    rw [cells3] at h0 h1 h2
    obtain ⟨s, e0, _, _⟩ := DataW.trod_int Try.underlying3 h0
    obtain ⟨p, e1, _, _⟩ := DataW.trod_int Try.underlying3 h1
    obtain ⟨b, e2, _, _⟩ := DataW.trod_int Try.underlying3 h2
    simp at e0 e1 e2
    subst e0 e1 e2
    exact ⟨s, p, b, rfl⟩

/-- A list of classes that can be read is a table in memory. -/
theorem open_tab {A : Option Addr} {n cap : Nat} {d : DataW H} {p : List MemPlace} (h : DataW.Trod enc Try.prog W base spare held 22 (.slice A n cap) d p) :
    ∃ t : List Cl, t.length = n ∧ n ≤ 9223372036854775807 ∧ TabAt W W.heap.size A t := by
  obtain ⟨fuel, hf⟩ := h
  rcases Go.Deep.open_slice Try.underlying22 hf with ⟨hcs, _⟩ | ⟨a, len, cap', m, fu, D, Pl, hcs, _, hl, hm, hmm, _, hi⟩
  · simp [Value.cells] at hcs
    obtain ⟨rfl, rfl, rfl⟩ := hcs
    exact ⟨[], rfl, by omega, fun k c hk => by simp at hk⟩
  · simp [Value.cells] at hcs
    obtain ⟨rfl, rfl, rfl⟩ := hcs
    have hlm : n ≤ m := by rw [hmm]; split <;> omega
    rw [cells24] at hi
    obtain ⟨bk, off, spot⟩ := a
    have hel : ∀ i, i < n → ∃ c : Cl, spot = none ∧ bk < W.heap.size ∧ (∀ j u, [Value.int .i64 c.s, .int .i64 c.p, .int .i64 c.b][j]? = some u → W.cell? (((⟨bk, off, none⟩ : Addr).add (i * 3)).add j) = some u) := by
      intro i hin
      have spot0 : ∀ i0, i0 < n → i0 = 0 → spot = none := by
        intro i0 h0 e0
        subst e0
        obtain ⟨cs', hc, ht⟩ := hi 0 (by omega)
        obtain ⟨s, p, b, rfl⟩ := one_class ht
        obtain ⟨_, _, hcell⟩ := World.cells?_some hc
        have := World.cell?_spot (hcell 0 (by omega))
        simpa [Addr.add] using this
      have hs : spot = none := spot0 0 (by omega) rfl
      subst hs
      obtain ⟨cs', hc, ht⟩ := hi i (by omega)
      obtain ⟨s, p, b, rfl⟩ := one_class ht
      obtain ⟨_, _, hcell⟩ := World.cells?_some hc
      have hblk := World.block_lt_of_cell? W _ (hcell 0 (by omega))
      rw [add_plain, add_plain] at hblk
      refine ⟨⟨s, p, b⟩, rfl, hblk, fun j u hu => ?_⟩
      have hj : j < 3 := by have := (List.getElem?_eq_some_iff.1 hu).1; simpa using this
      rw [hcell j hj]
      exact hu
    obtain ⟨t, htl, htt⟩ := list_of n hel
    refine ⟨t, htl, by unfold maxLen at hm; omega, fun k c hk => ?_⟩
    obtain ⟨rfl, hblk, hcell⟩ := htt k c hk
    refine ⟨bk, off, rfl, hblk, ?_, ?_, ?_⟩
    · have := hcell 0 _ rfl
      rwa [add_plain, add_plain, Nat.add_zero] at this
    · have := hcell 1 _ rfl
      rwa [add_plain, add_plain] at this
    · have := hcell 2 _ rfl
      rwa [add_plain, add_plain] at this

end
end Go.Proofs.Ytjloipljecjbaaa
