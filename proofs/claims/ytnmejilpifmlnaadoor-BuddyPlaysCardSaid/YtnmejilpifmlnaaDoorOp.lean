/- Calls that come in, read off memory. -/
import Derived.Test.YtnmejilpifmlnaaDoorFd
import Derived.Test.YtnmejilpifmlnaaDoorTie
import Derived.Test.YtnmejilpifmlnaaDoorCards
import Derived.Lib.LaidTab
import Derived.Stop.LaidErr
import Derived.LaidMore
import Derived.Lay
import Derived.Stop.Joined
import Derived.ProofKit
import Derived.OpenShut
import Derived.ChangeOld
import Derived.Deep.Slices
import Derived.Deep.Strs
import Derived.Lib.SmallJoins
namespace Go.Proofs.YtnmejilpifmlnaaDoor
open Go.ChangeShapes Go.WideShapes Go.ChangeAt Go.RowKit

theorem Tryd.ownNone : ownKnob Tryd.prog.godebug = none := by kernel_rfl
theorem Tryd.laidOut : laidOutB Tryd.prog = true := by kernel_rfl

theorem list_of {P : Nat → Ac → Prop} : ∀ n : Nat, (∀ i, i < n → ∃ c, P i c) → ∃ t : List Ac, t.length = n ∧ ∀ i c, t[i]? = some c → P i c
  | 0, _ => ⟨[], rfl, fun i c h => by simp at h⟩
  | n + 1, h => by
    obtain ⟨t, hl, ht⟩ := list_of n fun i hi => h i (by omega)
    obtain ⟨c, hc⟩ := h n (by omega)
    refine ⟨t ++ [c], by simp [hl], fun i d hd => ?_⟩
    rcases Nat.lt_or_ge i n with hlt | hge
    · rw [List.getElem?_append_left (by omega)] at hd
      exact ht i d hd
    · have hi : i < (t ++ [c]).length := (List.getElem?_eq_some_iff.1 hd).1
      have : i = n := by simp [hl] at hi; omega
      subst this
      rw [List.getElem?_append_right (by omega), hl, Nat.sub_self] at hd
      cases hd
      exact hc

section
variable {H : Type} {enc : TypeId × Value → H} {W : World} {base : Nat} {spare : Nat → Bool} {held : Bool}

theorem cells3 : Tryd.prog.cellsOf 3 = 1 := by kernel_rfl
theorem cells33 : Tryd.prog.cellsOf 33 = 3 := by kernel_rfl

theorem one_act {fuel : Nat} {cs : List Value} {x : DataW H × List MemPlace} (h : DataW.trod enc Tryd.prog W base spare held fuel 33 cs = some x) :
    ∃ a : Ac, AcR a ∧ cs = [.int .i64 a.k, .int .i64 a.a, .int .i64 a.b] := by
  obtain ⟨y0, y1, y2, m, _, hlen, h0, h1, h2⟩ := Go.Deep.trod_struct3 Tryd.underlying33 h
  rw [cells33] at hlen
  match cs, hlen with
  | [c0, c1, c2], _ =>
    rw [cells3] at h0 h1 h2
    obtain ⟨k, e0, _, w0⟩ := DataW.trod_int Tryd.underlying3 h0
    obtain ⟨a, e1, _, w1⟩ := DataW.trod_int Tryd.underlying3 h1
    obtain ⟨b, e2, _, w2⟩ := DataW.trod_int Tryd.underlying3 h2
    simp at e0 e1 e2
    subst e0 e1 e2
    exact ⟨⟨k, a, b⟩, ⟨bounds_i64 w0, bounds_i64 w1, bounds_i64 w2⟩, rfl⟩

theorem open_act {r : Reach} {b0 : Nat} {v : Value} {d : DataW H} {p : List MemPlace} (hv : Value.okWide Tryd.prog W r b0 33 v) (h : DataW.Trod enc Tryd.prog W base spare held 33 v d p) :
    ∃ a : Ac, AcR a ∧ v = .agg #[.int .i64 a.k, .int .i64 a.a, .int .i64 a.b] := by
  obtain ⟨cs, rfl, hsz⟩ := okWide_struct Tryd.underlying33 hv
  obtain ⟨fuel, hf⟩ := h
  obtain ⟨a, hr, e⟩ := one_act hf
  refine ⟨a, hr, ?_⟩
  congr 1
  apply Array.ext'
  simpa [Value.cells] using e

/-- A list of calls that can be read lies in memory. -/
theorem open_acts {A : Option Addr} {n cap : Nat} {d : DataW H} {p : List MemPlace} (h : DataW.Trod enc Tryd.prog W base spare held 22 (.slice A n cap) d p) :
    ∃ t : List Ac, t.length = n ∧ n ≤ 9223372036854775807 ∧ ActsAt W W.heap.size A t := by
  obtain ⟨fuel, hf⟩ := h
  rcases Go.Deep.open_slice Tryd.underlying22 hf with ⟨hcs, _⟩ | ⟨a, len, cap', m, fu, D, Pl, hcs, _, hl, hm, hmm, _, hi⟩
  · simp [Value.cells] at hcs
    obtain ⟨rfl, rfl, rfl⟩ := hcs
    exact ⟨[], rfl, by omega, fun k c hk => by simp at hk⟩
  · simp [Value.cells] at hcs
    obtain ⟨rfl, rfl, rfl⟩ := hcs
    have hlm : n ≤ m := by rw [hmm]; split <;> omega
    rw [cells33] at hi
    obtain ⟨bk, off, spot⟩ := a
    have hel : ∀ i, i < n → ∃ c : Ac, AcR c ∧ spot = none ∧ bk < W.heap.size ∧ (∀ j u, [Value.int .i64 c.k, .int .i64 c.a, .int .i64 c.b][j]? = some u → W.cell? (((⟨bk, off, none⟩ : Addr).add (i * 3)).add j) = some u) := by
      intro i hin
      have spot0 : ∀ i0, i0 < n → i0 = 0 → spot = none := by
        intro i0 h0 e0
        subst e0
        obtain ⟨cs', hc, ht⟩ := hi 0 (by omega)
        obtain ⟨x, _, rfl⟩ := one_act ht
        obtain ⟨_, _, hcell⟩ := World.cells?_some hc
        have := World.cell?_spot (hcell 0 (by omega))
        simpa [Addr.add] using this
      have hs : spot = none := spot0 0 (by omega) rfl
      subst hs
      obtain ⟨cs', hc, ht⟩ := hi i (by omega)
      obtain ⟨x, hr, rfl⟩ := one_act ht
      obtain ⟨_, _, hcell⟩ := World.cells?_some hc
      have hblk := World.block_lt_of_cell? W _ (hcell 0 (by omega))
      rw [add_plain, add_plain] at hblk
      refine ⟨x, hr, rfl, hblk, fun j u hu => ?_⟩
      have hj : j < 3 := by have := (List.getElem?_eq_some_iff.1 hu).1; simpa using this
      rw [hcell j hj]
      exact hu
    obtain ⟨t, htl, htt⟩ := list_of n hel
    refine ⟨t, htl, by unfold maxLen at hm; omega, fun k c hk => ?_⟩
    obtain ⟨hr, rfl, hblk, hcell⟩ := htt k c hk
    refine ⟨hr, bk, off, rfl, hblk, ?_, ?_, ?_⟩
    · have := hcell 0 _ rfl
      rwa [add_plain, add_plain, Nat.add_zero] at this
    · have := hcell 1 _ rfl
      rwa [add_plain, add_plain] at this
    · have := hcell 2 _ rfl
      rwa [add_plain, add_plain] at this

end

/-- What the rows list. -/
def laid2 : List (String × DataW Unit) := [("math/bits.deBruijn32tab", Rows.laid_math_bits_deBruijn32tab), ("math/bits.deBruijn64tab", Rows.laid_math_bits_deBruijn64tab)]
theorem tab_eq : (Rows.laid_math_bits_deBruijn64tab : DataW Unit) = Lib.tabData .u8 (Lib.deBruijn64tab.map fun (x : Nat) => (x : Int)) := by kernel_rfl
theorem g1Name : Tryd.prog.globalNamed "math/bits.deBruijn64tab" = some 1 := by kernel_rfl
theorem g1Type : (Tryd.prog.globals[1]?).map (·.type) = some 96 := by kernel_rfl

/-- THE WITNESS's CONDITION: the listed variables as their initialisers lay them. -/
theorem laid_met (os : Os) (args : Array Value) : laidMetH Tryd.prog laid2 ((World.laidAll Tryd.prog os laid2).forCall (fun _ _ => 0) ⟨#[], args, []⟩).memory := by
  rw [MakeChecks.laidMetH_plain _ _ _ (by kernel_rfl)]
  exact laidMet_laidAll _ (by kernel_rfl) (by kernel_rfl)

/-- WHAT THE CONDITION GIVES THE WALKS. -/
theorem tab_of_laid {W : World} (h : laidMetH Tryd.prog laid2 W) : Tab W := by
  rw [MakeChecks.laidMetH_plain _ _ _ (by kernel_rfl)] at h
  have h2 := laidMet.tail h
  rw [tab_eq] at h2
  have hT := Lib.tabIs_of_head g1Name g1Type Tryd.underlying96 Tryd.underlying5 (by kernel_rfl) (by kernel_rfl) h2
  intro j hj
  have hl : (Lib.deBruijn64tab.map fun (x : Nat) => (x : Int)).length = 64 := by kernel_rfl
  have := hT.cell g1Name j (by omega)
  rw [this]
  congr 2
  simp [List.getD, List.getElem?_map]
  cases Lib.deBruijn64tab[j]? <;> rfl

end Go.Proofs.YtnmejilpifmlnaaDoor
