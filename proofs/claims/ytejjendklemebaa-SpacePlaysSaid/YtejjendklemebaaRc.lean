/- Two lists that are the same: what the document's own comparisons return. -/
import Derived.Test.YtejjendklemebaaRb
import Derived.Laws.StructEq
namespace Go.Proofs.Ytejjendklemebaa
open Go.RowKit

theorem neq_run (a b : Int) (w : World) : (binOp .neq 54 (.agg #[.int .i64 a, .int .i64 b]) (.agg #[.int .i64 a, .int .i64 b])).run Try.prog w = .ok (.bool false) w := by
  have u3 := Try.underlying3
  have hS : Try.prog.underlying 54 = some (.struct (Try.prog.fieldsOf 54)) := by kernel_rfl
  have hp : Try.prog.stoodInHeld 54 = false := by kernel_rfl
  rw [run_neq_struct, show (10000 : Nat) = 9999 + 1 from rfl, run_equalIn_agg w 9999 54 _ _ hS hp]
  simp only [Program.fieldsOf, Try.underlying54]
  go_simp

set_option maxRecDepth 100000 in
set_option maxHeartbeats 1000000 in
theorem RunsEq_any (A A' : Option Addr) (c c' N N' : Nat) (l : List (Nat × Nat)) (w : World) (hl : l.length ≤ 1024) (hT : RunsAt w N A l) (hT' : RunsAt w N' A' l) :
    Calls Try.prog 54 #[.slice A l.length c, .slice A' l.length c'] w fun e w' => e = .returned (.bool true) ∧ Below w.heap.size w w' := by
  obtain ⟨n, hn⟩ : ∃ n : Nat, n = l.length := ⟨_, rfl⟩
  have HN := Lib.hid hn
  have HT := Lib.hid hT
  have HT' := Lib.hid hT'
  have hneq := neq_run
  rw [← hn] at hl ⊢
  clear hn hT hT'
  go_enter Try.func54, Try.ntmps54
  go_wp2
  go_loopw [5] (fun i wr => ∃ k : Nat, k ≤ n ∧ i = .int .i64 k ∧ Below w.heap.size w wr) (fun i _ => n - (intOf i).toNat)
  case atStart => exact ⟨0, by omega, rfl, Below.refl _ _⟩
  case round =>
    obtain ⟨k, hk, rfl, hB⟩ := hrel
    by_cases hlt : k < n
    · have l0 : k < l.length := by have := HN.out; omega
      obtain ⟨⟨a, b⟩, hc⟩ : ∃ c, l[k]? = some c := ⟨_, List.getElem?_eq_getElem l0⟩
      obtain ⟨g, rfl, _, _, g1, g2⟩ := (HT.out.below hB) k a b hc
      obtain ⟨g', rfl, _, _, f1, f2⟩ := (HT'.out.below hB) k a b hc
      clear hc
      go_wp2_with fail
      go_quiet (fail)
      go_wp2_with fail
      go_roundw
      case rel => exact ⟨k + 1, by omega, by go_num, belowN hB _⟩
      case measure => simp [intOf]; omega
    · go_wp2_with fail
      go_ret
      exact ⟨rfl, hB⟩

/-- Numbers that lie in memory. -/
def IntsAt (w : World) (A : Option Addr) (n : Nat) (f : Nat → Int) : Prop := ∀ i, i < n → ∃ g, A = some ⟨g, 0, none⟩ ∧ g < w.heap.size ∧ w.cell? ⟨g, i, none⟩ = some (.int .i64 (f i))
theorem IntsAt.below {w w' : World} {A : Option Addr} {n : Nat} {f : Nat → Int} (h : IntsAt w A n f) (hb : Below w.heap.size w w') : IntsAt w' A n f := fun i hi => by
  obtain ⟨g, e, h1, h2⟩ := h i hi
  exact ⟨g, e, Nat.lt_of_lt_of_le h1 hb.size, (hb.cell (p := ⟨g, i, none⟩) h1).trans h2⟩
theorem IntsAt.of_cl {w : World} {Z n : Nat} {f : Nat → Int} (h : Cl w Z n (fun j => .int .i64 (f j))) : IntsAt w (some ⟨Z, 0, none⟩) n f := fun i hi =>
  ⟨Z, rfl, World.block_lt_of_cell? _ _ (h.cell i hi), h.cell i hi⟩

set_option maxRecDepth 100000 in
set_option maxHeartbeats 1000000 in
theorem Ints_any (A A' : Option Addr) (c c' n : Nat) (f : Nat → Int) (w : World) (hl : n ≤ 32768) (hT : IntsAt w A n f) (hT' : IntsAt w A' n f) :
    Calls Try.prog 47 #[.slice A n c, .slice A' n c'] w fun e w' => e = .returned (.bool true) ∧ Below w.heap.size w w' := by
  have HT := Lib.hid hT
  have HT' := Lib.hid hT'
  clear hT hT'
  go_enter Try.func47, Try.ntmps47
  go_wp2
  go_loopw [5] (fun i wr => ∃ k : Nat, k ≤ n ∧ i = .int .i64 k ∧ Below w.heap.size w wr) (fun i _ => n - (intOf i).toNat)
  case atStart => exact ⟨0, by omega, rfl, Below.refl _ _⟩
  case round =>
    obtain ⟨k, hk, rfl, hB⟩ := hrel
    by_cases hlt : k < n
    · obtain ⟨g, rfl, _, g1⟩ := (HT.out.below hB) k hlt
      obtain ⟨g', rfl, _, f1⟩ := (HT'.out.below hB) k hlt
      generalize f k = V at g1 f1
      go_wp2_with fail
      go_quiet (fail)
      go_wp2_with fail
      go_roundw
      case rel => exact ⟨k + 1, by omega, by go_num, belowN hB _⟩
      case measure => simp [intOf]; omega
    · go_wp2_with fail
      go_ret
      exact ⟨rfl, hB⟩

end Go.Proofs.Ytejjendklemebaa
