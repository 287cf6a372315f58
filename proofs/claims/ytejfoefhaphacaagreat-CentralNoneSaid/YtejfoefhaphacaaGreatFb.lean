/- The statements' helpers: runs compared, two lists alike, a number in a list. -/
import Derived.Test.YtejfoefhaphacaaGreatFa
namespace Go.Proofs.YtejfoefhaphacaaGreat
open Go.RowKit Go.Shelf

theorem neq_run (a b : Int) (w : World) : (binOp .neq 55 (.agg #[.int .i64 a, .int .i64 b]) (.agg #[.int .i64 a, .int .i64 b])).run Tryz.prog w = .ok (.bool false) w := by
  have u3 := Tryz.underlying3
  have hS : Tryz.prog.underlying 55 = some (.struct (Tryz.prog.fieldsOf 55)) := by kernel_rfl
  have hp : Tryz.prog.stoodInHeld 55 = false := by kernel_rfl
  rw [run_neq_struct, show (10000 : Nat) = 9999 + 1 from rfl, run_equalIn_agg w 9999 55 _ _ hS hp]
  simp only [Program.fieldsOf, Tryz.underlying55]
  go_simp
theorem neq_cls (a b c : Int) (w : World) : (binOp .neq 23 (.agg #[.int .i64 a, .int .i64 b, .int .i64 c]) (.agg #[.int .i64 a, .int .i64 b, .int .i64 c])).run Tryz.prog w = .ok (.bool false) w := by
  have u3 := Tryz.underlying3
  have hS : Tryz.prog.underlying 23 = some (.struct (Tryz.prog.fieldsOf 23)) := by kernel_rfl
  have hp : Tryz.prog.stoodInHeld 23 = false := by kernel_rfl
  rw [run_neq_struct, show (10000 : Nat) = 9999 + 1 from rfl, run_equalIn_agg w 9999 23 _ _ hS hp]
  simp only [Program.fieldsOf, Tryz.underlying23]
  go_simp

set_option maxRecDepth 100000 in
set_option maxHeartbeats 1000000 in
theorem RunsEq_any (A A' : Option Addr) (c c' : Nat) (l : List (Nat × Nat)) (w : World) (hl : l.length ≤ 1024) (hT : RsAt w A l) (hT' : RsAt w A' l) :
    Calls Tryz.prog 17 #[.slice A l.length c, .slice A' l.length c'] w fun e w' => e = .returned (.bool true) ∧ Below w.heap.size w w' := by
  obtain ⟨n, hn⟩ : ∃ n : Nat, n = l.length := ⟨_, rfl⟩
  have HN := Lib.hid hn
  have HT := Lib.hid hT
  have HT' := Lib.hid hT'
  have hneq := neq_run
  rw [← hn] at hl ⊢
  clear hn hT hT'
  go_enter Tryz.func17, Tryz.ntmps17
  go_wp2
  go_loopw [5] (fun i wr => ∃ k : Nat, k ≤ n ∧ i = .int .i64 k ∧ Below w.heap.size w wr) (fun i _ => n - (intOf i).toNat)
  case atStart => exact ⟨0, by omega, rfl, Below.refl _ _⟩
  case round =>
    obtain ⟨k, hk, rfl, hB⟩ := hrel
    by_cases hlt : k < n
    · have l0 : k < l.length := by have := HN.out; omega
      obtain ⟨⟨a, b⟩, hc⟩ : ∃ c, l[k]? = some c := ⟨_, List.getElem?_eq_getElem l0⟩
      obtain ⟨g, rfl, _, g1, g2⟩ := (HT.out.below hB) k a b hc
      obtain ⟨g', rfl, _, f1, f2⟩ := (HT'.out.below hB) k a b hc
      clear hc
      go_wp2_with fail
      go_quiet (fail)
      go_wp2_with fail
      go_roundw
      case rel => exact ⟨k + 1, by omega, by go_num, belowN hB _⟩
      case measure => simp [intOf]; omega
    · go_wp2_with fail
      go_ret
      exact ⟨rfl, hB⟩

/-- The class lies in a block that was new, and what is left below is as it was. -/
def Cw (w1 : World) (c : Ce) (wr : World) : Prop := Below w1.heap.size w1 wr ∧ w1.heap.size < wr.heap.size ∧ wr.cell? ⟨w1.heap.size, 0, none⟩ = some (.int .i64 c.z) ∧ wr.cell? ⟨w1.heap.size, 1, none⟩ = some (.int .i64 c.g) ∧ wr.cell? ⟨w1.heap.size, 2, none⟩ = some (.int .i64 c.t)
theorem Cw.below {w1 wr w' : World} {c : Ce} (h : Cw w1 c wr) (hb : Below wr.heap.size wr w') : Cw w1 c w' :=
  ⟨btr h.1 hb (Nat.le_refl _), Nat.lt_of_lt_of_le h.2.1 hb.size, (hb.cell (p := ⟨_, 0, none⟩) h.2.1).trans h.2.2.1, (hb.cell (p := ⟨_, 1, none⟩) h.2.1).trans h.2.2.2.1, (hb.cell (p := ⟨_, 2, none⟩) h.2.1).trans h.2.2.2.2⟩
theorem Cw.drew {w1 wr : World} {c : Ce} (h : Cw w1 c wr) (k : Nat) : Cw w1 c (wr.drewN k) := h.below (belowN (Below.refl _ _) k)
theorem cw_new (w1 : World) (c : Ce) : Cw w1 c (w1.alloc (.cells #[.int .i64 c.z, .int .i64 c.g, .int .i64 c.t] 23)) := by
  refine ⟨bnew _ _, by simp, ?_, ?_, ?_⟩ <;> go_simp
theorem ro_n (c : Ce) : ((c.g : Int) * 256 / c.z) = (c.n : Nat) := by unfold Ce.n; rw [Int.natCast_ediv, Int.natCast_mul]; rfl
theorem kz_le {c : Ce} (h : CWf c) {j : Nat} (hj : j < c.n) : j * c.z ≤ 1024 := by
  have h1 := h.n1.2.2
  have h2 := Nat.mul_le_mul_right c.z (Nat.le_of_lt hj)
  have := h.g2
  omega













































































































































































end Go.Proofs.YtejfoefhaphacaaGreat
