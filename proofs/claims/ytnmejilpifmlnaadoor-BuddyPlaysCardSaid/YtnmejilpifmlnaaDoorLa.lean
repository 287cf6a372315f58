/- The leaves: bits, made, inside, end, validAlign, orderOf. -/
import Derived.Test.YtnmejilpifmlnaaDoorMc
import Derived.WalkSpells
import Derived.WalkLawsBesides
import Derived.Lib.Hide
import Derived.IntWalk
import Derived.Laws.Bits64b
import Derived.Laws.Externs
namespace Go.Proofs.YtnmejilpifmlnaaDoor
open Go.RowKit

theorem ret_int {k : IntKind} {a b : Int} (h : a = b) : Ending.returned (.int k a) = .returned (.int k b) := by rw [h]
theorem ret_bool {a b : Bool} (h : a = b) : Ending.returned (.bool a) = .returned (.bool b) := by rw [h]

/-- A heap that nobody made: nil, or the zero value. -/
def NoH (w : World) (v : Value) : Prop := v = .pointer none ∨ ∃ B cap, v = .pointer (some ⟨B, 0, none⟩) ∧ w.cell? ⟨B, 1, none⟩ = some (.slice none 0 cap)
theorem NoH.below {w w' : World} {v : Value} (h : NoH w v) (hb : Below w.heap.size w w') : NoH w' v := by
  rcases h with h | ⟨B, cap, h, hc⟩
  · exact .inl h
  · exact .inr ⟨B, cap, h, (hb.cell (World.block_lt_of_cell? _ _ hc)).trans hc⟩

set_option maxHeartbeats 400000 in
theorem made_any {O : Nat → Prop} {B : Nat} {m : Mo} {w : World} (h : Hp w O B m) : Calls Tryd.prog 33 #[.pointer (some ⟨B, 0, none⟩)] w fun e w' => e = .returned (.bool true) ∧ w = w' := by
  obtain ⟨A, cap, mb, h⟩ := h
  have c1 := h.c1
  have hk := (h.wf.K).1
  have hk2 := (h.wf.K).2.1
  clear h
  generalize ords m.n = K at *
  go_enter Tryd.func33, Tryd.ntmps33
  go_wp2
  go_ret
  exact ⟨ret_bool (by simp; omega), rfl⟩

set_option maxHeartbeats 400000 in
theorem made_no {v : Value} {w : World} (h : NoH w v) : Calls Tryd.prog 33 #[v] w fun e w' => e = .returned (.bool false) ∧ w = w' := by
  rcases h with rfl | ⟨B, cap, rfl, hc⟩
  · go_enter Tryd.func33, Tryd.ntmps33
    go_wp2
    go_ret
    exact ⟨rfl, rfl⟩
  · go_enter Tryd.func33, Tryd.ntmps33
    go_wp2
    go_ret
    exact ⟨rfl, rfl⟩

def inM (m : Mo) (s k : Int) : Bool := decide (0 ≤ s ∧ 1 ≤ k ∧ s < m.n ∧ k ≤ m.n - s)
theorem inM_bd {m : Mo} {s k : Int} (h : inM m s k = true) : ∃ a b : Nat, s = a ∧ k = b ∧ 1 ≤ b ∧ a + b ≤ m.n := by
  have := of_decide_eq_true h
  exact ⟨s.toNat, k.toNat, by omega, by omega, by omega, by omega⟩

set_option maxHeartbeats 400000 in
theorem inside_any {O : Nat → Prop} {B : Nat} {m : Mo} {w : World} (s k : Int) (h : Hp w O B m) (hs : -9223372036854775808 ≤ s ∧ s ≤ 9223372036854775807) :
    Calls Tryd.prog 52 #[.pointer (some ⟨B, 0, none⟩), .int .i64 s, .int .i64 k] w fun e w' => e = .returned (.bool (inM m s k)) ∧ w = w' := by
  obtain ⟨A, cap, mb, h⟩ := h
  have c0 := h.c0
  have hn := h.wf.n1
  have hn2 := h.wf.n2
  clear h
  unfold inM
  go_enter Tryd.func52, Tryd.ntmps52
  go_wp2
  all_goals
    go_ret
    refine ⟨ret_bool ?_, rfl⟩
    rw [Bool.eq_iff_iff]
    simp only [decide_eq_true_eq, Bool.false_eq_true, false_iff, Bool.and_eq_true]
    omega

/-- A power of two, computed. -/
theorem two_pow {k : Nat} (hk : k ≤ 11) : ∃ P : Nat, P = 2 ^ k ∧ 1 ≤ P ∧ P ≤ 2048 ∧ IntKind.i64.wrap ((2 : Int) ^ k) = (P : Int) ∧ wrap64 ((2 : Int) ^ k) = (P : Int) := by
  have h1 := pow_le_2048 hk
  have h2 := Nat.two_pow_pos k
  have e : ((2 : Int) ^ k) = ((2 ^ k : Nat) : Int) := by simp
  refine ⟨2 ^ k, rfl, h2, h1, ?_, ?_⟩
  · rw [e]
    generalize 2 ^ k = P at *
    exact IntWalk.i64_in _ (by omega)
  · rw [e]
    generalize 2 ^ k = P at *
    exact IntWalk.wrap64_in _ (by omega)

set_option maxHeartbeats 400000 in
theorem end_any (s k : Nat) (w : World) (hk : k ≤ 11) (hs : s ≤ 100000) : Calls Tryd.prog 61 #[.agg #[.int .i64 s, .int .i64 k]] w fun e w' => e = .returned (.int .i64 ((s + 2 ^ k : Nat) : Int)) ∧ Below w.heap.size w w' := by
  obtain ⟨P, hP, h1, h2, e1, e2⟩ := two_pow hk
  rw [← hP]
  clear hP
  go_enter Tryd.func61, Tryd.ntmps61
  go_wp2
  go_quiet (fail)
  go_wp2
  go_ret
  exact ⟨ret_int (by omega), belowN (bnew _ _) _⟩

theorem tab_at {i j : Nat} (e : i = j) (hj : j < 256) (h : i < Lib.len8tab.size) : wrap64 ((Lib.len8tab[i]'h).toNat : Int) = (Lib.bitLen j : Int) ∧ Lib.bitLen j ≤ 8 := by
  subst e
  have h1 := Lib.len8_eq ⟨i, hj⟩
  have h2 := Lib.bitLen_le8 ⟨i, hj⟩
  have e : Lib.len8 (i : Int) = ((Lib.len8tab[i]'h).toNat : Int) := by
    unfold Lib.len8
    rw [Int.toNat_natCast]
    have e2 : Lib.len8tab[i]? = some (Lib.len8tab[i]'h) := getElem?_pos Lib.len8tab i h
    rw [e2]; rfl
  simp only at h1 h2
  rw [e] at h1
  rw [h1, IntWalk.wrap64_in (Lib.bitLen i : Int) (by omega)]
  exact ⟨rfl, h2⟩

set_option maxHeartbeats 4000000 in
set_option maxRecDepth 100000 in
theorem len64_any (x : Nat) (w : World) (hx : x ≤ 65535) : Calls Tryd.prog 55 #[.int .u64 x] w fun e w' => e = .returned (.int .i64 (Lib.bitLen x)) ∧ w = w' := by
  have hz : (Lib.len8tab.size : Int) = 256 := by rw [Lib.len8tab_size]; rfl
  by_cases h : 256 ≤ x
  · obtain ⟨y, hy⟩ : ∃ y : Int, y = (x : Int) := ⟨_, rfl⟩
    rw [← hy]
    have h0 : 256 ≤ y := by omega
    have h1 : y ≤ 65535 := by omega
    have HY := Lib.hid hy
    clear hx h hy
    go_enter Tryd.func55, Tryd.ntmps55
    go_wp2
    go_ret
    refine ⟨ret_int ?_, rfl⟩
    have hy := HY.out
    have hb := Lib.bitLen_shift8 x (by omega) (by omega)
    obtain ⟨t1, t2⟩ := tab_at (i := (y / 256).toNat) (j := x / 256) (by omega) (by omega) (by omega)
    rw [t1, hb, IntWalk.wrap64_in _ (by omega)]
    omega
  · obtain ⟨y, hy⟩ : ∃ y : Int, y = (x : Int) := ⟨_, rfl⟩
    rw [← hy]
    have h0 : 0 ≤ y := by omega
    have h1 : y < 256 := by omega
    have HY := Lib.hid hy
    clear hx h hy
    go_enter Tryd.func55, Tryd.ntmps55
    go_wp2
    go_ret
    refine ⟨ret_int ?_, rfl⟩
    have hy := HY.out
    obtain ⟨t1, t2⟩ := tab_at (i := y.toNat) (j := x) (by omega) (by omega) (by omega)
    rw [t1, IntWalk.wrap64_in _ (by omega)]

set_option maxHeartbeats 400000 in
theorem len_any (x : Nat) (w : World) (hx : x ≤ 65535) : Calls Tryd.prog 32 #[.int .u64 x] w fun e w' => e = .returned (.int .i64 (Lib.bitLen x)) ∧ w = w' := by
  have HL := Lib.hid (len64_any x w hx)
  go_enter Tryd.func32, Tryd.ntmps32
  go_wp2_with (go_at_call 55; refine HL.out.mono ?_; rintro e _ ⟨rfl, rfl⟩)
  go_ret
  exact ⟨rfl, rfl⟩

/-- The least order of a place that has as many pages. -/
def lv (x : Nat) : Nat := Lib.bitLen (x - 1)
theorem lv_le (x k : Nat) (h1 : 1 ≤ x) (h2 : x ≤ 1024) : lv x ≤ k ↔ x ≤ 2 ^ k := by
  unfold lv
  by_cases h : x = 1
  · subst h
    have e : Lib.bitLen 0 = 0 := Lib.bitLenAux_zero 64
    rw [show 1 - 1 = 0 from rfl, e]
    have := Nat.two_pow_pos k
    constructor <;> intro _ <;> omega
  · obtain ⟨a, b, c⟩ := Lib.bitLenAux_bounds 64 (x - 1) (by omega) (by omega)
    have e : Lib.bitLen (x - 1) = Lib.bitLenAux 64 (x - 1) := rfl
    rw [e]
    constructor
    · intro hk
      have := pow_le hk
      omega
    · intro hk
      rcases Nat.lt_or_ge k (Lib.bitLenAux 64 (x - 1)) with hlt | hge
      · have := pow_le (show k ≤ Lib.bitLenAux 64 (x - 1) - 1 by omega)
        omega
      · exact hge
theorem lv_10 (x : Nat) (h1 : 1 ≤ x) (h2 : x ≤ 1024) : lv x ≤ 10 := (lv_le x 10 h1 h2).2 h2

set_option maxHeartbeats 400000 in
theorem orderOf_any (x : Nat) (w : World) (h1 : 1 ≤ x) (hx : x ≤ 1024) : Calls Tryd.prog 50 #[.int .i64 x] w fun e w' => e = .returned (.int .i64 (lv x)) ∧ w = w' := by
  obtain ⟨y, rfl⟩ : ∃ y, x = y + 1 := ⟨x - 1, by omega⟩
  have HL := Lib.hid (len_any y w (by omega))
  have HE := Lib.hid (show lv (y + 1) = Lib.bitLen y from rfl)
  rw [HE.out]
  generalize Lib.bitLen y = L at HL
  have e : ((y + 1 : Nat) : Int) = (y : Int) + 1 := by omega
  rw [e]
  clear e
  go_enter Tryd.func50, Tryd.ntmps50
  go_wp2_with (go_at_call 32; refine HL.out.mono ?_; rintro e _ ⟨rfl, rfl⟩)
  go_ret
  exact ⟨rfl, rfl⟩

def powI (a : Int) : Bool := decide (a = 1 ∨ a = 2 ∨ a = 4 ∨ a = 8 ∨ a = 16 ∨ a = 32 ∨ a = 64 ∨ a = 128 ∨ a = 256 ∨ a = 512 ∨ a = 1024)
theorem pow_tab : ∀ x : Fin 1025, 1 ≤ x.val → (bits .and .i64 (x.val : Int) ((x.val : Int) - 1) == 0) = powI (x.val : Int) := by decide +kernel

set_option maxHeartbeats 400000 in
theorem valid_any (a : Int) (w : World) : Calls Tryd.prog 49 #[.int .i64 a] w fun e w' => e = .returned (.bool (powI a)) ∧ w = w' := by
  by_cases h1 : 1 ≤ a
  · by_cases h2 : a ≤ 1024
    · have hp := pow_tab ⟨a.toNat, by omega⟩ (by simp; omega)
      simp only [Int.toNat_of_nonneg (show 0 ≤ a by omega)] at hp
      have HP := Lib.hid hp
      clear hp
      go_enter Tryd.func49, Tryd.ntmps49
      go_wp2
      go_ret
      refine ⟨ret_bool ?_, rfl⟩
      rw [← HP.out]
    · have HP := Lib.hid (show powI a = false by unfold powI; rw [decide_eq_false_iff_not]; omega)
      go_enter Tryd.func49, Tryd.ntmps49
      go_wp2
      go_ret
      exact ⟨ret_bool HP.out.symm, rfl⟩
  · have HP := Lib.hid (show powI a = false by unfold powI; rw [decide_eq_false_iff_not]; omega)
    go_enter Tryd.func49, Tryd.ntmps49
    go_wp2
    go_ret
    exact ⟨ret_bool HP.out.symm, rfl⟩

end Go.Proofs.YtnmejilpifmlnaaDoor
