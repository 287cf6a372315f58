/- Package space: which words can be accessed. -/
import Derived.Test.YtejjendklemebaaLb
namespace Go.Proofs.Ytejjendklemebaa
open Go.RowKit

theorem accM_false {m : Mo} {a k : Int} (h1 : 1 ≤ k) (h : a < 0 ∨ a % 8 ≠ 0 ∨ 32 * m.n - a / 8 < k) : accM m a k = false := by
  apply decide_eq_false
  rintro (h0 | ⟨h2, h3, h4, h5, _⟩)
  · omega
  · omega
theorem accM_pages {m : Mo} {i k : Nat} (h1 : 1 ≤ k) (h : i + k ≤ 32 * m.n) : accM m (8 * i) k = allM m (i / 32) ((i + k - 1) / 32 + 1 - i / 32) := by
  unfold accM allM
  rw [Bool.eq_iff_iff]
  simp only [decide_eq_true_eq]
  rw [← acc_pages m.st i k h1]
  constructor
  · rintro (h0 | ⟨_, _, _, _, h6⟩)
    · omega
    · rw [show (8 * (i : Int) / 8).toNat = i from by omega, show ((k : Int)).toNat = k from by omega] at h6
      exact h6
  · intro h6
    refine .inr ⟨by omega, by omega, by omega, by omega, ?_⟩
    rw [show (8 * (i : Int) / 8).toNat = i from by omega, show ((k : Int)).toNat = k from by omega]
    exact h6

set_option maxHeartbeats 800000 in
theorem accessible_any {O : Nat → Prop} {B : Nat} {m : Mo} {w : World} (a k : Int) (h : Sp w O B m) (ha : -9223372036854775808 ≤ a ∧ a ≤ 9223372036854775807) (h1 : 1 ≤ k) (h2 : k ≤ 32768) :
    Calls Try.prog 59 #[.pointer (some ⟨B, 0, none⟩), .int .i64 a, .int .i64 k] w fun e w' => e = .returned (.bool (accM m a k)) ∧ Below w.heap.size w w' := by
  obtain ⟨A, cap, pt, h⟩ := h
  have c0 := h.c0
  have hn := h.wf.n1
  have hn2 := h.wf.n2
  have hcp := h.cp
  have HS := Lib.hid h
  clear h
  by_cases hb : a < 0 ∨ a % 8 ≠ 0 ∨ 32 * m.n - a / 8 < k
  · have HF := Lib.hid (accM_false (m := m) h1 hb)
    obtain ⟨ha1, ha2⟩ := ha
    by_cases h3 : a < 0
    · clear hb
      go_enter Try.func59, Try.ntmps59
      go_wp2
      go_ret
      exact ⟨ret_bool HF.out.symm, Below.refl _ _⟩
    · by_cases h4 : a % 8 = 0
      · have h5 : 32 * m.n - a / 8 < k := by omega
        have h6 : 0 ≤ a / 8 := by omega
        clear hb h3
        go_enter Try.func59, Try.ntmps59
        go_wp2
        go_ret
        exact ⟨ret_bool HF.out.symm, Below.refl _ _⟩
      · clear hb
        go_enter Try.func59, Try.ntmps59
        go_wp2
        go_ret
        exact ⟨ret_bool HF.out.symm, Below.refl _ _⟩
  · obtain ⟨i, rfl⟩ : ∃ i : Nat, a = 8 * i := ⟨(a / 8).toNat, by omega⟩
    obtain ⟨j, rfl⟩ : ∃ j : Nat, k = j := ⟨k.toNat, by omega⟩
    have hs : i + j ≤ 32 * m.n := by omega
    have HP := Lib.hid (accM_pages (m := m) (i := i) (k := j) (by omega) hs)
    have hS := allMapped_any HS.out (i / 32) ((i + j - 1) / 32 + 1 - i / 32) (cap - i / 32) (by omega)
    have HC := Lib.hid hS
    have e1 : (8 * (i : Int)) / 8 = i := by omega
    have e2 : (8 * (i : Int)) / 256 = ((i / 32 : Nat) : Int) := by omega
    have e3 : (8 * (i : Int) + j * 8 - 1) / 256 = (((i + j - 1) / 32 : Nat) : Int) := by omega
    have e4 : (8 * (i : Int)) % 8 = 0 := by omega
    have e5 : i / 32 < m.n := by omega
    have e6 : (i + j - 1) / 32 < m.n := by omega
    have e7 : i / 32 ≤ (i + j - 1) / 32 := by omega
    clear hS hb ha
    generalize hq : i / 32 = q at HC HP e2 e5 e7
    generalize hr : (i + j - 1) / 32 = r at HC HP e3 e6 e7
    clear hq hr
    go_enter Try.func59, Try.ntmps59
    go_wp2_with fail
    refine HC.out.mono ?_
    rintro e w1 ⟨rfl, hb1⟩
    go_wp2
    go_ret
    exact ⟨ret_bool HP.out.symm, hb1⟩

def chkF (m : Mo) (k : Int) (L : Nat) (f : Nat → Int) : Int := if k < 0 ∨ 32768 < k then 1 else if ∀ j : Nat, j < L → accM m (f j) k = true then 0 else 7
theorem chkF_one (m : Mo) (k a : Int) : chkF m k 1 (fun _ => a) = chkE m k a := by
  unfold chkF chkE
  split
  · rfl
  · have : (∀ j : Nat, j < 1 → accM m a k = true) ↔ accM m a k = true := ⟨fun h => h 0 (by omega), fun h _ _ => h⟩
    by_cases h : accM m a k = true
    · rw [if_pos (this.2 h), if_pos h]
    · rw [if_neg (fun hh => h (this.1 hh)), if_neg h]
theorem chkF_two (m : Mo) (k a b : Int) : chkF m k 2 (fun j => if j = 0 then a else b) = chk2E m k a b := by
  unfold chkF chk2E
  split
  · rfl
  · have : (∀ j : Nat, j < 2 → accM m (if j = 0 then a else b) k = true) ↔ accM m a k = true ∧ accM m b k = true :=
      ⟨fun h => ⟨h 0 (by omega), h 1 (by omega)⟩, fun h j hj => by
        rcases Nat.eq_zero_or_pos j with h0 | h0
        · rw [if_pos h0]; exact h.1
        · rw [if_neg (by omega)]; exact h.2⟩
    by_cases h : accM m a k = true ∧ accM m b k = true
    · rw [if_pos (this.2 h), if_pos h]
    · rw [if_neg (fun hh => h (this.1 hh)), if_neg h]

set_option maxHeartbeats 800000 in
theorem check_any {O : Nat → Prop} {B : Nat} {m : Mo} {w : World} (k : Int) (X L c : Nat) (f : Nat → Int) (h : Sp w O B m) (hL : L ≤ 2) (hf : ∀ j, j < L → w.cell? ⟨X, j, none⟩ = some (.int .i64 (f j)))
    (hb : ∀ j, j < L → -9223372036854775808 ≤ f j ∧ f j ≤ 9223372036854775807) :
    Calls Try.prog 62 #[.pointer (some ⟨B, 0, none⟩), .int .i64 k, .slice (some ⟨X, 0, none⟩) L c] w fun e w' => e = .returned (.int .i64 (chkF m k L f)) ∧ Below w.heap.size w w' := by
  have HM := Lib.hid (made_any h)
  have HF := Lib.hid hf
  have HB := Lib.hid hb
  have HS := Lib.hid h
  clear h hf hb
  by_cases hk : k < 0 ∨ 32768 < k
  · have HE := Lib.hid (show chkF m k L f = 1 from if_pos hk)
    by_cases h1 : k < 0
    · clear hk
      go_enter Try.func62, Try.ntmps62
      go_wp2_with (go_at_call 38; refine HM.out.mono ?_; rintro e w1 ⟨rfl, rfl⟩)
      go_ret
      exact ⟨ret_int HE.out.symm, Below.refl _ _⟩
    · have h2 : 32768 < k := by omega
      clear hk
      go_enter Try.func62, Try.ntmps62
      go_wp2_with (go_at_call 38; refine HM.out.mono ?_; rintro e w1 ⟨rfl, rfl⟩)
      go_ret
      exact ⟨ret_int HE.out.symm, Below.refl _ _⟩
  · have HK := Lib.hid hk
    have h1 : 0 ≤ k := by omega
    have h2 : k ≤ 32768 := by omega
    clear hk
    go_enter Try.func62, Try.ntmps62
    go_wp2_with (go_at_call 38; refine HM.out.mono ?_; rintro e w1 ⟨rfl, rfl⟩)
    go_loopw [20] (fun i wr => ∃ q : Nat, q ≤ L ∧ i = .int .i64 q ∧ (∀ j : Nat, j < q → accM m (f j) k = true) ∧ Below w.heap.size w wr) (fun i _ => L - (intOf i).toNat)
    case atStart => exact ⟨0, by omega, rfl, fun _ h => absurd h (by omega), Below.refl _ _⟩
    case round =>
      obtain ⟨q, hq, rfl, hall, hB⟩ := hrel
      have HA := Lib.hid hall
      clear hall
      by_cases hlt : q < L
      · have g0 : wr.cell? ⟨X, q, none⟩ = some (.int .i64 (f q)) := (hB.cell (World.block_lt_of_cell? _ _ (HF.out q hlt))).trans (HF.out q hlt)
        obtain ⟨b1, b2⟩ := HB.out q hlt
        by_cases hz : 1 ≤ k
        · have HC := Lib.hid (accessible_any (f q) k (HS.out.below hB) ⟨b1, b2⟩ hz h2)
          have HQ := Lib.hid (show accM m (f q) k = accM m (f q) k from rfl)
          generalize hr : accM m (f q) k = r at HC
          have HR := Lib.hid hr
          clear hr
          cases r
          · go_wp2_with (go_at_call 59; refine HC.out.mono ?_; rintro e w1 ⟨rfl, hb1⟩)
            go_ret
            exact ⟨ret_int (by unfold chkF; rw [if_neg HK.out, if_neg (fun hh => by have := hh q hlt; rw [HR.out] at this; cases this)]), btr hB hb1 (Nat.le_refl _)⟩
          · go_wp2_with (go_at_call 59; refine HC.out.mono ?_; rintro e w1 ⟨rfl, hb1⟩)
            go_roundw
            case rel => exact ⟨q + 1, by omega, by go_num, fun j hj => (by rcases Nat.lt_or_ge j q with hjk | hjk; exact HA.out j hjk; rw [show j = q from by omega]; exact HR.out), btr hB hb1 (Nat.le_refl _)⟩
            case measure => simp [intOf]; omega
        · have hz0 : k = 0 := by omega
          have HR := Lib.hid (show accM m (f q) k = true from decide_eq_true (.inl hz0))
          subst hz0
          go_wp2
          go_roundw
          case rel => exact ⟨q + 1, by omega, by go_num, fun j hj => (by rcases Nat.lt_or_ge j q with hjk | hjk; exact HA.out j hjk; rw [show j = q from by omega]; exact HR.out), hB⟩
          case measure => simp [intOf]; omega
      · go_wp2
        go_ret
        obtain rfl : q = L := by omega
        exact ⟨ret_int (by unfold chkF; rw [if_neg HK.out, if_pos HA.out]), hB⟩

set_option maxHeartbeats 400000 in
theorem check_no {v : Value} {w : World} (k : Int) (u : Value) (h : NoS w v) :
    Calls Try.prog 62 #[v, .int .i64 k, u] w fun e w' => e = .returned (.int .i64 5) ∧ Below w.heap.size w w' := by
  have HM := Lib.hid (made_no h)
  clear h
  go_enter Try.func62, Try.ntmps62
  go_wp2_with (go_at_call 38; refine HM.out.mono ?_; rintro e w1 ⟨rfl, rfl⟩)
  go_ret
  exact ⟨rfl, Below.refl _ _⟩

end Go.Proofs.Ytejjendklemebaa
