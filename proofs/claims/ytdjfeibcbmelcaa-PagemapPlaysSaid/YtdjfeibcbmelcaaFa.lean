/- Two lists of marks compared; Same; the statements' helpers great, do, made. -/
import Derived.Test.YtdjfeibcbmelcaaLm
namespace Go.Proofs.Ytdjfeibcbmelcaa
open Go.RowKit

/-- Marks as plain data. -/
def datM (l : List Mk) : List (Nat × Nat × Int) := l.map fun m => (m.s, m.n, m.v)
theorem datM_inj {l k : List Mk} (h : datM l = datM k) : l = k := by
  induction l generalizing k with
  | nil => cases k with
    | nil => rfl
    | cons y t => cases h
  | cons x l ih => cases k with
    | nil => cases h
    | cons y t =>
      obtain ⟨a, b, c⟩ := x
      obtain ⟨a', b', c'⟩ := y
      have h1 : (a, b, c) :: datM l = (a', b', c') :: datM t := h
      injection h1 with h1 h2
      injection h1 with h3 h4
      injection h4 with h4 h5
      subst h3 h4 h5
      rw [ih h2]
/-- Whether two lists of marks are equal. -/
def eqM (l k : List Mk) : Bool := decide (datM l = datM k)
theorem eqM_self (l : List Mk) : eqM l l = true := decide_eq_true rfl
theorem eqM_iff {l k : List Mk} : eqM l k = true ↔ l = k := ⟨fun h => datM_inj (of_decide_eq_true h), fun h => by rw [h]; exact eqM_self k⟩
theorem eqM_false {l k : List Mk} (h : l ≠ k) : eqM l k = false := by
  cases e : eqM l k with
  | true => exact absurd (eqM_iff.1 e) h
  | false => rfl
theorem eqM_len {l k : List Mk} (h : l.length ≠ k.length) : eqM l k = false := eqM_false fun e => h (by rw [e])

set_option maxHeartbeats 400000 in
theorem great_any (A : Option Addr) (n c : Nat) (w : World) (hn : n ≤ 9223372036854775807) : Calls Try.prog 12 #[.slice A n c] w fun e w' => e = .returned (.bool (decide (60 < n))) ∧ w = w' := by
  go_enter Try.func12, Try.ntmps12
  go_wp2
  go_ret
  exact ⟨ret_bool (by simp; omega), rfl⟩

theorem neq_same (a b c : Int) (w : World) : (binOp .neq 50 (.agg #[.int .i64 a, .int .i64 b, .int .i64 c]) (.agg #[.int .i64 a, .int .i64 b, .int .i64 c])).run Try.prog w = .ok (.bool false) w := by
  have u3 := Try.underlying3
  have hS : Try.prog.underlying 50 = some (.struct (Try.prog.fieldsOf 50)) := by kernel_rfl
  have hp : Try.prog.stoodInHeld 50 = false := by kernel_rfl
  rw [run_neq_struct, show (10000 : Nat) = 9999 + 1 from rfl, run_equalIn_agg w 9999 50 _ _ hS hp]
  simp only [Program.fieldsOf, Try.underlying50]
  go_simp
theorem neq_diff (a b c a' b' c' : Int) (h : ¬ (a = a' ∧ b = b' ∧ c = c')) (w : World) : (binOp .neq 50 (.agg #[.int .i64 a, .int .i64 b, .int .i64 c]) (.agg #[.int .i64 a', .int .i64 b', .int .i64 c'])).run Try.prog w = .ok (.bool true) w := by
  have u3 := Try.underlying3
  have hS : Try.prog.underlying 50 = some (.struct (Try.prog.fieldsOf 50)) := by kernel_rfl
  have hp : Try.prog.stoodInHeld 50 = false := by kernel_rfl
  rw [run_neq_struct, show (10000 : Nat) = 9999 + 1 from rfl, run_equalIn_agg w 9999 50 _ _ hS hp]
  simp only [Program.fieldsOf, Try.underlying50]
  by_cases h1 : a = a'
  · by_cases h2 : b = b'
    · have h3 : c ≠ c' := fun e => h ⟨h1, h2, e⟩
      have q1 : (a == a') = true := by simpa using h1
      have q2 : (b == b') = true := by simpa using h2
      have q3 : (c == c') = false := by simpa using h3
      clear h h1 h2 h3
      go_simp
    · have q1 : (a == a') = true := by simpa using h1
      have q2 : (b == b') = false := by simpa using h2
      clear h h1 h2
      go_simp
  · have q1 : (a == a') = false := by simpa using h1
    clear h h1
    go_simp

set_option maxRecDepth 100000 in
set_option maxHeartbeats 1000000 in
theorem eq26_any (A A' : Option Addr) (c c' N N' : Nat) (l k : List Mk) (w : World) (hl : l.length ≤ 2048) (hT : MksAt w N A l) (hT' : MksAt w N' A' k) :
    Calls Try.prog 26 #[.slice A l.length c, .slice A' k.length c'] w fun e w' => e = .returned (.bool (eqM l k)) ∧ Below w.heap.size w w' := by
  by_cases hlen : l.length = k.length
  · obtain ⟨n, hn⟩ : ∃ n : Nat, n = l.length := ⟨_, rfl⟩
    have HN := Lib.hid hn
    have HLK := Lib.hid hlen
    have HT := Lib.hid hT
    have HT' := Lib.hid hT'
    rw [← hlen, ← hn]
    rw [← hn] at hl
    clear hn hT hT' hlen
    go_enter Try.func26, Try.ntmps26
    go_wp2
    go_loopw [5] (fun i wr => ∃ j : Nat, j ≤ n ∧ i = .int .i64 j ∧ Below w.heap.size w wr ∧ l.take j = k.take j) (fun i _ => n - (intOf i).toNat)
    case atStart => exact ⟨0, by omega, rfl, Below.refl _ _, rfl⟩
    case round =>
      obtain ⟨j, hj, rfl, hB, htk⟩ := hrel
      have HB := Lib.hid hB
      have HTK := Lib.hid htk
      clear htk
      by_cases hlt : j < n
      · obtain ⟨x, hx⟩ : ∃ x, l[j]? = some x := ⟨_, List.getElem?_eq_getElem (by have := HN.out; omega)⟩
        obtain ⟨y, hy⟩ : ∃ y, k[j]? = some y := ⟨_, List.getElem?_eq_getElem (by have := HN.out; have := HLK.out; omega)⟩
        obtain ⟨g, rfl, _, _, g1, g2, g3⟩ := (HT.out.below hB) j x hx
        obtain ⟨g', rfl, _, _, f1, f2, f3⟩ := (HT'.out.below hB) j y hy
        by_cases he : x = y
        · subst he
          have HX := Lib.hid (show l.take (j + 1) = k.take (j + 1) by rw [List.take_add_one, List.take_add_one, hx, hy, HTK.out])
          have hneq := neq_same
          obtain ⟨xs, xn, xv⟩ := x
          dsimp only at g1 g2 g3 f1 f2 f3
          clear hx hy hB
          go_wp2_with fail
          go_quiet (fail)
          go_wp2_with fail
          go_roundw
          case rel => exact ⟨j + 1, by omega, by go_num, belowN HB.out _, HX.out⟩
          case measure => simp [intOf]; omega
        · have HX := Lib.hid (show eqM l k = false from eqM_false fun e => he (by rw [e, hy] at hx; exact (Option.some.inj hx).symm))
          obtain ⟨xs, xn, xv⟩ := x
          obtain ⟨ys, yn, yv⟩ := y
          have hneq := neq_diff xs xn xv ys yn yv (fun ⟨h1, h2, h3⟩ => he (by rw [show xs = ys by omega, show xn = yn by omega, h3]))
          dsimp only at g1 g2 g3 f1 f2 f3
          clear hx hy hB he
          go_wp2_with fail
          go_quiet (fail)
          go_wp2_with fail
          go_ret
          exact ⟨ret_bool HX.out.symm, belowN HB.out _⟩
      · have HX := Lib.hid (show eqM l k = true from eqM_iff.2 (by
          have := HTK.out
          rwa [List.take_of_length_le (by have := HN.out; omega), List.take_of_length_le (by have := HN.out; have := HLK.out; omega)] at this))
        clear hB
        go_wp2_with fail
        go_ret
        exact ⟨ret_bool HX.out.symm, HB.out⟩
  · have HX := Lib.hid (eqM_len hlen)
    generalize hla : l.length = a at hl hlen ⊢
    generalize hkb : k.length = b at hlen ⊢
    clear hT hT' hla hkb
    have q : ((a : Int) == (b : Int)) = false := by simp only [beq_eq_false_iff_ne]; omega
    have q' : ((a : Int) != (b : Int)) = true := by simp only [bne_iff_ne]; omega
    clear hlen
    go_enter Try.func26, Try.ntmps26
    go_wp2
    go_ret
    exact ⟨ret_bool HX.out.symm, Below.refl _ _⟩

end Go.Proofs.Ytdjfeibcbmelcaa
