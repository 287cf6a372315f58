/- Package space: Words and State. -/
import Derived.Test.YtejjendklemebaaLe
namespace Go.Proofs.Ytejjendklemebaa
open Go.RowKit

theorem chkE_zero {m : Mo} {k a : Int} (h : chkE m k a = 0) : 0 ≤ k ∧ k ≤ 32768 ∧ accM m a k = true := by
  unfold chkE at h
  by_cases h1 : k < 0 ∨ 32768 < k
  · rw [if_pos h1] at h; omega
  · rw [if_neg h1] at h
    by_cases h2 : accM m a k = true
    · exact ⟨by omega, by omega, h2⟩
    · rw [if_neg h2] at h; omega
theorem chkE_vals (m : Mo) (k a : Int) : chkE m k a = 0 ∨ chkE m k a = 1 ∨ chkE m k a = 7 := by
  unfold chkE; repeat' split
  all_goals omega
theorem chk2E_vals (m : Mo) (k a b : Int) : chk2E m k a b = 0 ∨ chk2E m k a b = 1 ∨ chk2E m k a b = 7 := by
  unfold chk2E; repeat' split
  all_goals omega
theorem accM_run {m : Mo} {a k : Int} (h : accM m a k = true) (h0 : 0 ≤ k) : k = 0 ∨ ∃ i j : Nat, a = 8 * i ∧ k = j ∧ 1 ≤ j ∧ i + j ≤ 32 * m.n ∧ ∀ t : Nat, t < j → m.st ((i + t) / 32) ≠ 0 := by
  rcases of_decide_eq_true h with h1 | ⟨h1, h2, h3, h4, h5⟩
  · exact .inl h1
  · rcases Int.lt_or_eq_of_le h0 with h6 | h6
    · exact .inr ⟨(a / 8).toNat, k.toNat, by omega, by omega, by omega, by omega, h5⟩
    · exact .inl h6.symm

theorem cell_one (w : World) (v : Value) (t : TypeId) : (w.alloc (.cells #[v] t)).cell? ⟨w.heap.size, 0, none⟩ = some v := by go_simp

theorem check1_any {O : Nat → Prop} {B : Nat} {m : Mo} {w : World} (k a : Int) (h : Sp w O B m) (ha : -9223372036854775808 ≤ a ∧ a ≤ 9223372036854775807) (t : TypeId) :
    Calls Try.prog 62 #[.pointer (some ⟨B, 0, none⟩), .int .i64 k, .slice (some ⟨w.heap.size, 0, none⟩) 1 1] (w.alloc (.cells #[.int .i64 a] t)) fun e w' => e = .returned (.int .i64 (chkE m k a)) ∧ Below w.heap.size w w' := by
  rw [← chkF_one]
  refine (check_any k w.heap.size 1 1 (fun _ => a) (h.below (bnew _ _)) (by omega) (fun j hj => ?_) (fun _ _ => ha)).mono fun e w' ⟨he, hb⟩ => ⟨he, btr (bnew _ _) hb (Nat.le_refl _)⟩
  obtain rfl : j = 0 := by omega
  exact cell_one _ _ _
theorem check2_any {O : Nat → Prop} {B : Nat} {m : Mo} {w : World} (k a b : Int) (h : Sp w O B m) (ha : -9223372036854775808 ≤ a ∧ a ≤ 9223372036854775807) (hb : -9223372036854775808 ≤ b ∧ b ≤ 9223372036854775807) (t : TypeId) :
    Calls Try.prog 62 #[.pointer (some ⟨B, 0, none⟩), .int .i64 k, .slice (some ⟨w.heap.size, 0, none⟩) 2 2] (w.alloc (.cells #[.int .i64 a, .int .i64 b] t)) fun e w' => e = .returned (.int .i64 (chk2E m k a b)) ∧ Below w.heap.size w w' := by
  rw [← chkF_two]
  refine (check_any k w.heap.size 2 2 (fun j => if j = 0 then a else b) (h.below (bnew _ _)) (by omega) (fun j hj => ?_) (fun j _ => by split; exact ha; exact hb)).mono fun e w' ⟨he, hb⟩ => ⟨he, btr (bnew _ _) hb (Nat.le_refl _)⟩
  have : j = 0 ∨ j = 1 := by omega
  rcases this with rfl | rfl <;> go_simp

set_option maxHeartbeats 400000 in
theorem Words_bad {O : Nat → Prop} {B : Nat} {m : Mo} {w : World} (a k : Int) (h : Sp w O B m) (ha : -9223372036854775808 ≤ a ∧ a ≤ 9223372036854775807) (he : chkE m k a ≠ 0) :
    Calls Try.prog 30 #[.pointer (some ⟨B, 0, none⟩), .int .i64 a, .int .i64 k] w fun e w' => e = .returned (.tuple #[.slice none 0 0, .int .i64 (chkE m k a)]) ∧ Below w.heap.size w w' := by
  have HC := Lib.hid (fun t => check1_any k a h ha t)
  have hE := chkE_vals m k a
  clear h
  generalize chkE m k a = E at HC he hE
  go_enter Try.func30, Try.ntmps30
  go_wp2_with (go_at_call 62; refine (HC.out _).mono ?_; rintro e w1 ⟨rfl, hb1⟩)
  go_ret2
  exact ⟨rfl, hb1⟩

set_option maxHeartbeats 400000 in
theorem Words_any {O : Nat → Prop} {B : Nat} {m : Mo} {w : World} (a k : Int) (h : Sp w O B m) (ha : -9223372036854775808 ≤ a ∧ a ≤ 9223372036854775807) (he : chkE m k a = 0) :
    Calls Try.prog 30 #[.pointer (some ⟨B, 0, none⟩), .int .i64 a, .int .i64 k] w fun e w' => ∃ Z, e = .returned (.tuple #[.slice (some ⟨Z, 0, none⟩) k.toNat k.toNat, .int .i64 0]) ∧ w.heap.size ≤ Z ∧ Cl w' Z k.toNat (fun j => .int .i64 (m.hd ((a / 8).toNat + j))) ∧ Below w.heap.size w w' := by
  obtain ⟨h0, h1, h2⟩ := chkE_zero he
  have hc := fun t => check1_any k a h ha t
  rw [he] at hc
  have HC := Lib.hid hc
  have HS := Lib.hid h
  clear h hc he
  rcases accM_run h2 h0 with rfl | ⟨i, j, rfl, rfl, h3, h4, _⟩
  · clear h2 h0 h1
    go_enter Try.func30, Try.ntmps30
    go_wp2_with (first
      | (go_at_call 62; refine (HC.out _).mono ?_; rintro e w1 ⟨rfl, hb1⟩)
      | (go_at_call 63; refine (load_zero a _ _).mono ?_; rintro e w2 ⟨rfl, hb2⟩))
    go_ret2
    exact ⟨_, rfl, hb1.size, ⟨fun i hi => absurd hi (by omega), fun i hi => absurd hi (by omega)⟩, btr hb1 hb2 (Nat.le_refl _)⟩
  · rw [show ((8 * (i : Int)) / 8).toNat = i from by omega, Int.toNat_natCast]
    clear h2 h0
    go_enter Try.func30, Try.ntmps30
    go_wp2_with (first
      | (go_at_call 62; refine (HC.out _).mono ?_; rintro e w1 ⟨rfl, hb1⟩)
      | (go_at_call 63; refine (load_any i j (HS.out.below hb1) h3 h4).mono ?_; rintro e w2 ⟨rfl, hc2, hb2⟩; have HC2 := Lib.hid hc2; clear hc2))
    go_ret2
    exact ⟨_, rfl, hb1.size, HC2.out, btr hb1 hb2 (Nat.le_refl _)⟩

set_option maxHeartbeats 400000 in
theorem Words_no {v : Value} {w : World} (a k : Int) (h : NoS w v) : Calls Try.prog 30 #[v, .int .i64 a, .int .i64 k] w fun e w' => e = .returned (.tuple #[.slice none 0 0, .int .i64 5]) ∧ Below w.heap.size w w' := by
  have HS := Lib.hid h
  clear h
  go_enter Try.func30, Try.ntmps30
  go_wp2_with (go_at_call 62; refine (check_no _ _ (HS.out.below (bnew _ _))).mono ?_; rintro e w1 ⟨rfl, hb1⟩)
  go_ret2
  exact ⟨rfl, btr (bnew _ _) hb1 (Nat.le_refl _)⟩

theorem stV_in {m : Mo} {p : Nat} (h : p < m.n) : stV m p = m.st p := by
  unfold stV
  rw [if_pos (by omega), Int.toNat_natCast]
theorem stV_out {m : Mo} {p : Int} (h : ¬ (0 ≤ p ∧ p < m.n)) : stV m p = -1 := by
  unfold stV
  rw [if_neg h]

/-- The state of a page out of what lies in memory. -/
theorem st_of {m : Mo} (h : WF m) (k : Nat) (o : Option Nat) (hp : o = none ↔ m.st k ≠ 2) : (if o = none then (if decide (m.st k ≠ 0) = true then 1 else 0) else (2 : Int)) = m.st k := by
  have hs := h.s k
  by_cases h2 : m.st k = 2
  · rw [if_neg (fun hh => (hp.1 hh) h2), h2]
  · rw [if_pos (hp.2 h2)]
    by_cases h0 : m.st k = 0
    · rw [decide_eq_false (by omega), h0]; rfl
    · rw [decide_eq_true h0, if_pos rfl]; omega

theorem state_of {O : Nat → Prop} {B A cap : Nat} {pt : Nat → Option Nat} {m : Mo} {w : World} (h : SpA w O B A cap pt m) {k : Nat} (hk : k < m.n) (w1 : World) :
    Calls Try.prog 58 #[.agg #[.bool (decide (m.st k ≠ 0)), .pointer (ptrA (pt k))]] w1 fun e w' => e = .returned (.int .i64 (m.st k)) ∧ Below w1.heap.size w1 w' := by
  have := state_any (decide (m.st k ≠ 0)) (pt k) w1
  rw [st_of h.wf k (pt k) (h.pn k hk)] at this
  exact this

set_option maxHeartbeats 400000 in
theorem State_any {O : Nat → Prop} {B : Nat} {m : Mo} {w : World} (p : Int) (h : Sp w O B m) (ha : -9223372036854775808 ≤ p ∧ p ≤ 9223372036854775807) :
    Calls Try.prog 19 #[.pointer (some ⟨B, 0, none⟩), .int .i64 p] w fun e w' => e = .returned (.int .i64 (stV m p)) ∧ Below w.heap.size w w' := by
  have HM := Lib.hid (made_any h)
  have hI := inside_any p 1 h ha
  by_cases hp : 0 ≤ p ∧ p < m.n
  · rw [show inM m p 1 = true from decide_eq_true (by omega)] at hI
    have HI := Lib.hid hI
    obtain ⟨k, rfl⟩ : ∃ k : Nat, p = k := ⟨p.toNat, by omega⟩
    rw [stV_in (by omega)]
    obtain ⟨A, cap, pt, h⟩ := h
    have c0 := h.c0
    have hk : k < m.n := by omega
    have hn2 := h.wf.n2
    have g0 := h.a0 hk
    have g1 := h.a1 hk
    have HV := Lib.hid (fun w => state_of h hk w)
    clear h hI hp ha
    generalize decide (m.st k ≠ 0) = b at g0 HV
    generalize pt k = o at g1 HV
    generalize m.st k = s at HV ⊢
    go_enter Try.func19, Try.ntmps19
    go_wp2_with (first
      | (go_at_call 38; refine HM.out.mono ?_; rintro e w1 ⟨rfl, rfl⟩)
      | (go_at_call 57; refine HI.out.mono ?_; rintro e w1 ⟨rfl, rfl⟩)
      | (go_at_call 58; refine (HV.out _).mono ?_; rintro e w1 ⟨rfl, hb1⟩))
    go_ret
    exact ⟨rfl, hb1⟩
  · rw [show inM m p 1 = false from decide_eq_false (by omega)] at hI
    have HI := Lib.hid hI
    rw [stV_out hp]
    clear hp h hI
    go_enter Try.func19, Try.ntmps19
    go_wp2_with (first
      | (go_at_call 38; refine HM.out.mono ?_; rintro e w1 ⟨rfl, rfl⟩)
      | (go_at_call 57; refine HI.out.mono ?_; rintro e w1 ⟨rfl, rfl⟩))
    go_ret
    exact ⟨rfl, Below.refl _ _⟩

set_option maxHeartbeats 400000 in
theorem State_no {v : Value} {w : World} (p : Int) (h : NoS w v) : Calls Try.prog 19 #[v, .int .i64 p] w fun e w' => e = .returned (.int .i64 (-1)) ∧ Below w.heap.size w w' := by
  have HM := Lib.hid (made_no h)
  clear h
  go_enter Try.func19, Try.ntmps19
  go_wp2_with (go_at_call 38; refine HM.out.mono ?_; rintro e w1 ⟨rfl, rfl⟩)
  go_ret
  exact ⟨rfl, Below.refl _ _⟩

end Go.Proofs.Ytejjendklemebaa
