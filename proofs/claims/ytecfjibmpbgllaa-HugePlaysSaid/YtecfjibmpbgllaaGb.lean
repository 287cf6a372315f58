/- The reference's tracker: kinds, counts, and setting pages. -/
import Derived.Test.YtecfjibmpbgllaaGa
import Derived.Test.YtecfjibmpbgllaaMh
namespace Go.Proofs.Ytecfjibmpbgllaa
open Go.RowKit

set_option maxHeartbeats 800000 in
theorem rKind_any {O : Nat → Prop} {B : Nat} {m : Mo} {w : World} (g : Nat) (h : Rf w O B m) (hg : g < m.h) :
    Calls Try.prog 64 #[.pointer (some ⟨B, 0, none⟩), .int .i64 g] w fun e w' => e = .returned (.int .i64 ((kdS m.S g : Nat) : Int)) ∧ w = w' := by
  have h0 := rof_any g 0 h hg
  have h1 := rof_any g 1 h hg
  have h3 := rof_any g 3 h hg
  have hk := kd_cases h.wf hg
  generalize cnt m.S 0 (16 * g) 16 = c0 at *
  generalize cnt m.S 1 (16 * g) 16 = c1 at *
  generalize cnt m.S 3 (16 * g) 16 = c3 at *
  have H0 := Lib.hid h0
  have H1 := Lib.hid h1
  have H3 := Lib.hid h3
  clear h0 h1 h3 h hg
  rcases hk with ⟨hk, rfl, rfl⟩ | ⟨hk, rfl, rfl⟩ | ⟨hk, rfl, p1, p3⟩ | ⟨hk, rfl, p1, rfl⟩
  · rw [hk]
    clear hk
    go_enter Try.func64, Try.ntmps64
    go_wp2_with fail
    refine H0.out.mono ?_
    rintro e _ ⟨rfl, rfl⟩
    go_wp2_with fail
    go_ret
    exact ⟨rfl, rfl⟩
  · rw [hk]
    clear hk
    go_enter Try.func64, Try.ntmps64
    go_wp2_with fail
    refine H0.out.mono ?_
    rintro e _ ⟨rfl, rfl⟩
    go_wp2_with fail
    refine H1.out.mono ?_
    rintro e _ ⟨rfl, rfl⟩
    go_wp2_with fail
    go_ret
    exact ⟨rfl, rfl⟩
  · rw [hk]
    have q1 : ((c1 : Int) == 0) = false := by simp only [beq_eq_false_iff_ne]; omega
    have q3 : (0 : Int) < c3 := by omega
    clear hk
    go_enter Try.func64, Try.ntmps64
    go_wp2_with fail
    refine H0.out.mono ?_
    rintro e _ ⟨rfl, rfl⟩
    go_wp2_with fail
    refine H1.out.mono ?_
    rintro e _ ⟨rfl, rfl⟩
    go_wp2_with fail
    refine H3.out.mono ?_
    rintro e _ ⟨rfl, rfl⟩
    go_wp2_with fail
    go_ret
    exact ⟨rfl, rfl⟩
  · rw [hk]
    have q1 : ((c1 : Int) == 0) = false := by simp only [beq_eq_false_iff_ne]; omega
    clear hk
    go_enter Try.func64, Try.ntmps64
    go_wp2_with fail
    refine H0.out.mono ?_
    rintro e _ ⟨rfl, rfl⟩
    go_wp2_with fail
    refine H1.out.mono ?_
    rintro e _ ⟨rfl, rfl⟩
    go_wp2_with fail
    refine H3.out.mono ?_
    rintro e _ ⟨rfl, rfl⟩
    go_wp2_with fail
    go_ret
    exact ⟨rfl, rfl⟩

set_option maxHeartbeats 800000 in
theorem rUsed_any {O : Nat → Prop} {B : Nat} {m : Mo} {w : World} (g : Int) (h : Rf w O B m) :
    Calls Try.prog 50 #[.pointer (some ⟨B, 0, none⟩), .int .i64 g] w fun e w' => e = .returned (.int .i64 (usV m g)) ∧ w = w' := by
  have HM := Lib.hid (rmade_any h)
  have hi := rthere_any g h
  by_cases hin : 0 ≤ g ∧ g < m.h
  · obtain ⟨q, rfl⟩ : ∃ q : Nat, g = q := ⟨g.toNat, by omega⟩
    have HO := Lib.hid (rof_any q 1 h (by omega))
    rw [show hasM m q = true from decide_eq_true hin] at hi
    have HI := Lib.hid hi
    have HV := Lib.hid (show usV m q = cnt m.S 1 (16 * q) 16 from by unfold usV; rw [if_pos hin]; simp)
    clear hi hin h
    go_enter Try.func50, Try.ntmps50
    go_wp2_with (first | (go_at_call 41; refine HM.out.mono ?_; rintro e w1 ⟨rfl, rfl⟩) | (go_at_call 63; refine HI.out.mono ?_; rintro e w1 ⟨rfl, rfl⟩) | (go_at_call 68; refine HO.out.mono ?_; rintro e w1 ⟨rfl, rfl⟩))
    go_ret
    exact ⟨ret_int HV.out.symm, rfl⟩
  · rw [show hasM m g = false from decide_eq_false hin] at hi
    have HI := Lib.hid hi
    have HV := Lib.hid (show usV m g = 0 from by unfold usV; rw [if_neg hin])
    clear hi hin h
    go_enter Try.func50, Try.ntmps50
    go_wp2_with (first | (go_at_call 41; refine HM.out.mono ?_; rintro e w1 ⟨rfl, rfl⟩) | (go_at_call 63; refine HI.out.mono ?_; rintro e w1 ⟨rfl, rfl⟩))
    go_ret
    exact ⟨ret_int HV.out.symm, rfl⟩

set_option maxHeartbeats 800000 in
theorem rset_any {O : Nat → Prop} {B A cap : Nat} {m : Mo} {w : World} (a b v : Nat) (h : RfA w O B A cap m) (hab : a + b ≤ 16 * m.h) :
    Calls Try.prog 65 #[.pointer (some ⟨B, 0, none⟩), .int .i64 a, .int .i64 b, .int .i64 v] w fun e w' => e = .returned (.tuple #[]) ∧ Cl w' A (16 * m.h) (fun i => .int .i64 ((setR m.S a b v i : Nat) : Int)) ∧ Keep (fun k => k = A) w w' := by
  have HS := Lib.hid h
  have h2 := h.wf.h2
  have HBB := Lib.hid (fun (w' : World) (hk : Keep (fun k => k = A) w w') => (World.cell?_of_block (w := w) (a := ⟨B, 0, none⟩) (hk.block B (h.lt B h.ob) (fun e => h.ab e.symm))).trans h.c0)
  obtain ⟨n, hn⟩ : ∃ n, n = 16 * m.h := ⟨_, rfl⟩
  have hA := h.a
  rw [← hn] at hab hA HBB ⊢
  have hn2 : n ≤ 1024 := by omega
  have HA := Lib.hid hA
  clear hn h h2 hA
  go_enter Try.func65, Try.ntmps65
  go_wp2
  go_loopw [8] (fun i wr => ∃ k : Nat, k ≤ b ∧ i = .int .i64 ((a + k : Nat) : Int) ∧ Cl wr A n (fun i => .int .i64 ((setR m.S a k v i : Nat) : Int)) ∧ Keep (fun k => k = A) w wr) (fun i _ => a + b - (intOf i).toNat)
  case atStart => exact ⟨0, by omega, rfl, HA.out.congr fun i _ => by unfold setR; rw [if_neg (by omega)], Keep.refl _ _⟩
  case round =>
    obtain ⟨k, hk, rfl, hC, hK⟩ := hrel
    have HC := Lib.hid hC
    have HK := Lib.hid hK
    have c0 := HBB.out wr hK
    by_cases hlt : k < b
    · have g1 := hC.cell (a + k) (by omega)
      have g2 := hC.free (a + k) (by omega)
      generalize setR m.S a k v (a + k) = x at g1
      clear hC hK
      go_wp2
      go_roundw
      case rel =>
        refine ⟨k + 1, by omega, by congr 1, (HC.out.set (a + k) _).congr fun i _ => ?_, HK.out.set (a := ⟨A, a + k, none⟩) (.inl rfl) _⟩
        unfold setR
        by_cases e : i = a + k
        · rw [if_pos e, if_pos (by omega)]
        · rw [if_neg e]
          by_cases e2 : a ≤ i ∧ i < a + k
          · rw [if_pos e2, if_pos (by omega)]
          · rw [if_neg e2, if_neg (by omega)]
      case measure => simp [intOf]; omega
    · have hkL : k = b := by omega
      have HKL := Lib.hid hkL
      clear hkL
      go_wp2
      go_end0
      rw [← HKL.out]
      exact ⟨rfl, HC.out, HK.out⟩

set_option maxHeartbeats 800000 in
theorem rState_any {O : Nat → Prop} {B : Nat} {m : Mo} {w : World} (p : Int) (h : Rf w O B m) :
    Calls Try.prog 49 #[.pointer (some ⟨B, 0, none⟩), .int .i64 p] w fun e w' => e = .returned (.int .i64 (stV m p)) ∧ w = w' := by
  have HM := Lib.hid (rmade_any h)
  have h2 := h.wf.h2
  obtain ⟨A, cap, h⟩ := h
  have c0 := h.c0
  have hcp := h.cp
  by_cases hin : 0 ≤ p ∧ p < 16 * m.h
  · obtain ⟨q, rfl⟩ : ∃ q : Nat, p = q := ⟨p.toNat, by omega⟩
    have g0 := h.at (i := q) (by omega)
    have hq : q < 16 * m.h := by omega
    have HV := Lib.hid (show stV m q = m.S q from by unfold stV; rw [if_pos hin]; simp)
    clear hin h
    generalize m.S q = x at g0 HV
    go_enter Try.func49, Try.ntmps49
    go_wp2_with (go_at_call 41; refine HM.out.mono ?_; rintro e w1 ⟨rfl, rfl⟩)
    go_ret
    exact ⟨ret_int HV.out.symm, rfl⟩
  · have HV := Lib.hid (show stV m p = -1 from by unfold stV; rw [if_neg hin])
    clear h
    by_cases hp : p < 0
    · go_enter Try.func49, Try.ntmps49
      go_wp2_with (go_at_call 41; refine HM.out.mono ?_; rintro e w1 ⟨rfl, rfl⟩)
      go_ret
      exact ⟨ret_int HV.out.symm, rfl⟩
    · have hp2 : ((16 * m.h : Nat) : Int) ≤ p := by omega
      go_enter Try.func49, Try.ntmps49
      go_wp2_with (go_at_call 41; refine HM.out.mono ?_; rintro e w1 ⟨rfl, rfl⟩)
      go_ret
      exact ⟨ret_int HV.out.symm, rfl⟩

end Go.Proofs.Ytecfjibmpbgllaa
