/- The reference's tracker: Use, Unuse, Release. -/
import Derived.Test.YtecfjibmpbgllaaGc
namespace Go.Proofs.Ytecfjibmpbgllaa
open Go.RowKit

set_option maxRecDepth 100000 in
set_option maxHeartbeats 2000000 in
theorem rturn_any {O : Nat → Prop} {B : Nat} {m : Mo} {w : World} (s k : Int) (one other v : Nat) (P : Nat → Bool) (h : Rf w O B m) (hv : v ≤ 3) (hv0 : v ≠ 0) (hP0 : P 0 = false) (hP : ∀ x, P x = decide (x = one ∨ x = other)) :
    Calls Try.prog 66 #[.pointer (some ⟨B, 0, none⟩), .int .i64 s, .int .i64 k, .int .i64 one, .int .i64 other, .int .i64 v] w fun e w' => e = .returned (.int .i64 (chE m s k P)) ∧ RMut w O B (chD m s k P v) w' := by
  have HM := Lib.hid (rmade_any h)
  have HT := Lib.hid h
  have hn2 := h.wf.h2
  by_cases hin : inM m s k = true
  · have hin' := of_decide_eq_true hin
    obtain ⟨a, rfl⟩ : ∃ a : Nat, s = a := ⟨s.toNat, by omega⟩
    obtain ⟨b, rfl⟩ : ∃ b : Nat, k = b := ⟨k.toNat, by omega⟩
    have hE : chE m a b P = if allP m.S a b P = true then 0 else 5 := by unfold chE; rw [if_pos hin]; simp
    have HE := Lib.hid hE
    have hD : chD m a b P v = if allP m.S a b P = true then ⟨m.h, setR m.S a b v⟩ else m := by
      unfold chD
      rw [hE]
      by_cases e : allP m.S a b P = true
      · rw [if_pos e, if_pos e, if_pos rfl]; simp
      · rw [if_neg e, if_neg e, if_neg (by omega)]
    have HD := Lib.hid hD
    have HWF := Lib.hid (chD_wf h.wf a b P v hv hv0 hP0)
    obtain ⟨A, cap, hA⟩ := h
    have c0 := hA.c0
    have HA := Lib.hid hA
    have hab : a + b ≤ 16 * m.h := by omega
    have HS := Lib.hid (rset_any a b v hA hab)
    have HSL := Lib.hid (fun j (hj : j < b) => hA.at (i := a + j) (by omega))
    obtain ⟨n, hn⟩ : ∃ n, n = 16 * m.h := ⟨_, rfl⟩
    rw [← hn] at c0 hab
    have hn3 : n ≤ 1024 := by omega
    have b1 : (1 : Int) ≤ b := by omega
    have b2 : (a : Int) < n := by omega
    have b3 : (b : Int) ≤ n - a := by omega
    have HP := Lib.hid hP
    clear hin hin' hE hD hA hn hn2 hP0 hP
    go_enter Try.func66, Try.ntmps66
    go_wp2_with (go_at_call 41; refine HM.out.mono ?_; rintro e w1 ⟨rfl, rfl⟩)
    go_loop [13] (fun i => ∃ j : Nat, j ≤ b ∧ i = .int .i64 ((a + j : Nat) : Int) ∧ ∀ t, t < j → P (m.S (a + t)) = true) (fun i => a + b - (intOf i).toNat)
    case atStart => exact ⟨0, by omega, rfl, fun t ht => by omega⟩
    case round =>
      obtain ⟨j, hj, rfl, hall⟩ := hrel
      have HAL := Lib.hid hall
      clear hall
      by_cases hlt : j < b
      · have g0 := HSL.out j hlt
        generalize hx : m.S (a + j) = x at g0
        have HX := Lib.hid hx
        clear hx
        by_cases e1 : x = one
        · have HPX := Lib.hid (show P x = true by rw [HP.out]; exact decide_eq_true (.inl e1))
          have q1 : ((x : Int) != (one : Int)) = false := by rw [e1]; simp
          clear e1
          go_wp2
          go_round
          case rel => exact ⟨j + 1, by omega, by congr 1, fun t ht => by rcases Nat.lt_or_ge t j with hjk | hjk; exact HAL.out t hjk; rw [show t = j from by omega, HX.out]; exact HPX.out⟩
          case measure => simp [intOf]; omega
        · have q1 : ((x : Int) != (one : Int)) = true := by simp only [bne_iff_ne]; omega
          by_cases e2 : x = other
          · have HPX := Lib.hid (show P x = true by rw [HP.out]; exact decide_eq_true (.inr e2))
            have q2 : ((x : Int) != (other : Int)) = false := by rw [e2]; simp
            clear e1 e2
            go_wp2
            go_round
            case rel => exact ⟨j + 1, by omega, by congr 1, fun t ht => by rcases Nat.lt_or_ge t j with hjk | hjk; exact HAL.out t hjk; rw [show t = j from by omega, HX.out]; exact HPX.out⟩
            case measure => simp [intOf]; omega
          · have HPX := Lib.hid (show P x = false by rw [HP.out]; exact decide_eq_false (fun h => h.elim e1 e2))
            have q2 : ((x : Int) != (other : Int)) = true := by simp only [bne_iff_ne]; omega
            have HF := Lib.hid (show allP m.S a b P = false from decide_eq_false fun hh => by have := hh j hlt; rw [HX.out, HPX.out] at this; cases this)
            clear e1 e2
            go_wp2
            go_ret
            exact ⟨ret_int (by rw [HE.out, HF.out]; rfl), by rw [HD.out, HF.out]; exact RMut.same HT.out (Below.refl _ _)⟩
      · have HF := Lib.hid (show allP m.S a b P = true from decide_eq_true fun t ht => HAL.out t (by omega))
        go_wp2_with (go_at_call 65; refine HS.out.mono ?_; rintro e w1 ⟨rfl, hC, hK⟩; have HC := Lib.hid hC; have HKK := Lib.hid hK; clear hC hK)
        go_ret
        have hD := HD.out
        rw [HF.out, if_pos rfl] at hD
        refine ⟨ret_int (by rw [HE.out, HF.out]; rfl), HA.out.setting (m' := chD m a b P v) (by rw [hD]) HWF.out ?_ HKK.out⟩
        rw [hD]
        exact HC.out
  · have hE0 : chE m s k P = 1 := by unfold chE; rw [if_neg hin]
    have HE := Lib.hid hE0
    have HD := Lib.hid (show chD m s k P v = m from by unfold chD; rw [if_neg (by omega)])
    have hin' : ¬ (0 ≤ s ∧ 1 ≤ k ∧ s < 16 * m.h ∧ k ≤ 16 * m.h - s) := fun hh => hin (decide_eq_true hh)
    obtain ⟨A, cap, hA⟩ := h
    have c0 := hA.c0
    obtain ⟨n, hn⟩ : ∃ n, n = 16 * m.h := ⟨_, rfl⟩
    rw [← hn] at c0
    have hn3 : n ≤ 1024 := by omega
    have h4 : s < 0 ∨ (0 ≤ s ∧ k < 1) ∨ (0 ≤ s ∧ 1 ≤ k ∧ (n : Int) ≤ s) ∨ (0 ≤ s ∧ 1 ≤ k ∧ s < (n : Int) ∧ (n : Int) - s < k) := by omega
    clear hin hE0 hP hA hin' hn hn2
    rcases h4 with h4 | ⟨h4, h5⟩ | ⟨h4, h5, h6⟩ | ⟨h4, h5, h6, h7⟩
    · go_enter Try.func66, Try.ntmps66
      go_wp2_with (go_at_call 41; refine HM.out.mono ?_; rintro e w1 ⟨rfl, rfl⟩)
      go_ret
      exact ⟨ret_int HE.out.symm, by rw [HD.out]; exact RMut.same HT.out (Below.refl _ _)⟩
    · go_enter Try.func66, Try.ntmps66
      go_wp2_with (go_at_call 41; refine HM.out.mono ?_; rintro e w1 ⟨rfl, rfl⟩)
      go_ret
      exact ⟨ret_int HE.out.symm, by rw [HD.out]; exact RMut.same HT.out (Below.refl _ _)⟩
    · go_enter Try.func66, Try.ntmps66
      go_wp2_with (go_at_call 41; refine HM.out.mono ?_; rintro e w1 ⟨rfl, rfl⟩)
      go_ret
      exact ⟨ret_int HE.out.symm, by rw [HD.out]; exact RMut.same HT.out (Below.refl _ _)⟩
    · go_enter Try.func66, Try.ntmps66
      go_wp2_with (go_at_call 41; refine HM.out.mono ?_; rintro e w1 ⟨rfl, rfl⟩)
      go_ret
      exact ⟨ret_int HE.out.symm, by rw [HD.out]; exact RMut.same HT.out (Below.refl _ _)⟩

theorem rUse_any {O : Nat → Prop} {B : Nat} {m : Mo} {w : World} (s k : Int) (h : Rf w O B m) : Calls Try.prog 44 #[.pointer (some ⟨B, 0, none⟩), .int .i64 s, .int .i64 k] w fun e w' => e = .returned (.int .i64 (chE m s k pU)) ∧ RMut w O B (chD m s k pU 1) w' := by
  have HC := Lib.hid (rturn_any s k 2 3 1 pU h (by omega) (by omega) rfl (fun x => by unfold pU; simp))
  clear h
  go_enter Try.func44, Try.ntmps44
  go_wp2_with fail
  refine HC.out.mono ?_
  rintro e w1 ⟨rfl, hM⟩
  have HM := Lib.hid hM
  clear hM
  go_wp2
  go_ret
  exact ⟨rfl, HM.out⟩

theorem rUnuse_any {O : Nat → Prop} {B : Nat} {m : Mo} {w : World} (s k : Int) (h : Rf w O B m) : Calls Try.prog 45 #[.pointer (some ⟨B, 0, none⟩), .int .i64 s, .int .i64 k] w fun e w' => e = .returned (.int .i64 (chE m s k pN)) ∧ RMut w O B (chD m s k pN 2) w' := by
  have HC := Lib.hid (rturn_any s k 1 1 2 pN h (by omega) (by omega) rfl (fun x => by unfold pN; simp))
  clear h
  go_enter Try.func45, Try.ntmps45
  go_wp2_with fail
  refine HC.out.mono ?_
  rintro e w1 ⟨rfl, hM⟩
  have HM := Lib.hid hM
  clear hM
  go_wp2
  go_ret
  exact ⟨rfl, HM.out⟩

theorem rRelease_any {O : Nat → Prop} {B : Nat} {m : Mo} {w : World} (s k : Int) (h : Rf w O B m) : Calls Try.prog 46 #[.pointer (some ⟨B, 0, none⟩), .int .i64 s, .int .i64 k] w fun e w' => e = .returned (.int .i64 (chE m s k pR)) ∧ RMut w O B (chD m s k pR 3) w' := by
  have HC := Lib.hid (rturn_any s k 2 2 3 pR h (by omega) (by omega) rfl (fun x => by unfold pR; simp))
  clear h
  go_enter Try.func46, Try.ntmps46
  go_wp2_with fail
  refine HC.out.mono ?_
  rintro e w1 ⟨rfl, hM⟩
  have HM := Lib.hid hM
  clear hM
  go_wp2
  go_ret
  exact ⟨rfl, HM.out⟩

end Go.Proofs.Ytecfjibmpbgllaa
