/- The document's own space: counts, State, Read. -/
import Derived.Test.YtejjendklemebaaGc
namespace Go.Proofs.Ytejjendklemebaa
open Go.RowKit

theorem rmade_raw {R S n cs : Nat} {w : World} (c0 : w.cell? ⟨R, 0, none⟩ = some (.slice (some ⟨S, 0, none⟩) n cs)) (hn : 1 ≤ n) : Calls Try.prog 40 #[.pointer (some ⟨R, 0, none⟩)] w fun e w' => e = .returned (.bool true) ∧ w = w' := by
  go_enter Try.func40, Try.ntmps40
  go_wp2
  go_ret
  exact ⟨ret_bool (by simp; omega), rfl⟩

theorem cntS_le (st : Nat → Int) (s : Int) (n : Nat) : cntS st s n ≤ n := by
  unfold cntS
  have := List.countP_le_length (p := fun k => decide (st k = s)) (l := List.range n)
  simpa using this

set_option maxHeartbeats 800000 in
theorem rcount_raw {R S n cs : Nat} {st : Nat → Int} {w : World} (s : Int) (c0 : w.cell? ⟨R, 0, none⟩ = some (.slice (some ⟨S, 0, none⟩) n cs)) (hS : Cl w S n (fun k => .int .i64 (st k))) (hn : 1 ≤ n) (hn2 : n ≤ 1024) :
    Calls Try.prog 74 #[.pointer (some ⟨R, 0, none⟩), .int .i64 s] w fun e w' => e = .returned (.int .i64 (cntS st s n : Nat)) ∧ w = w' := by
  have HM := Lib.hid (rmade_raw c0 hn)
  have HS := Lib.hid hS
  clear hS
  go_enter Try.func74, Try.ntmps74
  go_wp2_with (go_at_call 40; refine HM.out.mono ?_; rintro e w1 ⟨rfl, rfl⟩)
  go_loop [5, 6] (fun v i => ∃ k : Nat, k ≤ n ∧ i = .int .i64 k ∧ v = .int .i64 (cntS st s k : Nat)) (fun _ i => n - (intOf i).toNat)
  case atStart => exact ⟨0, by omega, rfl, rfl⟩
  case round =>
    obtain ⟨k, hk, rfl, rfl⟩ := hrel
    by_cases hlt : k < n
    · have g0 := HS.out.cell k hlt
      have hle := cntS_le st s k
      have hsu := cntS_succ st s k
      by_cases hz : st k = s
      · rw [hz] at g0
        rw [if_pos hz] at hsu
        have HU := Lib.hid hsu
        clear hz hsu
        go_wp2
        go_round
        case rel => exact ⟨k + 1, by omega, by go_num, by rw [HU.out]; go_num⟩
        case measure => simp [intOf]; omega
      · rw [if_neg hz] at hsu
        have HU := Lib.hid hsu
        generalize st k = V at g0 hz
        have z1 : (V == s) = false := by simpa using hz
        clear hz hsu
        go_wp2
        go_round
        case rel => exact ⟨k + 1, by omega, by go_num, by rw [HU.out, Nat.add_zero]⟩
        case measure => simp [intOf]; omega
    · obtain rfl : k = n := by omega
      go_wp2
      go_ret
      exact ⟨rfl, rfl⟩

theorem rDirty_raw {R S n cs : Nat} {st : Nat → Int} {w : World} (c0 : w.cell? ⟨R, 0, none⟩ = some (.slice (some ⟨S, 0, none⟩) n cs)) (hS : Cl w S n (fun k => .int .i64 (st k))) (hn : 1 ≤ n) (hn2 : n ≤ 1024) :
    Calls Try.prog 52 #[.pointer (some ⟨R, 0, none⟩)] w fun e w' => e = .returned (.int .i64 (dirS st n : Nat)) ∧ w = w' := by
  have HC := Lib.hid (rcount_raw 2 c0 hS hn hn2)
  clear c0 hS
  go_enter Try.func52, Try.ntmps52
  go_wp2_with fail
  refine HC.out.mono ?_; rintro e _ ⟨rfl, rfl⟩
  go_wp2_with fail
  go_ret
  exact ⟨rfl, rfl⟩

section
variable {O : Nat → Prop} {R : Nat} {m : Mo} {w : World}
theorem rDirty_any (h : Rf w O R m) : Calls Try.prog 52 #[.pointer (some ⟨R, 0, none⟩)] w fun e w' => e = .returned (.int .i64 m.dir) ∧ w = w' := by
  obtain ⟨S, H, cs, ch, h⟩ := h
  exact rDirty_raw h.c0 h.s h.wf.n1 h.wf.n2
theorem rMapped_any (h : Rf w O R m) : Calls Try.prog 51 #[.pointer (some ⟨R, 0, none⟩)] w fun e w' => e = .returned (.int .i64 m.mpd) ∧ w = w' := by
  obtain ⟨S, H, cs, ch, h⟩ := h
  have h1 := rcount_raw 1 h.c0 h.s h.wf.n1 h.wf.n2
  have h2 := rcount_raw 2 h.c0 h.s h.wf.n1 h.wf.n2
  have hc := cnt_map h.wf.s m.n
  have hl := mapS_le m.st m.n
  have hn := h.wf.n2
  have HD := Lib.hid (show (m.mpd : Int) = (cntS m.st 1 m.n : Int) + (cntS m.st 2 m.n : Int) by show ((mapS m.st m.n : Nat) : Int) = _; omega)
  have hb : cntS m.st 1 m.n + cntS m.st 2 m.n ≤ 1024 := by omega
  clear h hc hl hn
  generalize cntS m.st 1 m.n = c1 at *
  generalize cntS m.st 2 m.n = c2 at *
  have H1 := Lib.hid h1
  have H2 := Lib.hid h2
  clear h1 h2
  go_enter Try.func51, Try.ntmps51
  go_wp2_with fail
  refine H1.out.mono ?_; rintro e _ ⟨rfl, rfl⟩
  go_wp2_with fail
  refine H2.out.mono ?_; rintro e _ ⟨rfl, rfl⟩
  go_wp2_with fail
  go_ret
  exact ⟨ret_int HD.out.symm, rfl⟩
theorem rPages_any (h : Rf w O R m) : Calls Try.prog 50 #[.pointer (some ⟨R, 0, none⟩)] w fun e w' => e = .returned (.int .i64 m.n) ∧ w = w' := by
  have HM := Lib.hid (rmade_any h)
  obtain ⟨S, H, cs, ch, h⟩ := h
  have c0 := h.c0
  clear h
  go_enter Try.func50, Try.ntmps50
  go_wp2_with (go_at_call 40; refine HM.out.mono ?_; rintro e w1 ⟨rfl, rfl⟩)
  go_ret
  exact ⟨rfl, rfl⟩
theorem rPeak_any (h : Rf w O R m) : Calls Try.prog 53 #[.pointer (some ⟨R, 0, none⟩)] w fun e w' => e = .returned (.int .i64 m.pk) ∧ w = w' := by
  have HM := Lib.hid (rmade_any h)
  obtain ⟨S, H, cs, ch, h⟩ := h
  have c2 := h.c2
  clear h
  go_enter Try.func53, Try.ntmps53
  go_wp2_with (go_at_call 40; refine HM.out.mono ?_; rintro e w1 ⟨rfl, rfl⟩)
  go_ret
  exact ⟨rfl, rfl⟩
set_option maxHeartbeats 400000 in
theorem rState_any (p : Int) (h : Rf w O R m) (hp : InR p) : Calls Try.prog 56 #[.pointer (some ⟨R, 0, none⟩), .int .i64 p] w fun e w' => e = .returned (.int .i64 (stV m p)) ∧ w = w' := by
  have HM := Lib.hid (rmade_any h)
  obtain ⟨S, H, cs, ch, h⟩ := h
  have c0 := h.c0
  have hn2 := h.wf.n2
  have HS := Lib.hid h.s
  clear h
  obtain ⟨hp1, hp2⟩ := hp
  by_cases hin : 0 ≤ p ∧ p < m.n
  · obtain ⟨q, rfl⟩ : ∃ q : Nat, p = q := ⟨p.toNat, by omega⟩
    have hq : q < m.n := by omega
    have g0 := HS.out.cell q hq
    have HE := Lib.hid (stV_in hq)
    generalize m.st q = V at g0 HE
    clear hin
    go_enter Try.func56, Try.ntmps56
    go_wp2_with (go_at_call 40; refine HM.out.mono ?_; rintro e w1 ⟨rfl, rfl⟩)
    go_ret
    exact ⟨ret_int HE.out.symm, rfl⟩
  · have HE := Lib.hid (stV_out hin)
    by_cases h0 : p < 0
    · clear hin
      go_enter Try.func56, Try.ntmps56
      go_wp2_with (go_at_call 40; refine HM.out.mono ?_; rintro e w1 ⟨rfl, rfl⟩)
      go_ret
      exact ⟨ret_int HE.out.symm, rfl⟩
    · have h1 : (m.n : Int) ≤ p := by omega
      have h2 : 0 ≤ p := by omega
      clear hin h0
      go_enter Try.func56, Try.ntmps56
      go_wp2_with (go_at_call 40; refine HM.out.mono ?_; rintro e w1 ⟨rfl, rfl⟩)
      all_goals (go_ret; exact ⟨ret_int HE.out.symm, rfl⟩)
set_option maxHeartbeats 400000 in
theorem rRead_any (a : Int) (h : Rf w O R m) (ha : -9223372036854775808 ≤ a ∧ a ≤ 9223372036854775807) :
    Calls Try.prog 44 #[.pointer (some ⟨R, 0, none⟩), .int .i64 a] w fun e w' => e = .returned (.tuple #[.int .i64 (rdV m a), .int .i64 (rdE m a)]) ∧ w = w' := by
  have HM := Lib.hid (rmade_any h)
  have hc := rcan_any a 1 h ha (by omega) (by omega)
  obtain ⟨S, H, cs, ch, h⟩ := h
  have c1 := h.c1
  have hn2 := h.wf.n2
  have HS := Lib.hid h.h
  clear h
  by_cases hacc : accM m a 1 = true
  · rw [hacc] at hc
    have HC := Lib.hid hc
    obtain ⟨i, rfl, hi, _⟩ := accM_one hacc
    have HV := Lib.hid (show rdV m (8 * (i : Int)) = m.hd i ∧ rdE m (8 * (i : Int)) = 0 by
      unfold rdV rdE
      rw [if_pos hacc, if_pos hacc, show (8 * (i : Int) / 8).toNat = i from by omega]
      exact ⟨rfl, rfl⟩)
    have g0 := HS.out.cell i (by omega)
    generalize m.hd i = V at g0 HV
    clear hc hacc
    go_enter Try.func44, Try.ntmps44
    go_wp2_with fail
    refine HM.out.mono ?_; rintro e _ ⟨rfl, rfl⟩
    go_wp2_with fail
    refine HC.out.mono ?_; rintro e _ ⟨rfl, rfl⟩
    go_wp2_with fail
    go_ret2
    exact ⟨ret_two HV.out.1.symm HV.out.2.symm, rfl⟩
  · have hf : accM m a 1 = false := by simpa using hacc
    rw [hf] at hc
    have HC := Lib.hid hc
    have HV := Lib.hid (show rdV m a = 0 ∧ rdE m a = 7 by unfold rdV rdE; rw [if_neg hacc, if_neg hacc]; exact ⟨rfl, rfl⟩)
    clear hc hacc hf
    go_enter Try.func44, Try.ntmps44
    go_wp2_with fail
    refine HM.out.mono ?_; rintro e _ ⟨rfl, rfl⟩
    go_wp2_with fail
    refine HC.out.mono ?_; rintro e _ ⟨rfl, rfl⟩
    go_wp2_with fail
    go_ret2
    exact ⟨ret_two HV.out.1.symm HV.out.2.symm, rfl⟩
end

end Go.Proofs.Ytejjendklemebaa
