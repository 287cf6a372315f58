/- Package space: what reads. -/
import Derived.Test.YtejjendklemebaaLc
namespace Go.Proofs.Ytejjendklemebaa
open Go.RowKit

theorem quietL {P : Program} {f : FuncId} {args : Array Value} {w : World} {k : Nat} {r : Value} (hc : Calls P f args (w.drewN k) fun e w' => e = .returned r ∧ w.drewN k = w') :
    Calls P f args (w.drewN k) fun e w' => e = .returned r ∧ ∃ j, w' = w.drewN j := by
  refine hc.mono ?_
  rintro e w' ⟨he, rfl⟩
  exact ⟨he, k, rfl⟩

theorem accM_one {m : Mo} {a : Int} (h : accM m a 1 = true) : ∃ i : Nat, a = 8 * i ∧ i < 32 * m.n ∧ m.st (i / 32) ≠ 0 := by
  rcases of_decide_eq_true h with h0 | ⟨h1, h2, h3, h4, h5⟩
  · omega
  · refine ⟨(a / 8).toNat, by omega, by omega, ?_⟩
    have := h5 0 (by omega)
    rwa [Nat.add_zero] at this
theorem accM_at {m : Mo} {i : Nat} (h : i < 32 * m.n) (hs : m.st (i / 32) ≠ 0) : accM m (8 * i) 1 = true := by
  refine decide_eq_true (.inr ⟨by omega, by omega, by omega, by omega, fun j hj => ?_⟩)
  rw [show ((8 * (i : Int)) / 8).toNat + j = i from by omega]
  exact hs

set_option maxHeartbeats 800000 in
theorem Read_any {O : Nat → Prop} {B : Nat} {m : Mo} {w : World} (a : Int) (h : Sp w O B m) (ha : -9223372036854775808 ≤ a ∧ a ≤ 9223372036854775807) :
    Calls Try.prog 23 #[.pointer (some ⟨B, 0, none⟩), .int .i64 a] w fun e w' => e = .returned (.tuple #[.int .i64 (rdV m a), .int .i64 (rdE m a)]) ∧ Below w.heap.size w w' := by
  have HM := Lib.hid (made_any h)
  have HA := Lib.hid (accessible_any a 1 h ha (by omega) (by omega))
  cases hacc : accM m a 1
  · rw [hacc] at HA
    have HV := Lib.hid (show rdV m a = 0 by unfold rdV; rw [hacc]; rfl)
    have HE := Lib.hid (show rdE m a = 7 by unfold rdE; rw [hacc]; rfl)
    clear h hacc
    go_enter Try.func23, Try.ntmps23
    go_wp2_with (first
      | (go_at_call 38; refine HM.out.mono ?_; rintro e w1 ⟨rfl, rfl⟩)
      | (go_at_call 59; refine HA.out.mono ?_; rintro e w1 ⟨rfl, hb1⟩))
    go_ret2
    exact ⟨ret_two HV.out.symm HE.out.symm, hb1⟩
  · rw [hacc] at HA
    obtain ⟨i, rfl, hi, hs⟩ := accM_one hacc
    have hv : rdV m (8 * i) = m.hd i := by unfold rdV; rw [hacc, if_pos rfl, show ((8 * (i : Int)) / 8).toNat = i from by omega]
    have HE := Lib.hid (show rdE m (8 * i) = 0 by unfold rdE; rw [hacc]; rfl)
    obtain ⟨A, cap, pt, h⟩ := h
    have hn2 := h.wf.n2
    have hz := h.wf.z i
    have hcp := h.cp
    have HS := Lib.hid h
    have e2 : (8 * (i : Int)) / 256 = ((i / 32 : Nat) : Int) := by omega
    have hq : i / 32 < m.n := by omega
    have HW := Lib.hid (fun w => wordOf_any i w (by omega))
    have hr : i % 32 < 32 := by omega
    have hws := h.ws (i / 32)
    have hpn := h.pn (i / 32) hq
    rw [hv]
    cases hp : pt (i / 32) with
    | none =>
      have hd0 := hz (hpn.1 hp)
      rw [hd0]
      clear h hacc hv hz hws hpn hs ha
      generalize hqq : i / 32 = q at e2 hq hp
      clear hqq
      go_enter Try.func23, Try.ntmps23
      go_wp2_with (first
        | (go_at_call 38; refine HM.out.mono ?_; rintro e w1 ⟨rfl, rfl⟩)
        | (go_at_call 59; refine HA.out.mono ?_; rintro e w1 ⟨rfl, hb1⟩; have hS := HS.out.below hb1; have c0 := hS.c0; have g1 := hS.a1 hq; rw [hp] at g1; simp only [ptrA] at g1; clear hS))
      go_ret2
      exact ⟨ret_two rfl HE.out.symm, hb1⟩
    | some b =>
      have gw := (hws b hq hp)
      have HG := Lib.hid gw
      have g0 := gw.cell (i % 32) hr
      rw [show 32 * (i / 32) + i % 32 = i from by omega] at g0
      clear h hacc hv hz hws hpn hs ha gw
      generalize hqq : i / 32 = q at e2 hq hp HG
      generalize hrr : i % 32 = r at HW hr g0
      clear hqq hrr
      go_enter Try.func23, Try.ntmps23
      go_wp2_with (first
        | (go_at_call 38; refine HM.out.mono ?_; rintro e w1 ⟨rfl, rfl⟩)
        | (go_at_call 59; refine HA.out.mono ?_; rintro e w1 ⟨rfl, hb1⟩; have hS := HS.out.below hb1; have c0 := hS.c0; have g1 := hS.a1 hq; rw [hp] at g1; simp only [ptrA] at g1; clear hS; have g2 := (hb1.cell (p := ⟨b, r, none⟩) (World.block_lt_of_cell? _ _ g0)).trans g0))
      go_quiet ((go_at_call 60; exact quietL (HW.out _)))
      go_wp2
      go_ret2
      exact ⟨ret_two rfl HE.out.symm, belowN hb1 _⟩

set_option maxHeartbeats 400000 in
theorem Read_no {v : Value} {w : World} (a : Int) (h : NoS w v) : Calls Try.prog 23 #[v, .int .i64 a] w fun e w' => e = .returned (.tuple #[.int .i64 0, .int .i64 5]) ∧ Below w.heap.size w w' := by
  have HM := Lib.hid (made_no h)
  clear h
  go_enter Try.func23, Try.ntmps23
  go_wp2_with (go_at_call 38; refine HM.out.mono ?_; rintro e w1 ⟨rfl, rfl⟩)
  go_ret2
  exact ⟨rfl, Below.refl _ _⟩

set_option maxHeartbeats 400000 in
theorem Pages_any {O : Nat → Prop} {B : Nat} {m : Mo} {w : World} (h : Sp w O B m) : Calls Try.prog 24 #[.pointer (some ⟨B, 0, none⟩)] w fun e w' => e = .returned (.int .i64 m.n) ∧ w = w' := by
  have HM := Lib.hid (made_any h)
  obtain ⟨A, cap, pt, h⟩ := h
  have c0 := h.c0
  have hn2 := h.wf.n2
  clear h
  go_enter Try.func24, Try.ntmps24
  go_wp2_with (go_at_call 38; refine HM.out.mono ?_; rintro e w1 ⟨rfl, rfl⟩)
  go_ret
  exact ⟨rfl, rfl⟩
set_option maxHeartbeats 400000 in
theorem Pages_no {v : Value} {w : World} (h : NoS w v) : Calls Try.prog 24 #[v] w fun e w' => e = .returned (.int .i64 0) ∧ w = w' := by
  have HM := Lib.hid (made_no h)
  clear h
  go_enter Try.func24, Try.ntmps24
  go_wp2_with (go_at_call 38; refine HM.out.mono ?_; rintro e w1 ⟨rfl, rfl⟩)
  go_ret
  exact ⟨rfl, rfl⟩
set_option maxHeartbeats 400000 in
theorem Dirty_any {O : Nat → Prop} {B : Nat} {m : Mo} {w : World} (h : Sp w O B m) : Calls Try.prog 28 #[.pointer (some ⟨B, 0, none⟩)] w fun e w' => e = .returned (.int .i64 m.dir) ∧ w = w' := by
  have HM := Lib.hid (made_any h)
  obtain ⟨A, cap, pt, h⟩ := h
  have c1 := h.c1
  clear h
  go_enter Try.func28, Try.ntmps28
  go_wp2_with (go_at_call 38; refine HM.out.mono ?_; rintro e w1 ⟨rfl, rfl⟩)
  go_ret
  exact ⟨rfl, rfl⟩
set_option maxHeartbeats 400000 in
theorem Dirty_no {v : Value} {w : World} (h : NoS w v) : Calls Try.prog 28 #[v] w fun e w' => e = .returned (.int .i64 0) ∧ w = w' := by
  have HM := Lib.hid (made_no h)
  clear h
  go_enter Try.func28, Try.ntmps28
  go_wp2_with (go_at_call 38; refine HM.out.mono ?_; rintro e w1 ⟨rfl, rfl⟩)
  go_ret
  exact ⟨rfl, rfl⟩
set_option maxHeartbeats 400000 in
theorem Peak_any {O : Nat → Prop} {B : Nat} {m : Mo} {w : World} (h : Sp w O B m) : Calls Try.prog 29 #[.pointer (some ⟨B, 0, none⟩)] w fun e w' => e = .returned (.int .i64 m.pk) ∧ w = w' := by
  have HM := Lib.hid (made_any h)
  obtain ⟨A, cap, pt, h⟩ := h
  have c2 := h.c2
  clear h
  go_enter Try.func29, Try.ntmps29
  go_wp2_with (go_at_call 38; refine HM.out.mono ?_; rintro e w1 ⟨rfl, rfl⟩)
  go_ret
  exact ⟨rfl, rfl⟩
set_option maxHeartbeats 400000 in
theorem Peak_no {v : Value} {w : World} (h : NoS w v) : Calls Try.prog 29 #[v] w fun e w' => e = .returned (.int .i64 0) ∧ w = w' := by
  have HM := Lib.hid (made_no h)
  clear h
  go_enter Try.func29, Try.ntmps29
  go_wp2_with (go_at_call 38; refine HM.out.mono ?_; rintro e w1 ⟨rfl, rfl⟩)
  go_ret
  exact ⟨rfl, rfl⟩

set_option maxHeartbeats 800000 in
theorem Mapped_any {O : Nat → Prop} {B : Nat} {m : Mo} {w : World} (h : Sp w O B m) : Calls Try.prog 27 #[.pointer (some ⟨B, 0, none⟩)] w fun e w' => e = .returned (.int .i64 m.mpd) ∧ Below w.heap.size w w' := by
  have HM := Lib.hid (made_any h)
  obtain ⟨A, cap, pt, h⟩ := h
  have c0 := h.c0
  have hn2 := h.wf.n2
  have HS := Lib.hid h
  have HD := Lib.hid (show m.mpd = mapS m.st m.n from rfl)
  obtain ⟨n, hn⟩ : ∃ n, n = m.n := ⟨_, rfl⟩
  rw [← hn] at c0 hn2
  have HN := Lib.hid hn
  clear h hn
  go_enter Try.func27, Try.ntmps27
  go_wp2_with (go_at_call 38; refine HM.out.mono ?_; rintro e w1 ⟨rfl, rfl⟩)
  go_loopw [3, 14] (fun v i wr => ∃ k : Nat, k ≤ n ∧ i = .int .i64 k ∧ v = .int .i64 (mapS m.st k : Nat) ∧ Below w.heap.size w wr) (fun _ i _ => n - (intOf i).toNat)
  case atStart => exact ⟨0, by omega, rfl, rfl, Below.refl _ _⟩
  case round =>
    obtain ⟨k, hk, rfl, rfl, hB⟩ := hrel
    by_cases hlt : k < n
    · have hS := HS.out.below hB
      have g0 := hS.a0 (k := k) (by have := HN.out; omega)
      have g1 := hS.a1 (k := k) (by have := HN.out; omega)
      have hle := mapS_le m.st k
      have hsu := mapS_succ m.st k
      clear hS
      by_cases hz : m.st k = 0
      · rw [decide_eq_false (by omega)] at g0
        rw [if_neg (by omega)] at hsu
        have HU := Lib.hid hsu
        clear hz hsu
        go_wp2_with (go_at_call 61; refine (isMapped_any _ _ _).mono ?_; rintro e w1 ⟨rfl, hb1⟩)
        go_roundw
        case rel => exact ⟨k + 1, by omega, by go_num, by rw [HU.out, Nat.add_zero], btr hB (btr (bnew wr _) hb1 (Nat.le_refl _)) (Nat.le_refl _)⟩
        case measure => simp [intOf]; omega
      · rw [decide_eq_true hz] at g0
        rw [if_pos hz] at hsu
        have HU := Lib.hid hsu
        clear hz hsu
        go_wp2_with (go_at_call 61; refine (isMapped_any _ _ _).mono ?_; rintro e w1 ⟨rfl, hb1⟩)
        go_roundw
        case rel => exact ⟨k + 1, by omega, by go_num, by rw [HU.out]; go_num, btr hB (btr (bnew wr _) hb1 (Nat.le_refl _)) (Nat.le_refl _)⟩
        case measure => simp [intOf]; omega
    · go_wp2
      go_ret
      obtain rfl : k = n := by omega
      exact ⟨ret_int (by rw [HD.out, HN.out]), hB⟩
set_option maxHeartbeats 400000 in
theorem Mapped_no {v : Value} {w : World} (h : NoS w v) : Calls Try.prog 27 #[v] w fun e w' => e = .returned (.int .i64 0) ∧ w = w' := by
  have HM := Lib.hid (made_no h)
  clear h
  go_enter Try.func27, Try.ntmps27
  go_wp2_with (go_at_call 38; refine HM.out.mono ?_; rintro e w1 ⟨rfl, rfl⟩)
  go_ret
  exact ⟨rfl, rfl⟩

end Go.Proofs.Ytejjendklemebaa
