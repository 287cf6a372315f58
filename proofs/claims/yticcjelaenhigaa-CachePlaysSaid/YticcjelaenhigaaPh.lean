/- Package cache: Over, Clone. -/
import Derived.Test.YticcjelaenhigaaPg
namespace Go.Proofs.Yticcjelaenhigaa
open Go.RowKit Go.Lib

set_option maxRecDepth 100000 in
set_option maxHeartbeats 2000000 in
theorem cOver_any {O : Nat → Prop} {v : Value} {om : Option Tc} {w : World} (h : TOb false w O v om) : Calls Try.prog 34 #[v] w fun e w' => e = .returned (.bool (ovT om)) ∧ Below w.heap.size w w' := by
  cases om with
  | none =>
    have HM := Lib.hid (fun (n : CW w.heap.size w) => (cmade_no (h.below n.bel).1).mono (R' := fun e w' => e = .returned (.bool false) ∧ Below n.wd.heap.size n.wd w') (fun e w' hp => ⟨hp.1, hp.2 ▸ Below.refl _ _⟩))
    clear h
    go_enter Try.func34, Try.ntmps34
    go_wp2_with fail
    refine region_below w.heap.size (by kernel_rfl) (by kernel_rfl) ?_
    repeat (first | go_big_quiet_step ((go_at_call 41; exact quietB (Nat.le_refl _) (HM.out _))) | quiet_step ((go_at_call 41; exact quietB (Nat.le_refl _) (HM.out _))))
    refine wpQuiet_nil ?_
    rintro _ ⟨nq, rfl⟩
    have HQ := Lib.hid nq.bel
    generalize nq.wd = wq at *
    go_wp2_with fail
    go_ret
    exact ⟨rfl, HQ.out⟩
  | some c =>
    have HM := Lib.hid (fun (n : CW w.heap.size w) => show Calls Try.prog 41 #[v] n.wd fun e w' => e = .returned (.bool true) ∧ Below n.wd.heap.size n.wd w' from by
      obtain ⟨B, M, Q, p, F, rfl, h⟩ := h
      exact (cmade_any (h.below n.bel)).mono (fun e w' hp => ⟨hp.1, hp.2 ▸ Below.refl _ _⟩))
    have HB := Lib.hid (fun (n : CW w.heap.size w) => cBytes_any (h.below n.bel))
    have hbl := byT_le h
    have hgl := h.wf.g
    have HOV := Lib.hid (show ovT (some c) = decide (c.g < byT (some c)) from rfl)
    obtain ⟨B, M, Q, p, F, rfl, h⟩ := h
    have c0 := h.cells.1
    have hBl := h.lt _ h.ob
    have C0 := CW.cell (N := w.heap.size) (a := ⟨B, 0, none⟩) hBl c0
    generalize byT (some c) = bt at *
    generalize c.g = gg at *
    clear h
    go_enter Try.func34, Try.ntmps34
    go_wp2_with fail
    refine region_below w.heap.size (by kernel_rfl) (by kernel_rfl) ?_
    repeat (first | go_big_quiet_step (first | (go_at_call 41; exact quietB (Nat.le_refl _) (HM.out _)) | (go_at_call 33; exact quietB (Nat.le_refl _) (HB.out _))) | quiet_step (first | (go_at_call 41; exact quietB (Nat.le_refl _) (HM.out _)) | (go_at_call 33; exact quietB (Nat.le_refl _) (HB.out _))))
    refine wpQuiet_nil ?_
    rintro _ ⟨nq, rfl⟩
    have HQ := Lib.hid nq.bel
    generalize nq.wd = wq at *
    go_wp2_with fail
    go_ret
    refine ⟨ret_bool ?_, HQ.out⟩
    rw [HOV.out]
end Go.Proofs.Yticcjelaenhigaa
