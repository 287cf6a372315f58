/- Package span, and the document's: Run, Class. -/
import Derived.Test.YtgklkjccfnbcdaaLb
namespace Go.Proofs.Ytgklkjccfnbcdaa
open Go.RowKit

set_option maxRecDepth 100000 in
set_option maxHeartbeats 1000000 in
theorem Run_any {O : Nat → Prop} {v : Value} {om : Option Mo} {w : World} (h : Ob false w O v om) :
    Calls Try.prog 30 #[v] w fun e w' => e = .returned (runV om) ∧ Below w.heap.size w w' := by
  have hb := bnew w (.cells #[.int .i64 0, .int .i64 0] 62)
  replace h := h.below hb
  have HB := Lib.hid hb
  clear hb
  cases om with
  | none =>
    have HM := Lib.hid (made_no h.1)
    clear h
    go_enter Try.func30, Try.ntmps30
    go_wp2_with (go_at_call 34; refine HM.out.mono ?_; rintro e w1 ⟨rfl, rfl⟩)
    exact bodyPost_ret (v := .agg #[.int .i64 0, .int .i64 0]) (by simp [results, Try.results30, go_sem]) rfl ⟨rfl, bnew _ _⟩
  | some m =>
    obtain ⟨B, A, c, rfl, h⟩ := h
    have HM := Lib.hid (made_any h)
    obtain ⟨W0, hW⟩ : ∃ W0, W0 = w.alloc (.cells #[.int .i64 0, .int .i64 0] 62) := ⟨_, rfl⟩
    rw [← hW] at h
    have d0 : W0.cell? ⟨B, 0, none⟩ = some (.int .i64 m.s) := h.cells.1
    have d2 : W0.cell? ⟨B, 2, none⟩ = some (.int .i64 m.g) := h.cells.2.2.1
    rw [hW] at d0 d2
    clear h hW W0
    go_enter Try.func30, Try.ntmps30
    go_wp2_with (go_at_call 34; refine HM.out.mono ?_; rintro e w1 ⟨rfl, rfl⟩)
    go_region
    all_goals
      (try go_wp2)
      exact bodyPost_ret (v := .agg #[.int .i64 m.s, .int .i64 m.g]) (by simp [results, Try.results30, go_sem]) rfl ⟨rfl, by first | exact bnew _ _ | exact belowN (bnew _ _) _⟩

set_option maxRecDepth 100000 in
set_option maxHeartbeats 1000000 in
theorem Class_any {O : Nat → Prop} {v : Value} {om : Option Mo} {w : World} (h : Ob false w O v om) :
    Calls Try.prog 31 #[v] w fun e w' => e = .returned (clsV om) ∧ Below w.heap.size w w' := by
  have hb := bnew w (.cells #[.int .i64 0, .int .i64 0, .int .i64 0] 23)
  replace h := h.below hb
  have HB := Lib.hid hb
  clear hb
  cases om with
  | none =>
    have HM := Lib.hid (made_no h.1)
    clear h
    go_enter Try.func31, Try.ntmps31
    go_wp2_with (go_at_call 34; refine HM.out.mono ?_; rintro e w1 ⟨rfl, rfl⟩)
    exact bodyPost_ret (v := .agg #[.int .i64 0, .int .i64 0, .int .i64 0]) (by simp [results, Try.results31, go_sem]) rfl ⟨rfl, bnew _ _⟩
  | some m =>
    obtain ⟨B, A, c, rfl, h⟩ := h
    have HM := Lib.hid (made_any h)
    obtain ⟨W0, hW⟩ : ∃ W0, W0 = w.alloc (.cells #[.int .i64 0, .int .i64 0, .int .i64 0] 23) := ⟨_, rfl⟩
    rw [← hW] at h
    have d1 : W0.cell? ⟨B, 1, none⟩ = some (.int .i64 m.z) := h.cells.2.1
    have d2 : W0.cell? ⟨B, 2, none⟩ = some (.int .i64 m.g) := h.cells.2.2.1
    have d3 : W0.cell? ⟨B, 3, none⟩ = some (.int .i64 m.t) := h.cells.2.2.2.1
    rw [hW] at d1 d2 d3
    clear h hW W0
    go_enter Try.func31, Try.ntmps31
    go_wp2_with (go_at_call 34; refine HM.out.mono ?_; rintro e w1 ⟨rfl, rfl⟩)
    all_goals
      (try go_wp2)
      exact bodyPost_ret (v := .agg #[.int .i64 m.z, .int .i64 m.g, .int .i64 m.t]) (by simp [results, Try.results31, go_sem]) rfl ⟨rfl, by first | exact bnew _ _ | exact belowN (bnew _ _) _⟩

set_option maxRecDepth 100000 in
set_option maxHeartbeats 1000000 in
theorem rRun_any {O : Nat → Prop} {v : Value} {om : Option Mo} {w : World} (h : Ob true w O v om) :
    Calls Try.prog 48 #[v] w fun e w' => e = .returned (runV om) ∧ Below w.heap.size w w' := by
  have hb := bnew w (.cells #[.int .i64 0, .int .i64 0] 62)
  replace h := h.below hb
  have HB := Lib.hid hb
  clear hb
  cases om with
  | none =>
    have HM := Lib.hid (rmade_no h.1)
    clear h
    go_enter Try.func48, Try.ntmps48
    go_wp2_with (go_at_call 38; refine HM.out.mono ?_; rintro e w1 ⟨rfl, rfl⟩)
    exact bodyPost_ret (v := .agg #[.int .i64 0, .int .i64 0]) (by simp [results, Try.results48, go_sem]) rfl ⟨rfl, bnew _ _⟩
  | some m =>
    obtain ⟨B, A, c, rfl, h⟩ := h
    have HM := Lib.hid (rmade_any h)
    obtain ⟨W0, hW⟩ : ∃ W0, W0 = w.alloc (.cells #[.int .i64 0, .int .i64 0] 62) := ⟨_, rfl⟩
    rw [← hW] at h
    have d3 : W0.cell? ⟨B, 3, none⟩ = some (.int .i64 m.s) := h.cells.2.2.2.1
    have d1 : W0.cell? ⟨B, 1, none⟩ = some (.int .i64 m.g) := h.cells.2.1
    rw [hW] at d3 d1
    clear h hW W0
    go_enter Try.func48, Try.ntmps48
    go_wp2_with (go_at_call 38; refine HM.out.mono ?_; rintro e w1 ⟨rfl, rfl⟩)
    go_region
    all_goals
      (try go_wp2)
      exact bodyPost_ret (v := .agg #[.int .i64 m.s, .int .i64 m.g]) (by simp [results, Try.results48, go_sem]) rfl ⟨rfl, by first | exact bnew _ _ | exact belowN (bnew _ _) _⟩

set_option maxRecDepth 100000 in
set_option maxHeartbeats 1000000 in
theorem rClass_any {O : Nat → Prop} {v : Value} {om : Option Mo} {w : World} (h : Ob true w O v om) :
    Calls Try.prog 49 #[v] w fun e w' => e = .returned (clsV om) ∧ Below w.heap.size w w' := by
  have hb := bnew w (.cells #[.int .i64 0, .int .i64 0, .int .i64 0] 23)
  replace h := h.below hb
  have HB := Lib.hid hb
  clear hb
  cases om with
  | none =>
    have HM := Lib.hid (rmade_no h.1)
    clear h
    go_enter Try.func49, Try.ntmps49
    go_wp2_with (go_at_call 38; refine HM.out.mono ?_; rintro e w1 ⟨rfl, rfl⟩)
    exact bodyPost_ret (v := .agg #[.int .i64 0, .int .i64 0, .int .i64 0]) (by simp [results, Try.results49, go_sem]) rfl ⟨rfl, bnew _ _⟩
  | some m =>
    obtain ⟨B, A, c, rfl, h⟩ := h
    have HM := Lib.hid (rmade_any h)
    obtain ⟨W0, hW⟩ : ∃ W0, W0 = w.alloc (.cells #[.int .i64 0, .int .i64 0, .int .i64 0] 23) := ⟨_, rfl⟩
    rw [← hW] at h
    have d0 : W0.cell? ⟨B, 0, none⟩ = some (.int .i64 m.z) := h.cells.1
    have d1 : W0.cell? ⟨B, 1, none⟩ = some (.int .i64 m.g) := h.cells.2.1
    have d2 : W0.cell? ⟨B, 2, none⟩ = some (.int .i64 m.t) := h.cells.2.2.1
    rw [hW] at d0 d1 d2
    clear h hW W0
    go_enter Try.func49, Try.ntmps49
    go_wp2_with (go_at_call 38; refine HM.out.mono ?_; rintro e w1 ⟨rfl, rfl⟩)
    all_goals
      (try go_wp2)
      exact bodyPost_ret (v := .agg #[.int .i64 m.z, .int .i64 m.g, .int .i64 m.t]) (by simp [results, Try.results49, go_sem]) rfl ⟨rfl, by first | exact bnew _ _ | exact belowN (bnew _ _) _⟩

end Go.Proofs.Ytgklkjccfnbcdaa
