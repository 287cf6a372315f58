/- Package span, and the document's: Run, Class. -/
import Derived.Test.YtejfoefhaphacaaGreatLb
namespace Go.Proofs.YtejfoefhaphacaaGreat
open Go.RowKit

set_option maxRecDepth 100000 in
set_option maxHeartbeats 1000000 in
theorem Run_any {O : Nat → Prop} {v : Value} {om : Option Mo} {w : World} (h : Ob false w O v om) :
    Calls Tryz.prog 51 #[v] w fun e w' => e = .returned (runV om) ∧ Below w.heap.size w w' := by
  have hb := bnew w (.cells #[.int .i64 0, .int .i64 0] 55)
  replace h := h.below hb
  have HB := Lib.hid hb
  clear hb
  cases om with
  | none =>
    have HM := Lib.hid (made_no h.1)
    clear h
    go_enter Tryz.func51, Tryz.ntmps51
    go_wp2_with (go_at_call 54; refine HM.out.mono ?_; rintro e w1 ⟨rfl, rfl⟩)
    exact bodyPost_ret (v := .agg #[.int .i64 0, .int .i64 0]) (by simp [results, Tryz.results51, go_sem]) rfl ⟨rfl, bnew _ _⟩
  | some m =>
    obtain ⟨B, A, c, rfl, h⟩ := h
    have HM := Lib.hid (made_any h)
    obtain ⟨W0, hW⟩ : ∃ W0, W0 = w.alloc (.cells #[.int .i64 0, .int .i64 0] 55) := ⟨_, rfl⟩
    rw [← hW] at h
    have d0 : W0.cell? ⟨B, 0, none⟩ = some (.int .i64 m.s) := h.cells.1
    have d2 : W0.cell? ⟨B, 2, none⟩ = some (.int .i64 m.g) := h.cells.2.2.1
    rw [hW] at d0 d2
    clear h hW W0
    go_enter Tryz.func51, Tryz.ntmps51
    go_wp2_with (go_at_call 54; refine HM.out.mono ?_; rintro e w1 ⟨rfl, rfl⟩)
    go_region
    all_goals
      (try go_wp2)
      exact bodyPost_ret (v := .agg #[.int .i64 m.s, .int .i64 m.g]) (by simp [results, Tryz.results51, go_sem]) rfl ⟨rfl, by first | exact bnew _ _ | exact belowN (bnew _ _) _⟩

end Go.Proofs.YtejfoefhaphacaaGreat
