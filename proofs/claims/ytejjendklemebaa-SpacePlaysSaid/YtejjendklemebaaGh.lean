/- The document's own space: New. -/
import Derived.Test.YtejjendklemebaaGg
namespace Go.Proofs.Ytejjendklemebaa
open Go.RowKit

theorem rNew_bad (p : Int) (w : World) (h : ¬ (1 ≤ p ∧ p ≤ 1024)) : Calls Try.prog 37 #[.int .i64 p] w fun e w' => e = .returned (.tuple #[.pointer none, .int .i64 1]) ∧ w = w' := by
  by_cases h1 : p < 1
  · clear h
    go_enter Try.func37, Try.ntmps37
    go_wp2
    go_ret2
    exact ⟨rfl, rfl⟩
  · have h2 : 1024 < p := by omega
    clear h
    go_enter Try.func37, Try.ntmps37
    go_wp2
    go_ret2
    exact ⟨rfl, rfl⟩

def RNewPost (w : World) (n : Nat) (e : Ending) (w' : World) : Prop := ∃ R, e = .returned (.tuple #[.pointer (some ⟨R, 0, none⟩), .int .i64 0]) ∧ Below w.heap.size w w' ∧ Rf w' (Nw w w') R (newM n)
/-- The document's space out of its two rows. -/
theorem box_rf {w W0 : World} {n S H : Nat} {m : Mo} (cs ch : Nat) (p : Int) (hwf : WF m) (hn : m.n = n) (hp : p = m.pk) (hb : Below w.heap.size w W0) (hS : Cl W0 S n (fun k => .int .i64 (m.st k))) (hH : Cl W0 H (n * 32) (fun k => .int .i64 (m.hd k))) (hSl : w.heap.size ≤ S) (hHl : w.heap.size ≤ H) (ne : S ≠ H) :
    ∃ W, (W0.alloc (.cells #[.slice (some ⟨S, 0, none⟩) n cs, .slice (some ⟨H, 0, none⟩) (n * 32) ch, .int .i64 p] 76)).drew = W ∧ Below w.heap.size w W ∧ Rf W (Nw w W) W0.heap.size m := by
  have hn1 := hwf.n1
  have s1 : S < W0.heap.size := hS.lt (by omega)
  have h1 : H < W0.heap.size := hH.lt (by omega)
  have hbs := hb.size
  have hbW : Below w.heap.size w (W0.alloc (.cells #[.slice (some ⟨S, 0, none⟩) n cs, .slice (some ⟨H, 0, none⟩) (n * 32) ch, .int .i64 p] 76)).drew := belowN (hb.alloc hb.size _) 1
  refine ⟨_, rfl, hbW, S, H, cs, ch, hwf, ?_, ?_, ?_, ⟨hbs, by simp⟩, ⟨hSl, by simp; omega⟩, ⟨hHl, by simp; omega⟩, fun k hk => hk.2, ne, by omega, by omega⟩
  · refine Cl.drew ⟨fun i hi => ?_, fun i hi => ?_⟩
    · have : i = 0 ∨ i = 1 ∨ i = 2 := by omega
      rw [hn]
      subst hp
      rcases this with rfl | rfl | rfl <;> (unfold rfF; go_simp)
    · have : i = 0 ∨ i = 1 ∨ i = 2 := by omega
      rcases this with rfl | rfl | rfl <;> go_simp
  · rw [hn]; exact (hS.alloc s1 _).drew
  · rw [hn]; exact (hH.alloc h1 _).drew

set_option maxHeartbeats 1000000 in
theorem rNew_any (n : Nat) (w : World) (h1 : 1 ≤ n) (h2 : n ≤ 1024) : Calls Try.prog 37 #[.int .i64 n] w (RNewPost w n) := by
  have hmk1 := run_make_row' (P := Try.prog) 49 3 (.int .i64 0) 8 Try.underlying49 Try.info3 rfl .i64 .i64 n (by omega) (by omega)
  have hmk2 := run_make_row' (P := Try.prog) 49 3 (.int .i64 0) 8 Try.underlying49 Try.info3 rfl .i64 .i64 (n * 32) (by omega) (by omega)
  have e : ((n * 32 : Nat) : Int) = (n : Int) * 32 := by omega
  rw [e] at hmk2
  clear e
  have hmk1' := fun w => hmk1 w
  have hmk2' := fun w => hmk2 w
  clear hmk1 hmk2
  obtain ⟨Wa, ha, ba, ra⟩ := box_rf (w := w) (W0 := (w.alloc (.cells (madeCells #[.int .i64 0] n) 3)).alloc (.cells (madeCells #[.int .i64 0] (n * 32)) 3)) (n := n) (S := w.heap.size) (H := w.heap.size + 1) (m := newM n) n (n * 32) 0 (newM_wf h1 h2) rfl rfl
    ((bnew _ _).alloc (by simp) _) ((cl_made w n).alloc (by simp) _) (by have := cl_made (w.alloc (.cells (madeCells #[.int .i64 0] n) 3)) (n * 32); rwa [show (w.alloc (.cells (madeCells #[.int .i64 0] n) 3)).heap.size = w.heap.size + 1 from by simp] at this) (Nat.le_refl _) (by omega) (by omega)
  obtain ⟨Wb, hb, bb, rb⟩ := box_rf (w := w) (W0 := (w.alloc (.cells (madeCells #[.int .i64 0] (n * 32)) 3)).alloc (.cells (madeCells #[.int .i64 0] n) 3)) (n := n) (S := w.heap.size + 1) (H := w.heap.size) (m := newM n) n (n * 32) 0 (newM_wf h1 h2) rfl rfl
    ((bnew _ _).alloc (by simp) _) (by have := cl_made (w.alloc (.cells (madeCells #[.int .i64 0] (n * 32)) 3)) n; rwa [show (w.alloc (.cells (madeCells #[.int .i64 0] (n * 32)) 3)).heap.size = w.heap.size + 1 from by simp] at this) ((cl_made w (n * 32)).alloc (by simp) _) (by omega) (Nat.le_refl _) (by omega)
  rw [show ((w.alloc (.cells (madeCells #[.int .i64 0] n) 3)).alloc (.cells (madeCells #[.int .i64 0] (n * 32)) 3)).heap.size = w.heap.size + 1 + 1 from by simp] at ra
  rw [show ((w.alloc (.cells (madeCells #[.int .i64 0] (n * 32)) 3)).alloc (.cells (madeCells #[.int .i64 0] n) 3)).heap.size = w.heap.size + 1 + 1 from by simp] at rb
  have HA := Lib.hid (And.intro ba ra)
  have HB := Lib.hid (And.intro bb rb)
  have HEA := Lib.hid ha
  have HEB := Lib.hid hb
  clear ba ra bb rb ha hb
  go_enter Try.func37, Try.ntmps37
  go_wp2_with fail
  go_region
  · rw [HEA.out]
    go_wp2_with fail
    go_ret2
    exact ⟨_, rfl, HA.out⟩
  · rw [HEB.out]
    go_wp2_with fail
    go_ret2
    exact ⟨_, rfl, HB.out⟩

end Go.Proofs.Ytejjendklemebaa
