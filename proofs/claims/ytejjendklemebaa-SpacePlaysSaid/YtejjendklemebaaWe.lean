/- Package space: New, and copies of the list of pages. -/
import Derived.Test.YtejjendklemebaaWd
namespace Go.Proofs.Ytejjendklemebaa
open Go.RowKit

theorem Try.info72 : (Try.prog.info? 72).map (fun i => (i.zero, i.size, i.bytes)) = some (some (.agg #[.bool false, .pointer none]), 2, 16) := by kernel_rfl

theorem madeCells_get (z : Array Value) (n j : Nat) (hj : j < n) : (madeCells z n)[j]? = some z[j % z.size]! := by simp [madeCells, hj]

set_option maxHeartbeats 400000 in
theorem New_bad (p : Int) (w : World) (h : ¬ (1 ≤ p ∧ p ≤ 1024)) : Calls Try.prog 36 #[.int .i64 p] w fun e w' => e = .returned (.tuple #[.pointer none, .int .i64 1]) ∧ w = w' := by
  by_cases h1 : p < 1
  · clear h
    go_enter Try.func36, Try.ntmps36
    go_wp2
    go_ret2
    exact ⟨rfl, rfl⟩
  · have h2 : 1024 < p := by omega
    clear h
    go_enter Try.func36, Try.ntmps36
    go_wp2
    go_ret2
    exact ⟨rfl, rfl⟩

theorem new_sp (w : World) (n : Nat) (h1 : 1 ≤ n) (h2 : n ≤ 1024) :
    Sp ((w.alloc (.cells (madeCells #[.bool false, .pointer none] (n * 2)) 72)).alloc (.cells #[.slice (some ⟨w.heap.size, 0, none⟩) n n, .int .i64 0, .int .i64 0] 38))
      (Nw w ((w.alloc (.cells (madeCells #[.bool false, .pointer none] (n * 2)) 72)).alloc (.cells #[.slice (some ⟨w.heap.size, 0, none⟩) n n, .int .i64 0, .int .i64 0] 38))) (w.heap.size + 1) (newM n) := by
  obtain ⟨W, hW⟩ : ∃ W, W = (w.alloc (.cells (madeCells #[.bool false, .pointer none] (n * 2)) 72)).alloc (.cells #[.slice (some ⟨w.heap.size, 0, none⟩) n n, .int .i64 0, .int .i64 0] 38) := ⟨_, rfl⟩
  have hsz : W.heap.size = w.heap.size + 2 := by rw [hW]; simp
  have hA : W.heap[w.heap.size]? = some (.cells (madeCells #[.bool false, .pointer none] (n * 2)) 72) := by
    rw [hW, Below.heap_alloc _ _ _ (by simp)]
    show (w.heap.push _)[w.heap.size]? = _
    rw [Array.getElem?_push, if_pos rfl]
  have hB : W.heap[w.heap.size + 1]? = some (.cells #[.slice (some ⟨w.heap.size, 0, none⟩) n n, .int .i64 0, .int .i64 0] 38) := by
    rw [hW]
    show ((w.alloc _).heap.push _)[w.heap.size + 1]? = _
    rw [Array.getElem?_push, if_pos (by simp)]
  rw [← hW]
  refine ⟨w.heap.size, n, fun _ => none, newM_wf h1 h2, ⟨fun i hi => ?_, fun i _ => by simp [World.frozen?, hB]⟩, ⟨fun i hi => ?_, fun i _ => by simp [World.frozen?, hA]⟩, fun k b _ h => (by cases h), fun k _ => ⟨fun _ => (by show (0 : Int) ≠ 2; omega), fun _ => rfl⟩,
    fun k k' b _ _ h _ => (by cases h), ⟨(by omega), (by omega)⟩, ⟨(by omega), (by omega)⟩, fun k b _ h => (by cases h), fun k hk => hk.2, (by omega), fun k b _ h => (by cases h), Nat.le_refl _⟩
  · have hd : (newM n).dir = 0 := by have := (newM_wf h1 h2).d; exact Nat.le_zero.1 this
    rw [hd]
    have hi3 : i = 0 ∨ i = 1 ∨ i = 2 := by omega
    rcases hi3 with rfl | rfl | rfl <;> simp [World.cell?, hB, spF, newM]
  · have hi' : i < n * 2 := hi
    have e : W.cell? ⟨w.heap.size, i, none⟩ = (madeCells #[.bool false, .pointer none] (n * 2))[i]? := by simp [World.cell?, hA]
    rw [e, madeCells_get _ _ _ hi']
    unfold pgF newM ptrA
    by_cases h0 : i % 2 = 0
    · rw [if_pos h0]; simp [h0]
    · rw [if_neg h0]
      have : i % 2 = 1 := by omega
      simp [this]

set_option maxHeartbeats 400000 in
theorem New_any (n : Nat) (w : World) (h1 : 1 ≤ n) (h2 : n ≤ 1024) : Calls Try.prog 36 #[.int .i64 n] w fun e w' => ∃ B, e = .returned (.tuple #[.pointer (some ⟨B, 0, none⟩), .int .i64 0]) ∧ Below w.heap.size w w' ∧ Sp w' (Nw w w') B (newM n) := by
  obtain ⟨i, hi, hz0, hz1, hz2⟩ := info_parts Try.info72
  have hmk := fun w => run_make (P := Try.prog) w 36 72 i (.agg #[.bool false, .pointer none]) Try.underlying36 hi hz0 .i64 .i64 n n (by omega) (Int.le_refl _) (by rw [hz2]; omega) (by omega)
  rw [hz1] at hmk
  simp only [Int.toNat_natCast, Value.cells] at hmk
  have HS := Lib.hid (new_sp w n h1 h2)
  clear hi hz0 hz1 hz2
  go_enter Try.func36, Try.ntmps36
  go_wp2
  go_ret2
  exact ⟨_, rfl, (bnew _ _).alloc (by simp) _, by simpa using HS.out⟩

end Go.Proofs.Ytejjendklemebaa
