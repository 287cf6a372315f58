/- The document's own heap: Free, New, place. -/
import Derived.Test.YtnmejilpifmlnaaDoorGc
import Derived.Laws.MakeOwn
namespace Go.Proofs.YtnmejilpifmlnaaDoor
open Go.RowKit

set_option maxHeartbeats 1000000 in
theorem rFree_any {O : Nat → Prop} {B : Nat} {m : Mo} {w : World} (h : Rf w O B m) : Calls Tryd.prog 40 #[.pointer (some ⟨B, 0, none⟩)] w fun e w' => e = .returned (.int .i64 (m.fr : Nat)) ∧ w = w' := by
  have HM := Lib.hid (rmade_any h)
  obtain ⟨A, cap, h⟩ := h
  have HA := Lib.hid h
  have hn2 := h.wf.n2
  have c0 := h.b.cell 0 (by omega)
  obtain ⟨n, hn⟩ : ∃ n, m.n = n := ⟨_, rfl⟩
  rw [hn] at hn2 c0
  have HN := Lib.hid hn
  have HFQ := Lib.hid (show cntF m.F n = m.fr by unfold Mo.fr; rw [hn])
  clear h hn
  go_enter Tryd.func40, Tryd.ntmps40
  go_wp2_with (go_at_call 35; refine HM.out.mono ?_; rintro e _ ⟨rfl, rfl⟩)
  go_loopw [3, 4] (fun cv pv wr => ∃ q : Nat, q ≤ n ∧ pv = .int .i64 q ∧ cv = .int .i64 (cntF m.F q : Nat) ∧ w = wr) (fun _ v _ => n - (intOf v).toNat)
  case atStart => exact ⟨0, by omega, rfl, rfl, rfl⟩
  case round =>
    obtain ⟨q, hq, rfl, rfl, rfl⟩ := hrel
    have hcs := cntF_succ m.F q
    have hcl := cntF_le m.F q
    by_cases hlt : q < n
    · have ca := HA.out.a.cell q (by have := HN.out; omega)
      generalize hC : cntF m.F q = C at hcs hcl
      generalize hC1 : cntF m.F (q + 1) = C1 at hcs
      have HC1 := Lib.hid hC1
      have hsw : IntKind.i64.wrap ((C : Int) + 1) = (C : Int) + 1 := IntWalk.i64_in _ (by omega)
      clear hC hC1
      cases hv : m.F q
      · rw [hv] at ca hcs
        simp only [reduceIte, Bool.false_eq_true] at hcs
        go_wp2_with fail
        go_roundw
        case rel => exact ⟨q + 1, by omega, by go_num, by rw [HC1.out, hcs]; go_num, trivial⟩
        case measure => simp [intOf]; omega
      · rw [hv] at ca hcs
        simp only [reduceIte] at hcs
        go_wp2_with fail
        go_roundw
        case rel => exact ⟨q + 1, by omega, by go_num, by rw [HC1.out, hcs]; go_num, trivial⟩
        case measure => simp [intOf]; omega
    · have HF2 := Lib.hid (show cntF m.F q = m.fr by rw [show q = n from by omega]; exact HFQ.out)
      clear hcs hcl
      generalize cntF m.F q = C at HF2
      go_wp2_with fail
      go_ret
      exact ⟨ret_int (congrArg Int.ofNat HF2.out), rfl⟩

theorem rNew_bad (p : Int) (w : World) (h : ¬ (1 ≤ p ∧ p ≤ 1024)) : Calls Tryd.prog 15 #[.int .i64 p] w fun e w' => e = .returned (.tuple #[.pointer none, .int .i64 1]) ∧ w = w' := by
  by_cases h1 : p < 1
  · clear h
    go_enter Tryd.func15, Tryd.ntmps15
    go_wp2
    go_ret2
    exact ⟨rfl, rfl⟩
  · have h2 : 1024 < p := by omega
    clear h
    go_enter Tryd.func15, Tryd.ntmps15
    go_wp2
    go_ret2
    exact ⟨rfl, rfl⟩

theorem Tryd.info4 : (Tryd.prog.info? 4).map (fun i => (i.zero, i.size, i.bytes)) = some (some (.bool false), 1, 1) := by kernel_rfl
theorem madeG (z : Array Value) (n j : Nat) (hj : j < n) : (madeCells z n)[j]? = some z[j % z.size]! := by simp [madeCells, hj]
theorem rf_new (w : World) (n : Nat) (h1 : 1 ≤ n) (h2 : n ≤ 1024) :
    Rf ((w.alloc (.cells (madeCells #[.bool false] n) 4)).alloc (.cells #[.slice (some ⟨w.heap.size, 0, none⟩) n n] 67)) (Nw w ((w.alloc (.cells (madeCells #[.bool false] n) 4)).alloc (.cells #[.slice (some ⟨w.heap.size, 0, none⟩) n n] 67))) (w.heap.size + 1) (newM n) := by
  have hz1 : (w.alloc (.cells (madeCells #[.bool false] n) 4)).heap.size = w.heap.size + 1 := by simp
  have hA := (MapKept.heap_alloc w (.cells (madeCells #[.bool false] n) 4)).1
  generalize w.alloc (.cells (madeCells #[.bool false] n) 4) = W at hA hz1
  have hB := (MapKept.heap_alloc W (.cells #[.slice (some ⟨w.heap.size, 0, none⟩) n n] 67)).1
  have hA' := (Below.heap_alloc W (.cells #[.slice (some ⟨w.heap.size, 0, none⟩) n n] 67) w.heap.size (by omega)).trans hA
  have hz2 : (W.alloc (.cells #[.slice (some ⟨w.heap.size, 0, none⟩) n n] 67)).heap.size = w.heap.size + 2 := by simp [hz1]
  rw [hz1] at hB
  generalize W.alloc (.cells #[.slice (some ⟨w.heap.size, 0, none⟩) n n] 67) = V at hA' hB hz2
  refine ⟨w.heap.size, n, newM_wf h1 h2, ⟨fun i hi => ?_, fun i _ => by simp [World.frozen?, hB]⟩, ⟨fun i hi => ?_, fun i _ => by simp [World.frozen?, hA']⟩, by omega, ⟨by omega, by omega⟩, ⟨by omega, by omega⟩, fun k hk => hk.2⟩
  · obtain rfl : i = 0 := by omega
    simp [World.cell?, hB, newM]
  · have hi' : i < n := hi
    have e : V.cell? ⟨w.heap.size, i, none⟩ = (madeCells #[.bool false] n)[i]? := by simp [World.cell?, hA']
    rw [e, madeG _ _ _ hi']
    simp [newM, Nat.mod_one]

set_option maxHeartbeats 400000 in
theorem rNew_any (n : Nat) (w : World) (h1 : 1 ≤ n) (h2 : n ≤ 1024) : Calls Tryd.prog 15 #[.int .i64 n] w fun e w' => ∃ B, e = .returned (.tuple #[.pointer (some ⟨B, 0, none⟩), .int .i64 0]) ∧ Below w.heap.size w w' ∧ Rf w' (Nw w w') B (newM n) := by
  obtain ⟨i, hi, hz0, hz1, hz2⟩ := info_parts Tryd.info4
  have hmk := fun w => run_make (P := Tryd.prog) w 65 4 i (.bool false) Tryd.underlying65 hi hz0 .i64 .i64 n n (by omega) (Int.le_refl _) (by rw [hz2]; omega) (by omega)
  rw [hz1] at hmk
  simp only [Int.toNat_natCast, Value.cells, Nat.mul_one] at hmk
  have HS := Lib.hid (rf_new w n h1 h2)
  clear hi hz0 hz1 hz2
  go_enter Tryd.func15, Tryd.ntmps15
  go_wp2
  go_ret2
  exact ⟨_, rfl, (bnew _ _).alloc (by simp) _, by simpa using HS.out⟩

theorem rplace_any {O : Nat → Prop} {B : Nat} {m : Mo} {w : World} (s k : Nat) (h : Rf w O B m) (hs : s ≤ 9223372036854775807) (hk : 1 ≤ k) :
    Calls Tryd.prog 62 #[.pointer (some ⟨B, 0, none⟩), .int .i64 s, .int .i64 k] w fun e w' => e = .returned (.bool (decide (∀ j, j < k → m.F (s + j) = true))) ∧ w = w' := by
  have HI := Lib.hid (rin_any (s : Int) (k : Int) h ⟨by omega, by omega⟩)
  have hf := h.choose_spec.choose_spec.wf.f
  cases hin : inM m s k with
  | false =>
    have hno : ¬ ∀ j, j < k → m.F (s + j) = true := fun hall => by
      have := hf _ (hall (k - 1) (by omega))
      have := of_decide_eq_false hin
      omega
    rw [decide_eq_false hno]
    rw [hin] at HI
    clear h hf hin hno
    go_enter Tryd.func62, Tryd.ntmps62
    go_wp2_with (go_at_call 57; refine HI.out.mono ?_; rintro e _ ⟨rfl, rfl⟩)
    go_ret
    exact ⟨rfl, rfl⟩
  | true =>
    have hb := of_decide_eq_true hin
    have HA := Lib.hid (rall_any s k true h (by omega))
    have HE := Lib.hid (show sameM m s k true = decide (∀ j, j < k → m.F (s + j) = true) from rfl)
    rw [hin] at HI
    rw [← HE.out]
    generalize sameM m s k true = v at HA
    clear h hf hin hb
    go_enter Tryd.func62, Tryd.ntmps62
    go_wp2_with (first | (go_at_call 57; refine HI.out.mono ?_; rintro e _ ⟨rfl, rfl⟩) | (go_at_call 58; refine HA.out.mono ?_; rintro e _ ⟨rfl, rfl⟩))
    go_ret
    exact ⟨rfl, rfl⟩

end Go.Proofs.YtnmejilpifmlnaaDoor
