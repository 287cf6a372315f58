/- The statements' helpers: great, do. -/
import Derived.Test.YtecfjibmpbgllaaLk
namespace Go.Proofs.Ytecfjibmpbgllaa
open Go.RowKit

structure AcR (x : Ac) : Prop where
  k : InR x.k
  a : InR x.a
  b : InR x.b

set_option maxHeartbeats 400000 in
theorem great_any (A : Option Addr) (n c : Nat) (w : World) (hn : n ≤ 9223372036854775807) : Calls Try.prog 12 #[.slice A n c] w fun e w' => e = .returned (.bool (decide (40 < n))) ∧ w = w' := by
  go_enter Try.func12, Try.ntmps12
  go_wp2
  go_ret
  exact ⟨ret_bool (by simp; omega), rfl⟩

theorem new3 (w : World) (a b c : Value) (t : TypeId) : ∃ W0, w.alloc (.cells #[a, b, c] t) = W0 ∧ Below w.heap.size w W0 ∧ w.heap.size < W0.heap.size ∧
    W0.cell? ⟨w.heap.size, 0, none⟩ = some a ∧ W0.cell? ⟨w.heap.size, 1, none⟩ = some b ∧ W0.cell? ⟨w.heap.size, 2, none⟩ = some c := by
  refine ⟨_, rfl, bnew _ _, by simp, ?_, ?_, ?_⟩ <;> go_simp

set_option maxRecDepth 100000 in
set_option maxHeartbeats 1000000 in
theorem do_any {O : Nat → Prop} {B : Nat} {m : Mo} {w : World} (k a b : Int) (h : Tk w O B m) (ha : InR a) :
    Calls Try.prog 34 #[.pointer (some ⟨B, 0, none⟩), .agg #[.int .i64 k, .int .i64 a, .int .i64 b]] w fun e w' => e = .returned (.int .i64 (doE m ⟨k, a, b⟩)) ∧ Mut w O B (doM m ⟨k, a, b⟩) w' := by
  obtain ⟨W0, hW, hb0, hz, c0, c1, c2⟩ := new3 w (.int .i64 k) (.int .i64 a) (.int .i64 b) 33
  have h0 := h.below hb0
  have HB := Lib.hid hb0
  have HS := Lib.hid h0
  clear h hb0
  have hk : k = 0 ∨ k = 1 ∨ k = 2 ∨ k = 3 ∨ k = 4 ∨ k = 5 ∨ ¬ (k = 0 ∨ k = 1 ∨ k = 2 ∨ k = 3 ∨ k = 4 ∨ k = 5) := by omega
  rcases hk with rfl | rfl | rfl | rfl | rfl | rfl | hk
  · have HC := Lib.hid (Add_any a h0)
    have HE := Lib.hid (show doE m ⟨0, a, b⟩ = turnE m a 0 from rfl)
    have HD := Lib.hid (show doM m ⟨0, a, b⟩ = turnD m a 0 3 from rfl)
    clear h0 ha
    go_enter Try.func34, Try.ntmps34
    go_wp2_with (go_at_call 35; refine HC.out.mono ?_; rintro e w1 ⟨rfl, hM⟩; have HM := Lib.hid hM; clear hM)
    go_ret
    exact ⟨ret_int HE.out.symm, by rw [HD.out]; exact Mut.after HB.out HM.out⟩
  · have HC := Lib.hid (Remove_any a h0)
    have HE := Lib.hid (show doE m ⟨1, a, b⟩ = turnE m a 1 from rfl)
    have HD := Lib.hid (show doM m ⟨1, a, b⟩ = turnD m a 1 0 from rfl)
    clear h0 ha
    go_enter Try.func34, Try.ntmps34
    go_wp2_with (go_at_call 38; refine HC.out.mono ?_; rintro e w1 ⟨rfl, hM⟩; have HM := Lib.hid hM; clear hM)
    go_ret
    exact ⟨ret_int HE.out.symm, by rw [HD.out]; exact Mut.after HB.out HM.out⟩
  · have HC := Lib.hid (Use_any a b h0 ha)
    have HE := Lib.hid (show doE m ⟨2, a, b⟩ = chE m a b pU from rfl)
    have HD := Lib.hid (show doM m ⟨2, a, b⟩ = chD m a b pU 1 from rfl)
    clear h0 ha
    go_enter Try.func34, Try.ntmps34
    go_wp2_with (go_at_call 33; refine HC.out.mono ?_; rintro e w1 ⟨rfl, hM⟩; have HM := Lib.hid hM; clear hM)
    go_ret
    exact ⟨ret_int HE.out.symm, by rw [HD.out]; exact Mut.after HB.out HM.out⟩
  · have HC := Lib.hid (Unuse_any a b h0 ha)
    have HE := Lib.hid (show doE m ⟨3, a, b⟩ = chE m a b pN from rfl)
    have HD := Lib.hid (show doM m ⟨3, a, b⟩ = chD m a b pN 2 from rfl)
    clear h0 ha
    go_enter Try.func34, Try.ntmps34
    go_wp2_with (go_at_call 32; refine HC.out.mono ?_; rintro e w1 ⟨rfl, hM⟩; have HM := Lib.hid hM; clear hM)
    go_ret
    exact ⟨ret_int HE.out.symm, by rw [HD.out]; exact Mut.after HB.out HM.out⟩
  · have HC := Lib.hid (Release_any a b h0 ha)
    have HE := Lib.hid (show doE m ⟨4, a, b⟩ = chE m a b pR from rfl)
    have HD := Lib.hid (show doM m ⟨4, a, b⟩ = chD m a b pR 3 from rfl)
    clear h0 ha
    go_enter Try.func34, Try.ntmps34
    go_wp2_with (go_at_call 31; refine HC.out.mono ?_; rintro e w1 ⟨rfl, hM⟩; have HM := Lib.hid hM; clear hM)
    go_ret
    exact ⟨ret_int HE.out.symm, by rw [HD.out]; exact Mut.after HB.out HM.out⟩
  · have HD := Lib.hid (show doM m ⟨5, a, b⟩ = m from rfl)
    by_cases hn : a < 0
    · have HE := Lib.hid (show doE m ⟨5, a, b⟩ = 1 from by show (if a < 0 then (1 : Int) else 0) = 1; rw [if_pos hn])
      have HC := Lib.hid (Plan_bad a h0 hn)
      clear h0 ha hn
      go_enter Try.func34, Try.ntmps34
      go_wp2_with (go_at_call 28; refine HC.out.mono ?_; rintro e w1 ⟨rfl, hb1⟩)
      go_ret
      exact ⟨ret_int HE.out.symm, by rw [HD.out]; exact Mut.after HB.out (Mut.same HS.out hb1)⟩
    · have HE := Lib.hid (show doE m ⟨5, a, b⟩ = 0 from by show (if a < 0 then (1 : Int) else 0) = 0; rw [if_neg hn])
      have HC := Lib.hid (Plan_go a h0 (by omega))
      clear h0 ha hn
      go_enter Try.func34, Try.ntmps34
      go_wp2_with (go_at_call 28; refine HC.out.mono ?_; rintro e w1 ⟨A', c', rfl, _, hb1⟩)
      go_ret
      exact ⟨ret_int HE.out.symm, by rw [HD.out]; exact Mut.after HB.out (Mut.same HS.out hb1)⟩
  · have hE : doE m ⟨k, a, b⟩ = 0 := by
      unfold doE; dsimp only
      rw [if_neg (by omega), if_neg (by omega), if_neg (by omega), if_neg (by omega), if_neg (by omega), if_neg (by omega)]
    have hD : doM m ⟨k, a, b⟩ = m := by
      unfold doM; dsimp only
      rw [if_neg (by omega), if_neg (by omega), if_neg (by omega), if_neg (by omega), if_neg (by omega)]
    have HE := Lib.hid hE
    have HD := Lib.hid hD
    have k0 : (k == 0) = false := by simp; omega
    have k1 : (k == 1) = false := by simp; omega
    have k2 : (k == 2) = false := by simp; omega
    have k3 : (k == 3) = false := by simp; omega
    have k4 : (k == 4) = false := by simp; omega
    have k5 : (k == 5) = false := by simp; omega
    clear h0 ha hE hD hk
    go_enter Try.func34, Try.ntmps34
    go_wp2_with fail
    go_ret
    exact ⟨ret_int HE.out.symm, by rw [HD.out]; exact Mut.after HB.out (Mut.same HS.out (Below.refl _ _))⟩

theorem do_at {O : Nat → Prop} {B : Nat} {m : Mo} {w : World} (x : Ac) (h : Tk w O B m) (hx : AcR x) :
    Calls Try.prog 34 #[.pointer (some ⟨B, 0, none⟩), .agg #[.int .i64 x.k, .int .i64 x.a, .int .i64 x.b]] w fun e w' => e = .returned (.int .i64 (doE m x)) ∧ Mut w O B (doM m x) w' := do_any x.k x.a x.b h hx.a

end Go.Proofs.Ytecfjibmpbgllaa
