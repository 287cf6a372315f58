/- The statements' helpers: do, great. -/
import Derived.Test.YtejjendklemebaaWg
namespace Go.Proofs.Ytejjendklemebaa
open Go.RowKit

def InR (x : Int) : Prop := -9223372036854775808 ≤ x ∧ x ≤ 9223372036854775807
structure AcR (x : Ac) : Prop where
  k : InR x.k
  a : InR x.a
  b : InR x.b
  c : InR x.c

set_option maxHeartbeats 400000 in
theorem great_any (A : Option Addr) (n c : Nat) (w : World) (hn : n ≤ 9223372036854775807) : Calls Try.prog 12 #[.slice A n c] w fun e w' => e = .returned (.bool (decide (40 < n))) ∧ w = w' := by
  go_enter Try.func12, Try.ntmps12
  go_wp2
  go_ret
  exact ⟨ret_bool (by simp; omega), rfl⟩

theorem new4 (w : World) (a b c d : Value) (t : TypeId) : ∃ W0, w.alloc (.cells #[a, b, c, d] t) = W0 ∧ Below w.heap.size w W0 ∧ w.heap.size < W0.heap.size ∧
    W0.cell? ⟨w.heap.size, 0, none⟩ = some a ∧ W0.cell? ⟨w.heap.size, 1, none⟩ = some b ∧ W0.cell? ⟨w.heap.size, 2, none⟩ = some c ∧ W0.cell? ⟨w.heap.size, 3, none⟩ = some d := by
  refine ⟨_, rfl, bnew _ _, by simp, ?_, ?_, ?_, ?_⟩ <;> go_simp

set_option maxRecDepth 100000 in
set_option maxHeartbeats 1000000 in
theorem do_any {O : Nat → Prop} {B : Nat} {m : Mo} {w : World} (k a b c : Int) (h : Sp w O B m) (ha : InR a) (hb : InR b) :
    Calls Try.prog 21 #[.pointer (some ⟨B, 0, none⟩), .agg #[.int .i64 k, .int .i64 a, .int .i64 b, .int .i64 c]] w fun e w' => e = .returned (.int .i64 (doE m ⟨k, a, b, c⟩)) ∧ Mut w O B (doM m ⟨k, a, b, c⟩) w' := by
  obtain ⟨W0, hW, hb0, hz, c0, c1, c2, c3⟩ := new4 w (.int .i64 k) (.int .i64 a) (.int .i64 b) (.int .i64 c) 30
  have h0 := h.below hb0
  have HB := Lib.hid hb0
  have HS := Lib.hid h0
  clear h hb0
  have hk : k = 0 ∨ k = 1 ∨ k = 2 ∨ k = 3 ∨ k = 4 ∨ k = 5 ∨ k = 6 ∨ k = 7 ∨ ¬ (k = 0 ∨ k = 1 ∨ k = 2 ∨ k = 3 ∨ k = 4 ∨ k = 5 ∨ k = 6 ∨ k = 7) := by omega
  rcases hk with rfl | rfl | rfl | rfl | rfl | rfl | rfl | rfl | hk
  · have HC := Lib.hid (Map_any a b h0 ha)
    have HE := Lib.hid (show doE m ⟨0, a, b, c⟩ = mapE m a b from rfl)
    have HD := Lib.hid (show doM m ⟨0, a, b, c⟩ = mapD m a b from rfl)
    clear h0 ha hb
    go_enter Try.func21, Try.ntmps21
    go_wp2_with (go_at_call 34; refine HC.out.mono ?_; rintro e w1 ⟨rfl, hM⟩; have HM := Lib.hid hM; clear hM)
    go_ret
    exact ⟨ret_int HE.out.symm, by rw [HD.out]; exact Mut.after HB.out HM.out⟩
  · have HC := Lib.hid (Unmap_any a b h0 ha)
    have HE := Lib.hid (show doE m ⟨1, a, b, c⟩ = loseE m a b from rfl)
    have HD := Lib.hid (show doM m ⟨1, a, b, c⟩ = loseD m a b 0 from rfl)
    clear h0 ha hb
    go_enter Try.func21, Try.ntmps21
    go_wp2_with (go_at_call 33; refine HC.out.mono ?_; rintro e w1 ⟨rfl, hM⟩; have HM := Lib.hid hM; clear hM)
    go_ret
    exact ⟨ret_int HE.out.symm, by rw [HD.out]; exact Mut.after HB.out HM.out⟩
  · have HC := Lib.hid (Release_any a b h0 ha)
    have HE := Lib.hid (show doE m ⟨2, a, b, c⟩ = loseE m a b from rfl)
    have HD := Lib.hid (show doM m ⟨2, a, b, c⟩ = loseD m a b 1 from rfl)
    clear h0 ha hb
    go_enter Try.func21, Try.ntmps21
    go_wp2_with (go_at_call 35; refine HC.out.mono ?_; rintro e w1 ⟨rfl, hM⟩; have HM := Lib.hid hM; clear hM)
    go_ret
    exact ⟨ret_int HE.out.symm, by rw [HD.out]; exact Mut.after HB.out HM.out⟩
  · have HC := Lib.hid (Read_any a h0 ha)
    have HE := Lib.hid (show doE m ⟨3, a, b, c⟩ = rdE m a from rfl)
    have HD := Lib.hid (show doM m ⟨3, a, b, c⟩ = m from rfl)
    clear h0 ha hb
    go_enter Try.func21, Try.ntmps21
    go_wp2_with (go_at_call 23; refine HC.out.mono ?_; rintro e w1 ⟨rfl, hb1⟩)
    go_ret
    exact ⟨ret_int HE.out.symm, by rw [HD.out]; exact Mut.after HB.out (Mut.same HS.out hb1)⟩
  · have HC := Lib.hid (Write_any a b h0 ha)
    have HE := Lib.hid (show doE m ⟨4, a, b, c⟩ = chkE m 1 a from rfl)
    have HD := Lib.hid (show doM m ⟨4, a, b, c⟩ = fillD m a 1 b from rfl)
    clear h0 ha hb
    go_enter Try.func21, Try.ntmps21
    go_wp2_with (go_at_call 22; refine HC.out.mono ?_; rintro e w1 ⟨rfl, hM⟩; have HM := Lib.hid hM; clear hM)
    go_ret
    exact ⟨ret_int HE.out.symm, by rw [HD.out]; exact Mut.after HB.out HM.out⟩
  · have HE := Lib.hid (show doE m ⟨5, a, b, c⟩ = chkE m b a from rfl)
    have HD := Lib.hid (show doM m ⟨5, a, b, c⟩ = m from rfl)
    by_cases he : chkE m b a = 0
    · have HC := Lib.hid (Words_any a b h0 ha he)
      rw [he] at HE
      clear h0 ha hb he
      go_enter Try.func21, Try.ntmps21
      go_wp2_with (go_at_call 30; refine HC.out.mono ?_; rintro e w1 ⟨Z, rfl, _, _, hb1⟩)
      go_ret
      exact ⟨ret_int HE.out.symm, by rw [HD.out]; exact Mut.after HB.out (Mut.same HS.out hb1)⟩
    · have HC := Lib.hid (Words_bad a b h0 ha he)
      clear h0 ha hb he
      go_enter Try.func21, Try.ntmps21
      go_wp2_with (go_at_call 30; refine HC.out.mono ?_; rintro e w1 ⟨rfl, hb1⟩)
      go_ret
      exact ⟨ret_int HE.out.symm, by rw [HD.out]; exact Mut.after HB.out (Mut.same HS.out hb1)⟩
  · have HC := Lib.hid (Fill_any a b c h0 ha)
    have HE := Lib.hid (show doE m ⟨6, a, b, c⟩ = chkE m b a from rfl)
    have HD := Lib.hid (show doM m ⟨6, a, b, c⟩ = fillD m a b c from rfl)
    clear h0 ha hb
    go_enter Try.func21, Try.ntmps21
    go_wp2_with (go_at_call 31; refine HC.out.mono ?_; rintro e w1 ⟨rfl, hM⟩; have HM := Lib.hid hM; clear hM)
    go_ret
    exact ⟨ret_int HE.out.symm, by rw [HD.out]; exact Mut.after HB.out HM.out⟩
  · have HC := Lib.hid (Copy_any a b c h0 ha hb)
    have HE := Lib.hid (show doE m ⟨7, a, b, c⟩ = chk2E m c a b from rfl)
    have HD := Lib.hid (show doM m ⟨7, a, b, c⟩ = copyD m a b c from rfl)
    clear h0 ha hb
    go_enter Try.func21, Try.ntmps21
    go_wp2_with (go_at_call 32; refine HC.out.mono ?_; rintro e w1 ⟨rfl, hM⟩; have HM := Lib.hid hM; clear hM)
    go_ret
    exact ⟨ret_int HE.out.symm, by rw [HD.out]; exact Mut.after HB.out HM.out⟩
  · have hE : doE m ⟨k, a, b, c⟩ = 0 := by
      unfold doE; dsimp only
      rw [if_neg (by omega), if_neg (by omega), if_neg (by omega), if_neg (by omega), if_neg (by omega), if_neg (by omega), if_neg (by omega), if_neg (by omega)]
    have hD : doM m ⟨k, a, b, c⟩ = m := by
      unfold doM; dsimp only
      rw [if_neg (by omega), if_neg (by omega), if_neg (by omega), if_neg (by omega), if_neg (by omega), if_neg (by omega)]
    have HE := Lib.hid hE
    have HD := Lib.hid hD
    have k0 : (k == 0) = false := by simp; omega
    have k1 : (k == 1) = false := by simp; omega
    have k2 : (k == 2) = false := by simp; omega
    have k3 : (k == 3) = false := by simp; omega
    have k4 : (k == 4) = false := by simp; omega
    have k5 : (k == 5) = false := by simp; omega
    have k6 : (k == 6) = false := by simp; omega
    have k7 : (k == 7) = false := by simp; omega
    clear h0 ha hb hE hD hk
    go_enter Try.func21, Try.ntmps21
    go_wp2_with fail
    go_ret
    exact ⟨ret_int HE.out.symm, by rw [HD.out]; exact Mut.after HB.out (Mut.same HS.out (Below.refl _ _))⟩

end Go.Proofs.Ytejjendklemebaa
