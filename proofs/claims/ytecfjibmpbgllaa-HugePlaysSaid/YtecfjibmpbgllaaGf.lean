/- The reference's tracker: which huge page the plan considers first. -/
import Derived.Test.YtecfjibmpbgllaaGe
namespace Go.Proofs.Ytecfjibmpbgllaa
open Go.RowKit

set_option maxRecDepth 100000 in
set_option maxHeartbeats 1000000 in
theorem rBefore_any {O : Nat → Prop} {B : Nat} {m : Mo} {w : World} (a b : Nat) (h : Rf w O B m) (ha : a < m.h) (hb : b < m.h) :
    Calls Try.prog 80 #[.pointer (some ⟨B, 0, none⟩), .int .i64 a, .int .i64 b] w fun e w' => e = .returned (.bool (decide (key m.S a < key m.S b))) ∧ w = w' := by
  have hka := rKind_any a h ha
  have hkb := rKind_any b h hb
  have hca := rof_any a 1 h ha
  have hcb := rof_any b 1 h hb
  have la := cnt_le m.S 1 (16 * a) 16
  have lb := cnt_le m.S 1 (16 * b) 16
  have h2 := h.wf.h2
  have HK : RowKit.Hid (∀ x y c d, kdS m.S a = x → kdS m.S b = y → cnt m.S 1 (16 * a) 16 = c → cnt m.S 1 (16 * b) 16 = d → (key m.S a < key m.S b ↔ (x * 17 + c) * 64 + (63 - a) < (y * 17 + d) * 64 + (63 - b))) := Lib.hid (by
    intro x y c d h1 h2 h3 h4
    unfold key
    rw [h1, h2, h3, h4])
  obtain ⟨x, hx⟩ : ∃ x, kdS m.S a = x := ⟨_, rfl⟩
  obtain ⟨y, hy⟩ : ∃ y, kdS m.S b = y := ⟨_, rfl⟩
  obtain ⟨c, hc⟩ : ∃ c, cnt m.S 1 (16 * a) 16 = c := ⟨_, rfl⟩
  obtain ⟨d, hd⟩ : ∃ d, cnt m.S 1 (16 * b) 16 = d := ⟨_, rfl⟩
  have hk := HK.out x y c d hx hy hc hd
  rw [hx] at hka
  rw [hy] at hkb
  rw [hc] at hca la
  rw [hd] at hcb lb
  have KA := Lib.hid hka
  have KB := Lib.hid hkb
  have CA := Lib.hid hca
  have CB := Lib.hid hcb
  have ha6 : a < 64 := by omega
  have hb6 : b < 64 := by omega
  clear hka hkb hca hcb h ha hb h2 HK hx hy hc hd
  by_cases e1 : x = y
  · subst e1
    by_cases e2 : c = d
    · subst e2
      have HR := Lib.hid (show decide (key m.S a < key m.S b) = decide ((b : Int) < a) by rw [decide_eq_decide, hk]; omega)
      clear hk la lb ha6 hb6
      go_enter Try.func80, Try.ntmps80
      go_wp2_with fail
      refine KA.out.mono ?_; rintro e _ ⟨rfl, rfl⟩
      go_wp2_with fail
      refine KB.out.mono ?_; rintro e _ ⟨rfl, rfl⟩
      go_wp2_with fail
      refine CA.out.mono ?_; rintro e _ ⟨rfl, rfl⟩
      go_wp2_with fail
      refine CB.out.mono ?_; rintro e _ ⟨rfl, rfl⟩
      go_wp2_with fail
      go_ret
      rw [HR.out]
      exact ⟨ret_bool (by first | rfl | simp), rfl⟩
    · have q2 : ((c : Int) != (d : Int)) = true := by simp only [bne_iff_ne]; omega
      have HR := Lib.hid (show decide (key m.S a < key m.S b) = decide ((c : Int) < d) by rw [decide_eq_decide, hk]; omega)
      clear hk la lb ha6 hb6 e2
      go_enter Try.func80, Try.ntmps80
      go_wp2_with fail
      refine KA.out.mono ?_; rintro e _ ⟨rfl, rfl⟩
      go_wp2_with fail
      refine KB.out.mono ?_; rintro e _ ⟨rfl, rfl⟩
      go_wp2_with fail
      refine CA.out.mono ?_; rintro e _ ⟨rfl, rfl⟩
      go_wp2_with fail
      refine CB.out.mono ?_; rintro e _ ⟨rfl, rfl⟩
      go_wp2_with fail
      refine CA.out.mono ?_; rintro e _ ⟨rfl, rfl⟩
      go_wp2_with fail
      refine CB.out.mono ?_; rintro e _ ⟨rfl, rfl⟩
      go_wp2_with fail
      go_ret
      rw [HR.out]
      exact ⟨ret_bool (by first | rfl | simp), rfl⟩
  · have q1 : ((x : Int) != (y : Int)) = true := by simp only [bne_iff_ne]; omega
    have HR := Lib.hid (show decide (key m.S a < key m.S b) = decide ((x : Int) < y) by rw [decide_eq_decide, hk]; omega)
    clear hk la lb ha6 hb6 e1
    go_enter Try.func80, Try.ntmps80
    go_wp2_with fail
    refine KA.out.mono ?_; rintro e _ ⟨rfl, rfl⟩
    go_wp2_with fail
    refine KB.out.mono ?_; rintro e _ ⟨rfl, rfl⟩
    go_wp2_with fail
    refine KA.out.mono ?_; rintro e _ ⟨rfl, rfl⟩
    go_wp2_with fail
    refine KB.out.mono ?_; rintro e _ ⟨rfl, rfl⟩
    go_wp2_with fail
    go_ret
    rw [HR.out]
    exact ⟨ret_bool (by first | rfl | simp), rfl⟩

end Go.Proofs.Ytecfjibmpbgllaa
