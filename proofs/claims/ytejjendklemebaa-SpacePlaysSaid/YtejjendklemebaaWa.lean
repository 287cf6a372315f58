/- Package space: what takes pages' memory. -/
import Derived.Test.YtejjendklemebaaLf
import Derived.Test.YtejjendklemebaaMc
namespace Go.Proofs.Ytejjendklemebaa
open Go.RowKit

theorem Keep.cell {O : Nat → Prop} {w w' : World} (h : Keep O w w') {a : Addr} (ha : a.block < w.heap.size) (ho : ¬ O a.block) : w'.cell? a = w.cell? a := World.cell?_of_block (w := w) (h.block _ ha ho)

set_option maxHeartbeats 800000 in
theorem renew_any {O : Nat → Prop} {B : Nat} {m : Mo} {w : World} (s k : Nat) (b : Bool) (v : Int) (hv : v = if b = true then 1 else 0) (h : Sp w O B m) (hk : s + k ≤ m.n) :
    Calls Try.prog 67 #[.pointer (some ⟨B, 0, none⟩), .int .i64 s, .int .i64 k, .agg #[.bool b, .pointer none]] w fun e w' => e = .returned (.tuple #[]) ∧ Mut w O B (setM m s k v) w' := by
  have hn2 := h.wf.n2
  obtain ⟨W0, hW⟩ : ∃ W0, W0 = w.alloc (.cells #[.bool b, .pointer none] 72) := ⟨_, rfl⟩
  have hb0 : Below w.heap.size w W0 := by rw [hW]; exact bnew _ _
  have hz0 : w.heap.size < W0.heap.size := by rw [hW]; simp
  have q0 : W0.cell? ⟨w.heap.size, 0, none⟩ = some (.bool b) := by rw [hW]; go_simp
  have q1 : W0.cell? ⟨w.heap.size, 1, none⟩ = some (.pointer none) := by rw [hW]; go_simp
  have hno : ¬ O w.heap.size := fun ho => Nat.lt_irrefl _ (h.lt _ ho)
  have HS := Lib.hid (h.below hb0)
  have HN := Lib.hid hno
  have HB0 := Lib.hid hb0
  have HV := Lib.hid (show (v = 0 ∨ v = 1) ∧ decide (v ≠ 0) = b by subst hv; cases b <;> simp)
  clear h hb0 hno hv
  go_enter Try.func67, Try.ntmps67
  go_wp2_with fail
  rw [← hW]
  clear hW
  go_wp2_with fail
  go_loopw [10] (fun i wr => ∃ j : Nat, j ≤ k ∧ i = .int .i64 j ∧ Mut W0 O B (setM m s j v) wr) (fun i _ => k - (intOf i).toNat)
  case atStart => exact ⟨0, by omega, rfl, by rw [setM_zero]; exact Mut.same HS.out (Below.refl _ _)⟩
  case round =>
    obtain ⟨j, hj, rfl, hM⟩ := hrel
    have r0 := (hM.2.cell (a := ⟨w.heap.size, 0, none⟩) hz0 HN.out).trans q0
    have r1 := (hM.2.cell (a := ⟨w.heap.size, 1, none⟩) hz0 HN.out).trans q1
    have HM := Lib.hid hM
    by_cases hlt : j < k
    · obtain ⟨A, cap, pt, hS⟩ := hM.1
      have c0 := hS.c0
      have c1 := hS.c1
      have hnn : (setM m s j v).n = m.n := rfl
      rw [hnn] at c0
      have hcp := hS.cp
      have g0 := hS.a0 (k := s + j) (by show s + j < m.n; omega)
      have g1 := hS.a1 (k := s + j) (by show s + j < m.n; omega)
      have f1 := hS.b.free 1 (by omega)
      have f2 := hS.a.free ((s + j) * 2) (by show _ < m.n * 2; omega)
      have f3 := hS.a.free ((s + j) * 2 + 1) (by show _ < m.n * 2; omega)
      have hab := hS.ab
      have hdl : (setM m s j v).dir ≤ 1024 := by have := hS.wf.d; have := hS.wf.p; rw [hnn] at this; omega
      have HS1 := Lib.hid hS
      clear hM hS hnn
      have hBN : B ≠ w.heap.size := fun e => HN.out (e ▸ HS.out.ob)
      cases hp : pt (s + j) with
      | none =>
        rw [hp] at g1
        simp only [ptrA] at g1
        have hR := HS1.out.renewN (s := s + j) (show s + j < m.n by omega) hp (v := v) (b := b) HV.out.1 HV.out.2
        have HR := Lib.hid hR
        clear hR
        go_wp2_with fail
        go_region
        all_goals go_wp2
        go_roundw
        case rel => exact ⟨j + 1, by omega, by go_num, by rw [setM_succ]; exact HM.out.trans HR.out⟩
        case measure => simp [intOf]; omega
      | some x =>
        have hR := HS1.out.renewS (s := s + j) (show s + j < m.n by omega) hp (v := v) (b := b) HV.out.1 HV.out.2
        have HR := Lib.hid hR
        clear hR
        rw [hp] at g1
        simp only [ptrA] at g1
        generalize (setM m s j v).dir = D at c1 hdl HR
        go_wp2_with fail
        go_region
        all_goals go_wp2
        go_roundw
        case rel => exact ⟨j + 1, by omega, by go_num, by rw [setM_succ]; exact HM.out.trans HR.out⟩
        case measure => simp [intOf]; omega
    · go_wp2
      obtain rfl : j = k := by omega
      go_end0
      exact ⟨rfl, Mut.after HB0.out hM⟩

end Go.Proofs.Ytejjendklemebaa
