/- The statement about the table that is made: what its call returns. -/
import Derived.Test.YtjloipljecjbaaaNc
import Derived.Test.YtjloipljecjbaaaWa
namespace Go.Proofs.Ytjloipljecjbaaa
open Go.RowKit

theorem RMake_made (waste : Int) (h2 : 2 ≤ waste) (h16 : waste ≤ 16) (w : World) : Calls Try.prog 23 #[.int .i64 waste] w (Made waste w) :=
  (RMake_yes waste h2 h16 w).mono fun e w' ⟨v, he, hr, hb⟩ => by
    obtain ⟨A, c, rfl, ht⟩ := tab_of_row hr
    exact ⟨A, c, he, ht, hb⟩

set_option maxRecDepth 100000 in
set_option maxHeartbeats 1000000 in
theorem makes_walk (waste : Int) (w : World) : Calls Try.prog 4 #[.int .i64 waste] w (Yes w) := by
  have HA := Lib.hid alive_any
  by_cases h : 2 ≤ waste ∧ waste ≤ 16
  · obtain ⟨h2, h16⟩ := h
    have HM := Lib.hid (Make_made waste h2 h16)
    have HR := Lib.hid (RMake_made waste h2 h16)
    have hle := mkT_le waste
    have hS := fun A A' c c' W (hT : TabAt W W.heap.size A (mkT waste)) hT' => Same_any A A' c c' (mkT waste) W (by omega) hT hT'
    unfold Made at HM HR
    generalize mkT waste = t at *
    obtain ⟨n, hn⟩ : ∃ n : Nat, n = t.length := ⟨_, rfl⟩
    rw [← hn] at HM HR hS hle
    have HS := Lib.hid hS
    clear hS hn
    go_enter Try.func4, Try.ntmps4
    go_wp2_with fail
    refine (HM.out _).mono ?_
    rintro e w1 ⟨A, c, rfl, ht1, hb1⟩
    have T1 := Lib.hid ht1
    clear ht1
    go_wp2_with fail
    refine (HR.out _).mono ?_
    rintro e w2 ⟨A', c', rfl, ht2, hb2⟩
    have T2 := Lib.hid ht2
    clear ht2
    go_wp2_with fail
    refine (HS.out _ _ _ _ _ ((T1.out.below hb2).more hb2.size) T2.out).mono ?_
    rintro e w3 ⟨rfl, hb3⟩
    go_wp2_with fail
    refine (HA.out _).mono ?_
    rintro e w4 ⟨rfl, hb4⟩
    go_wp2_with fail
    go_ret
    exact ⟨rfl, btr (btr (btr hb1 hb2 (Nat.le_refl _)) hb3 (Nat.le_refl _)) hb4 (Nat.le_refl _)⟩
  · have HM := Lib.hid (Make_no waste (by omega))
    have HR := Lib.hid (RMake_no waste (by omega))
    have hS := fun A A' c c' W => Same_any A A' c c' [] W (by simp) (fun k c hk => by simp at hk) (fun k c hk => by simp at hk)
    simp only [List.length_nil] at hS
    have HS := Lib.hid hS
    clear h hS
    go_enter Try.func4, Try.ntmps4
    go_wp2_with fail
    refine (HM.out _).mono ?_
    rintro e w1 ⟨rfl, rfl⟩
    go_wp2_with fail
    refine (HR.out _).mono ?_
    rintro e w2 ⟨rfl, rfl⟩
    go_wp2_with fail
    refine (HS.out _ _ _ _ _).mono ?_
    rintro e w3 ⟨rfl, hb3⟩
    go_wp2_with fail
    refine (HA.out _).mono ?_
    rintro e w4 ⟨rfl, hb4⟩
    go_wp2_with fail
    go_ret
    exact ⟨rfl, btr hb3 hb4 (Nat.le_refl _)⟩

end Go.Proofs.Ytjloipljecjbaaa
