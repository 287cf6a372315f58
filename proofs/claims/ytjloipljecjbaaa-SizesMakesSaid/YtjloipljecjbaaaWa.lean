/- The statements about tables that are made: what each call returns. -/
import Derived.Test.YtjloipljecjbaaaFa
namespace Go.Proofs.Ytjloipljecjbaaa
open Go.RowKit

/-- True, and nothing that lay before has changed. -/
def Yes (w : World) (e : Ending) (w' : World) : Prop := e = .returned (.bool true) ∧ Below w.heap.size w w'

set_option maxRecDepth 100000 in
set_option maxHeartbeats 1000000 in
theorem slack_walk (waste sz : Int) (w : World) : Calls Try.prog 10 #[.int .i64 waste, .int .i64 sz] w (Yes w) := by
  have HA := Lib.hid alive_any
  by_cases hw : 2 ≤ waste ∧ waste ≤ 16
  · obtain ⟨h2, h16⟩ := hw
    have HM := Lib.hid (Make_made waste h2 h16)
    have hg := made_good waste h2 h16
    by_cases hs : 8 ≤ sz ∧ sz ≤ 512
    · obtain ⟨s8, s512⟩ := hs
      obtain ⟨q0, q1, q2⟩ := good_slack hg sz s8 s512
      obtain ⟨n, hn⟩ : ∃ n, n = (mkT waste).length := ⟨_, rfl⟩
      have hlen := mkT_le waste
      have hS : ∀ A c w, TabAt w w.heap.size A (mkT waste) → Calls Try.prog 27 #[.slice A n c, .int .i64 sz] w fun e w' => e = .returned (.tuple #[.int .i64 (slkV (mkT waste) sz), .int .i64 0]) ∧ Below w.heap.size w w' := fun A c w h => by
        rw [hn, ← q0]; exact Slack_any A c _ sz w (by omega) h
      have HS := Lib.hid hS
      have HN := Lib.hid hn
      clear hS hg q0 hn
      go_enter Try.func10, Try.ntmps10
      go_wp2_with fail
      refine (HM.out _).mono ?_
      unfold Made
      rw [← HN.out]
      rintro e w1 ⟨A, c, rfl, ht1, hb1⟩
      go_wp2_with fail
      refine (HS.out _ _ _ ht1).mono ?_
      rintro e w2 ⟨rfl, hb2⟩
      go_wp2_with fail
      refine (HA.out _).mono ?_
      rintro e w3 ⟨rfl, hb3⟩
      go_wp2_with fail
      go_ret
      exact ⟨rfl, btr (btr hb1 hb2 (Nat.le_refl _)) hb3 (Nat.le_refl _)⟩
    · by_cases s8 : sz < 8
      · clear hs hg
        go_enter Try.func10, Try.ntmps10
        go_wp2_with fail
        refine (HM.out _).mono ?_
        rintro e w1 ⟨A, c, rfl, ht1, hb1⟩
        go_wp2_with fail
        refine (HA.out _).mono ?_
        rintro e w3 ⟨rfl, hb3⟩
        go_wp2_with fail
        go_ret
        exact ⟨rfl, btr hb1 hb3 (Nat.le_refl _)⟩
      · have s9 : 512 < sz := by omega
        clear hs hg
        go_enter Try.func10, Try.ntmps10
        go_wp2_with fail
        refine (HM.out _).mono ?_
        rintro e w1 ⟨A, c, rfl, ht1, hb1⟩
        go_wp2_with fail
        refine (HA.out _).mono ?_
        rintro e w3 ⟨rfl, hb3⟩
        go_wp2_with fail
        go_ret
        exact ⟨rfl, btr hb1 hb3 (Nat.le_refl _)⟩
  · have HM := Lib.hid (Make_no waste (by omega))
    clear hw
    go_enter Try.func10, Try.ntmps10
    go_wp2_with fail
    refine (HM.out _).mono ?_
    rintro e w1 ⟨rfl, rfl⟩
    go_wp2_with fail
    refine (HA.out _).mono ?_
    rintro e w3 ⟨rfl, hb3⟩
    go_wp2_with fail
    go_ret
    exact ⟨rfl, hb3⟩

end Go.Proofs.Ytjloipljecjbaaa
