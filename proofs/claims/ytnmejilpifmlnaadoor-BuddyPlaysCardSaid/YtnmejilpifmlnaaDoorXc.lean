/- The statement about orders that no block can have: what its call returns. -/
import Derived.Test.YtnmejilpifmlnaaDoorXa
namespace Go.Proofs.YtnmejilpifmlnaaDoor
open Go.RowKit

theorem blV_past {m : Mo} (hwf : WF m) {k : Int} (h : ¬ (0 ≤ k ∧ k ≤ 10)) : blV m k = [] := by
  unfold blV
  split
  · refine bl_nil hwf.f ?_
    have := hwf.n2
    have := pow_le (j := 11) (k := k.toNat) (by omega)
    omega
  · rfl
theorem blV_nat (m : Mo) (k : Nat) : blV m (k : Int) = bl m.F m.n k := by
  unfold blV
  rw [if_pos (by omega)]
  rfl
theorem len_shr {m : Mo} (hwf : WF m) (k : Nat) : (bl m.F m.n k).length ≤ m.fr / 2 ^ k := by
  have := bl_sum hwf.f k
  exact (Nat.le_div_iff_mul_le (Nat.two_pow_pos k)).2 this
theorem fr_le {m : Mo} : m.fr ≤ m.n := cntF_le _ _

set_option maxRecDepth 100000 in
set_option maxHeartbeats 1000000 in
theorem orders_walk (p : Int) (A : Option Addr) (c : Nat) (l : List Ac) (k : Int) (w : World) (ht : Tab w) (hp0 : 0 ≤ p) (hp1 : p ≤ 65535) (hl : l.length ≤ 9223372036854775807) (hA : ActsAt w w.heap.size A l) (hk : InR k) :
    Calls Tryd.prog 5 #[.int .u16 p, .slice A l.length c, .int .i64 k] w (Yes w) := by
  have HAL := Lib.hid (Alive w ht)
  obtain ⟨n, hn⟩ : ∃ n : Nat, p % 1024 + 1 = n := ⟨(p % 1024 + 1).toNat, by omega⟩
  have HMD := Lib.hid (Made p A c n l w hn hp0 hp1 hl hA ht)
  obtain ⟨L, hL⟩ : ∃ L, L = l.length := ⟨_, rfl⟩
  rw [← hL] at hl HMD ⊢
  have HG := Lib.hid (fun w => great_any A L c w hl)
  have hb0 := Below.refl w.heap.size w
  have HK := Lib.hid hk
  clear hA hL hn ht hk
  by_cases h40 : 40 < L
  · rw [decide_eq_true h40] at HG
    go_enter Tryd.func5, Tryd.ntmps5
    go_wp2_with fail
    refine (HG.out _).mono ?_
    rintro e _ ⟨rfl, rfl⟩
    go_wp2_with fail
    refine (HAL.out _ hb0).mono ?_
    rintro e w1 ⟨rfl, hb1⟩
    go_wp2_with fail
    go_ret
    exact ⟨rfl, hb1⟩
  · rw [decide_eq_false h40] at HG
    clear h40
    by_cases hk : 0 ≤ k ∧ k ≤ 10
    · obtain ⟨k, rfl⟩ : ∃ j : Nat, k = j := ⟨k.toNat, by omega⟩
      have hk1 : k ≤ 10 := by omega
      clear hk
      go_enter Tryd.func5, Tryd.ntmps5
      go_wp2_with fail
      refine (HG.out _).mono ?_
      rintro e _ ⟨rfl, rfl⟩
      go_wp2_with fail
      refine (HMD.out _ hb0).mono ?_
      rintro e w1 ⟨B, rfl, hb1, hs1⟩
      have hle := len_shr hs1.wf k
      have hlm := blV_len (runM (newM n) l) k
      have hfr := fr_le (m := runM (newM n) l)
      have hn2 := hs1.wf.n2
      have HC := Lib.hid (Blocks_any (k : Int) hs1 HK.out)
      have HF := Lib.hid (fun w2 (hb : Below w1.heap.size w1 w2) => Free_any (hs1.below hb))
      have hpk := pow_le_1024 hk1
      rw [blV_nat] at HC hlm
      generalize bl (runM (newM n) l).F (runM (newM n) l).n k = bs at HC hlm hle
      generalize (runM (newM n) l).fr = fr at HF hle hfr
      generalize (runM (newM n) l).n = N at hlm hfr hn2
      generalize hLB : bs.length = LB at HC hlm hle
      have hq : (LB : Int) ≤ (fr : Int) / 2 ^ k := by
        have e : ((2 : Int) ^ k) = ((2 ^ k : Nat) : Int) := by simp
        rw [e, ← Int.natCast_ediv]
        exact Int.ofNat_le.2 hle
      clear hs1 hle
      go_wp2_with fail
      refine HC.out.mono ?_
      rintro e w2 ⟨A2, c2, rfl, hn2', hb2⟩
      rw [hLB]
      go_wp2_with fail
      refine (HF.out _ hb2).mono ?_
      rintro e _ ⟨rfl, rfl⟩
      go_wp2_with fail
      refine (HAL.out _ (btr hb1 hb2 (Nat.le_refl _))).mono ?_
      rintro e w3 ⟨rfl, hb3⟩
      go_wp2_with fail
      go_ret
      exact ⟨rfl, hb3⟩
    · have hkk : k < 0 ∨ (0 ≤ k ∧ 10 < k) := by omega
      rcases hkk with hneg | ⟨hpos, hbig⟩
      all_goals
        go_enter Tryd.func5, Tryd.ntmps5
        go_wp2_with fail
        refine (HG.out _).mono ?_
        rintro e _ ⟨rfl, rfl⟩
        go_wp2_with fail
        refine (HMD.out _ hb0).mono ?_
        rintro e w1 ⟨B, rfl, hb1, hs1⟩
        have HC := Lib.hid (Blocks_any k hs1 HK.out)
        rw [blV_past hs1.wf hk] at HC
        clear hs1
        go_wp2_with fail
        refine HC.out.mono ?_
        rintro e w2 ⟨A2, c2, rfl, _, hb2⟩
        go_wp2_with fail
        refine (HAL.out _ (btr hb1 hb2 (Nat.le_refl _))).mono ?_
        rintro e w3 ⟨rfl, hb3⟩
        go_wp2_with fail
        go_ret
        exact ⟨rfl, hb3⟩

end Go.Proofs.YtnmejilpifmlnaaDoor
