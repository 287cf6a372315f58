/- Package space: Fill, Write, Copy, New. -/
import Derived.Test.YtejjendklemebaaWc
namespace Go.Proofs.Ytejjendklemebaa
open Go.RowKit

theorem fillD_of {m : Mo} {a k v : Int} (h : chkE m k a ≠ 0) : fillD m a k v = m := if_neg h
theorem copyD_of {m : Mo} {a b k : Int} (h : chk2E m k a b ≠ 0) : copyD m a b k = m := if_neg h

set_option maxHeartbeats 800000 in
theorem Fill_any {O : Nat → Prop} {B : Nat} {m : Mo} {w : World} (a k v : Int) (h : Sp w O B m) (ha : -9223372036854775808 ≤ a ∧ a ≤ 9223372036854775807) :
    Calls Try.prog 31 #[.pointer (some ⟨B, 0, none⟩), .int .i64 a, .int .i64 k, .int .i64 v] w fun e w' => e = .returned (.int .i64 (chkE m k a)) ∧ Mut w O B (fillD m a k v) w' := by
  have hc := fun t => check1_any k a h ha t
  have HS := Lib.hid h
  by_cases he : chkE m k a = 0
  · obtain ⟨h0, h1, h2⟩ := chkE_zero he
    have hd : fillD m a k v = putN m (a / 8).toNat (fun _ => v) k.toNat := if_pos he
    rw [hd, he]
    rw [he] at hc
    have HC := Lib.hid hc
    have hn2 := h.wf.n2
    rcases accM_run h2 h0 with rfl | ⟨i, j, rfl, rfl, h3, h4, h5⟩
    · clear h hc he hd h2 h0 h1
      go_enter Try.func31, Try.ntmps31
      go_wp2_with (go_at_call 62; refine (HC.out _).mono ?_; rintro e w1 ⟨rfl, hb1⟩)
      go_loopw [20] (fun y wr => y = .int .i64 0 ∧ Below w.heap.size w wr) (fun _ _ => 0)
      case atStart => exact ⟨rfl, hb1⟩
      case round =>
        obtain ⟨rfl, hB⟩ := hrel
        go_wp2
        go_ret
        exact ⟨rfl, Mut.same HS.out hB⟩
    · rw [show ((8 * (i : Int)) / 8).toNat = i from by omega, Int.toNat_natCast]
      have H5 := Lib.hid h5
      clear h hc he hd h2 h0 h5 ha
      go_enter Try.func31, Try.ntmps31
      go_wp2_with (go_at_call 62; refine (HC.out _).mono ?_; rintro e w1 ⟨rfl, hb1⟩)
      go_loopw [20] (fun y wr => ∃ q : Nat, q ≤ j ∧ y = .int .i64 q ∧ Mut w O B (putN m i (fun _ => v) q) wr) (fun y _ => j - (intOf y).toNat)
      case atStart => exact ⟨0, by omega, rfl, Mut.same HS.out hb1⟩
      case round =>
        obtain ⟨q, hq, rfl, hM⟩ := hrel
        have HM := Lib.hid hM
        clear hM hb1
        by_cases hlt : q < j
        · have hst := store_any (i + q) v HM.out.1 (by rw [putN_n]; omega) (putN_st i _ _ (H5.out q hlt) q)
          rw [show (8 * ((i + q : Nat) : Int)) = 8 * (i : Int) + (q : Int) * 8 from by omega] at hst
          have HST := Lib.hid hst
          clear hst
          go_wp2_with (go_at_call 64; refine HST.out.mono ?_; rintro e w2 ⟨rfl, hM2⟩; have HM2 := Lib.hid hM2; clear hM2)
          go_roundw
          case rel => exact ⟨q + 1, by omega, by go_num, HM.out.trans HM2.out⟩
          case measure => simp [intOf]; omega
        · go_wp2
          go_ret
          obtain rfl : q = j := by omega
          exact ⟨rfl, HM.out⟩
  · rw [fillD_of he]
    have HC := Lib.hid hc
    have hE := chkE_vals m k a
    clear h hc
    generalize chkE m k a = E at HC he hE
    go_enter Try.func31, Try.ntmps31
    go_wp2_with (go_at_call 62; refine (HC.out _).mono ?_; rintro e w1 ⟨rfl, hb1⟩)
    go_ret
    exact ⟨rfl, Mut.same HS.out hb1⟩

set_option maxHeartbeats 400000 in
theorem Fill_no {v : Value} {w : World} (a k x : Int) (h : NoS w v) : Calls Try.prog 31 #[v, .int .i64 a, .int .i64 k, .int .i64 x] w fun e w' => e = .returned (.int .i64 5) ∧ Below w.heap.size w w' := by
  have HS := Lib.hid h
  clear h
  go_enter Try.func31, Try.ntmps31
  go_wp2_with (go_at_call 62; refine (check_no _ _ (HS.out.below (bnew _ _))).mono ?_; rintro e w1 ⟨rfl, hb1⟩)
  go_ret
  exact ⟨rfl, btr (bnew _ _) hb1 (Nat.le_refl _)⟩

set_option maxHeartbeats 400000 in
theorem Write_any {O : Nat → Prop} {B : Nat} {m : Mo} {w : World} (a v : Int) (h : Sp w O B m) (ha : -9223372036854775808 ≤ a ∧ a ≤ 9223372036854775807) :
    Calls Try.prog 22 #[.pointer (some ⟨B, 0, none⟩), .int .i64 a, .int .i64 v] w fun e w' => e = .returned (.int .i64 (chkE m 1 a)) ∧ Mut w O B (fillD m a 1 v) w' := by
  have HL := Lib.hid (Fill_any a 1 v h ha)
  clear h ha
  go_enter Try.func22, Try.ntmps22
  go_wp2_with (go_at_call 31; refine HL.out.mono ?_; rintro e w1 ⟨rfl, hM⟩)
  go_ret
  exact ⟨rfl, hM⟩
set_option maxHeartbeats 400000 in
theorem Write_no {v : Value} {w : World} (a x : Int) (h : NoS w v) : Calls Try.prog 22 #[v, .int .i64 a, .int .i64 x] w fun e w' => e = .returned (.int .i64 5) ∧ Below w.heap.size w w' := by
  have HL := Lib.hid (Fill_no a 1 x h)
  clear h
  go_enter Try.func22, Try.ntmps22
  go_wp2_with (go_at_call 31; refine HL.out.mono ?_; rintro e w1 ⟨rfl, hM⟩)
  go_ret
  exact ⟨rfl, hM⟩

theorem chk2E_zero {m : Mo} {k a b : Int} (h : chk2E m k a b = 0) : 0 ≤ k ∧ k ≤ 32768 ∧ accM m a k = true ∧ accM m b k = true := by
  unfold chk2E at h
  by_cases h1 : k < 0 ∨ 32768 < k
  · rw [if_pos h1] at h; omega
  · rw [if_neg h1] at h
    by_cases h2 : accM m a k = true ∧ accM m b k = true
    · exact ⟨by omega, by omega, h2⟩
    · rw [if_neg h2] at h; omega

set_option maxHeartbeats 800000 in
theorem Copy_any {O : Nat → Prop} {B : Nat} {m : Mo} {w : World} (a b k : Int) (h : Sp w O B m) (ha : -9223372036854775808 ≤ a ∧ a ≤ 9223372036854775807) (hb : -9223372036854775808 ≤ b ∧ b ≤ 9223372036854775807) :
    Calls Try.prog 32 #[.pointer (some ⟨B, 0, none⟩), .int .i64 a, .int .i64 b, .int .i64 k] w fun e w' => e = .returned (.int .i64 (chk2E m k a b)) ∧ Mut w O B (copyD m a b k) w' := by
  have hc := fun t => check2_any k a b h ha hb t
  have HS := Lib.hid h
  by_cases he : chk2E m k a b = 0
  · obtain ⟨h0, h1, h2, h2'⟩ := chk2E_zero he
    have hd : copyD m a b k = putN m (a / 8).toNat (fun j => m.hd ((b / 8).toNat + j)) k.toNat := if_pos he
    rw [hd, he]
    rw [he] at hc
    have HC := Lib.hid hc
    have hn2 := h.wf.n2
    rcases accM_run h2 h0 with rfl | ⟨i, j, rfl, rfl, h3, h4, h5⟩
    · clear h hc he hd h2 h0 h1 h2'
      go_enter Try.func32, Try.ntmps32
      go_wp2_with (first
        | (go_at_call 62; refine (HC.out _).mono ?_; rintro e w1 ⟨rfl, hb1⟩)
        | (go_at_call 63; refine (load_zero _ _ _).mono ?_; rintro e w2 ⟨rfl, hb2⟩))
      go_loopw [26] (fun y wr => y = .int .i64 0 ∧ Below w.heap.size w wr) (fun _ _ => 0)
      case atStart => exact ⟨rfl, btr hb1 hb2 (Nat.le_refl _)⟩
      case round =>
        obtain ⟨rfl, hB⟩ := hrel
        go_wp2
        go_ret
        exact ⟨rfl, Mut.same HS.out hB⟩
    · rcases accM_run h2' h0 with h6 | ⟨i', j', rfl, h6, _, h7, _⟩
      · omega
      · obtain rfl : j = j' := by omega
        rw [show ((8 * (i : Int)) / 8).toNat = i from by omega, Int.toNat_natCast, show ((8 * (i' : Int)) / 8).toNat = i' from by omega]
        have H5 := Lib.hid h5
        clear h hc he hd h2 h0 h5 ha hb h2' h6
        go_enter Try.func32, Try.ntmps32
        go_wp2_with (first
          | (go_at_call 62; refine (HC.out _).mono ?_; rintro e w1 ⟨rfl, hb1⟩)
          | (go_at_call 63; refine (load_any i' j (HS.out.below hb1) h3 h7).mono ?_; rintro e w2 ⟨rfl, hc2, hb2⟩; have HC2 := Lib.hid hc2; clear hc2))
        have hsz := hb1.size
        have hno : ¬ O w1.heap.size := fun ho => by have := HS.out.lt _ ho; omega
        have HB := Lib.hid (btr hb1 hb2 (Nat.le_refl _))
        have HNO := Lib.hid hno
        have hM0 := Mut.same (O := O) (HS.out.below HB.out) (Below.refl _ _)
        have HM0 := Lib.hid hM0
        clear hb1 hb2 hno hM0
        generalize w1.heap.size = Z at HC2 hsz HNO
        go_loopw [26] (fun y wr => ∃ q : Nat, q ≤ j ∧ y = .int .i64 q ∧ Mut w2 O B (putN m i (fun j => m.hd (i' + j)) q) wr) (fun y _ => j - (intOf y).toNat)
        case atStart => exact ⟨0, by omega, rfl, HM0.out⟩
        case round =>
          obtain ⟨q, hq, rfl, hM⟩ := hrel
          have HM := Lib.hid hM
          by_cases hlt : q < j
          · have hst := store_any (i + q) (m.hd (i' + q)) hM.1 (by rw [putN_n]; omega) (putN_st i _ _ (H5.out q hlt) q)
            rw [show (8 * ((i + q : Nat) : Int)) = 8 * (i : Int) + (q : Int) * 8 from by omega] at hst
            have HST := Lib.hid hst
            have hZ := HC2.out.cell q hlt
            have g0 := (hM.2.cell (a := ⟨Z, q, none⟩) (World.block_lt_of_cell? _ _ hZ) HNO.out).trans hZ
            clear hst hZ hM
            go_wp2_with (go_at_call 64; refine HST.out.mono ?_; rintro e w3 ⟨rfl, hM2⟩; have HM2 := Lib.hid hM2; clear hM2)
            go_roundw
            case rel => exact ⟨q + 1, by omega, by go_num, HM.out.trans HM2.out⟩
            case measure => simp [intOf]; omega
          · clear hM
            go_wp2
            go_ret
            obtain rfl : q = j := by omega
            exact ⟨rfl, Mut.after HB.out HM.out⟩
  · rw [copyD_of he]
    have HC := Lib.hid hc
    have hE := chk2E_vals m k a b
    clear h hc
    generalize chk2E m k a b = E at HC he hE
    go_enter Try.func32, Try.ntmps32
    go_wp2_with (go_at_call 62; refine (HC.out _).mono ?_; rintro e w1 ⟨rfl, hb1⟩)
    go_ret
    exact ⟨rfl, Mut.same HS.out hb1⟩

set_option maxHeartbeats 400000 in
theorem Copy_no {v : Value} {w : World} (a b k : Int) (h : NoS w v) : Calls Try.prog 32 #[v, .int .i64 a, .int .i64 b, .int .i64 k] w fun e w' => e = .returned (.int .i64 5) ∧ Below w.heap.size w w' := by
  have HS := Lib.hid h
  clear h
  go_enter Try.func32, Try.ntmps32
  go_wp2_with (go_at_call 62; refine (check_no _ _ (HS.out.below (bnew _ _))).mono ?_; rintro e w1 ⟨rfl, hb1⟩)
  go_ret
  exact ⟨rfl, btr (bnew _ _) hb1 (Nat.le_refl _)⟩

set_option maxHeartbeats 400000 in
theorem Map_no {v : Value} {w : World} (a b : Int) (h : NoS w v) : Calls Try.prog 34 #[v, .int .i64 a, .int .i64 b] w fun e w' => e = .returned (.int .i64 5) ∧ Below w.heap.size w w' := by
  have HM := Lib.hid (made_no h)
  clear h
  go_enter Try.func34, Try.ntmps34
  go_wp2_with (go_at_call 38; refine HM.out.mono ?_; rintro e w1 ⟨rfl, rfl⟩)
  go_ret
  exact ⟨rfl, Below.refl _ _⟩
set_option maxHeartbeats 400000 in
theorem lose_no {v : Value} {w : World} (a b : Int) (x : Bool) (h : NoS w v) : Calls Try.prog 65 #[v, .int .i64 a, .int .i64 b, .agg #[.bool x, .pointer none]] w fun e w' => e = .returned (.int .i64 5) ∧ Below w.heap.size w w' := by
  have HM := Lib.hid (fun o => made_no (h.below (bnew w o)))
  clear h
  go_enter Try.func65, Try.ntmps65
  go_wp2_with (go_at_call 38; refine (HM.out _).mono ?_; rintro e w1 ⟨rfl, rfl⟩)
  go_ret
  exact ⟨rfl, bnew _ _⟩
set_option maxHeartbeats 400000 in
theorem Unmap_no {v : Value} {w : World} (a b : Int) (h : NoS w v) : Calls Try.prog 33 #[v, .int .i64 a, .int .i64 b] w fun e w' => e = .returned (.int .i64 5) ∧ Below w.heap.size w w' := by
  have HL := Lib.hid (lose_no a b false h)
  clear h
  go_enter Try.func33, Try.ntmps33
  go_wp2_with (go_at_call 65; refine HL.out.mono ?_; rintro e w1 ⟨rfl, hM⟩)
  go_ret
  exact ⟨rfl, hM⟩
set_option maxHeartbeats 400000 in
theorem Release_no {v : Value} {w : World} (a b : Int) (h : NoS w v) : Calls Try.prog 35 #[v, .int .i64 a, .int .i64 b] w fun e w' => e = .returned (.int .i64 5) ∧ Below w.heap.size w w' := by
  have HL := Lib.hid (lose_no a b true h)
  clear h
  go_enter Try.func35, Try.ntmps35
  go_wp2_with (go_at_call 65; refine HL.out.mono ?_; rintro e w1 ⟨rfl, hM⟩)
  go_ret
  exact ⟨rfl, hM⟩

end Go.Proofs.Ytejjendklemebaa
