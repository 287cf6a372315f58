/- The statements about refusals, clones and going back: what their calls return. -/
import Derived.Test.YtecfjibmpbgllaaFc
namespace Go.Proofs.Ytecfjibmpbgllaa
open Go.RowKit

/-- True, and nothing that lay before has changed. -/
def Yes (w : World) (e : Ending) (w' : World) : Prop := e = .returned (.bool true) ∧ Below w.heap.size w w'
theorem nwlo {w w1 : World} : ∀ k, Nw w w1 k → w.heap.size ≤ k := fun _ hk => hk.1

theorem turnD_of {m : Mo} {g : Int} {f v : Nat} (h : turnE m g f ≠ 0) : turnD m g f v = m := if_neg h
theorem chD_of {m : Mo} {s k : Int} {P : Nat → Bool} {v : Nat} (h : chE m s k P ≠ 0) : chD m s k P v = m := if_neg h
/-- The calls that are refused, and plans, change nothing. -/
theorem do_err {m : Mo} {x : Ac} (h : doE m x ≠ 0 ∨ x.k = 5) : doM m x = m := by
  unfold doE at h
  unfold doM
  split
  · rename_i h0; rw [if_pos h0] at h; exact turnD_of (by omega)
  · rename_i h0; rw [if_neg h0] at h
    split
    · rename_i h1; rw [if_pos h1] at h; exact turnD_of (by omega)
    · rename_i h1; rw [if_neg h1] at h
      split
      · rename_i h2; rw [if_pos h2] at h; exact chD_of (by omega)
      · rename_i h2; rw [if_neg h2] at h
        split
        · rename_i h3; rw [if_pos h3] at h; exact chD_of (by omega)
        · rename_i h3; rw [if_neg h3] at h
          split
          · rename_i h4; rw [if_pos h4] at h; exact chD_of (by omega)
          · rfl

set_option maxRecDepth 100000 in
set_option maxHeartbeats 1000000 in
theorem refuses_walk (p : Int) (A : Option Addr) (c : Nat) (l : List Ac) (x : Ac) (w : World) (hp0 : 0 ≤ p) (hp1 : p ≤ 255) (hl : l.length ≤ 9223372036854775807) (hA : ActsAt w w.heap.size A l) (hx : AcR x) :
    Calls Try.prog 10 #[.int .u8 p, .slice A l.length c, .agg #[.int .i64 x.k, .int .i64 x.a, .int .i64 x.b]] w (Yes w) := by
  have HAL := Lib.hid alive_any
  obtain ⟨n, hn⟩ : ∃ n : Nat, p % 8 + 1 = n := ⟨(p % 8 + 1).toNat, by omega⟩
  have HMD := Lib.hid (fun w hA => made'_any p A c n l w hn hp0 hp1 hl hA)
  have hn8 : n ≤ 8 := by omega
  have hn1 : 1 ≤ n := by omega
  have hnh : (runM (newM n) l).h = n := runM_h _ _
  obtain ⟨L, hL⟩ : ∃ L, L = l.length := ⟨_, rfl⟩
  rw [← hL] at hl HMD ⊢
  have HG := Lib.hid (fun w => great_any A L c w hl)
  have HA := Lib.hid hA
  clear hA hL
  obtain ⟨W0, hW, hb0, hz, c0, c1, c2⟩ := new3 w (.int .i64 x.k) (.int .i64 x.a) (.int .i64 x.b) 33
  have HB0 := Lib.hid hb0
  have HX := Lib.hid hx
  clear hb0 hx hnh hn hn8 hn1
  by_cases h40 : 40 < L
  · rw [decide_eq_true h40] at HG
    go_enter Try.func10, Try.ntmps10
    go_wp2_with fail
    refine (HG.out _).mono ?_
    rintro e _ ⟨rfl, rfl⟩
    go_wp2_with fail
    refine (HAL.out _).mono ?_
    rintro e w1 ⟨rfl, hb1⟩
    go_wp2_with fail
    go_ret
    exact ⟨rfl, btr HB0.out hb1 (Nat.le_refl _)⟩
  · rw [decide_eq_false h40] at HG
    clear h40
    go_enter Try.func10, Try.ntmps10
    go_wp2_with fail
    refine (HG.out _).mono ?_
    rintro e _ ⟨rfl, rfl⟩
    go_wp2_with fail
    refine (HMD.out _ ((HA.out.below HB0.out).more HB0.out.size)).mono ?_
    rintro e w1 ⟨B, rfl, hb1, ht1⟩
    have HB1 := Lib.hid hb1
    have HT1 := Lib.hid ht1
    clear hb1 ht1
    go_wp2_with fail
    refine (Clone_any HT1.out).mono ?_
    rintro e w2 ⟨C, rfl, hb2, ht2⟩
    have HB2 := Lib.hid hb2
    have HT2 := Lib.hid ht2
    have hb12 := btr HB1.out hb2 (Nat.le_refl _)
    have HB12 := Lib.hid hb12
    have d0 := (hb12.cell (p := ⟨w.heap.size, 0, none⟩) hz).trans c0
    have d1 := (hb12.cell (p := ⟨w.heap.size, 1, none⟩) hz).trans c1
    have d2 := (hb12.cell (p := ⟨w.heap.size, 2, none⟩) hz).trans c2
    clear hb2 ht2 c0 c1 c2 hb12 hW
    go_wp2_with fail
    refine (do_at x (HT1.out.below HB2.out) HX.out).mono ?_
    rintro e w3 ⟨rfl, hM⟩
    have HM := Lib.hid hM
    have hb3 : Below W0.heap.size W0 w3 := HB12.out.trans (hM.2.below HB12.out.size nwlo)
    have HB3 := Lib.hid hb3
    have e0 := (hb3.cell (p := ⟨w.heap.size, 0, none⟩) hz).trans ((HB12.out.cell (p := ⟨w.heap.size, 0, none⟩) hz).symm.trans d0)
    have HTC := Lib.hid (HT2.out.keep hM.2 (fun k hk hk2 => by have := hk.1; have := hk2.2; omega))
    clear hM hb3 d0 d1 d2
    by_cases hE : doE (runM (newM n) l) x = 0 ∧ x.k ≠ 5
    · rw [hE.1]
      have hk := hE.2
      have q : (x.k != 5) = true := by simpa using hk
      have q2 : (x.k == 5) = false := by simpa using hk
      clear hE hk
      go_wp2_with fail
      refine (HAL.out _).mono ?_
      rintro e w4 ⟨rfl, hb4⟩
      go_wp2_with fail
      go_ret
      exact ⟨rfl, btr HB0.out (btr HB3.out hb4 (Nat.le_refl _)) (Nat.le_refl _)⟩
    · have HD := Lib.hid (do_err (m := runM (newM n) l) (x := x) (by
        rcases Int.lt_or_le (doE (runM (newM n) l) x) 0 with h | h
        · exact .inl (by omega)
        · by_cases h0 : doE (runM (newM n) l) x = 0
          · exact .inr (by by_cases h5 : x.k = 5; exact h5; exact absurd ⟨h0, h5⟩ hE)
          · exact .inl h0))
      have hT3 := HM.out.1
      rw [HD.out] at hT3
      have hal := alike_any hT3 HTC.out
      rw [alB_self] at hal
      have HALK := Lib.hid hal
      clear hT3 hal
      by_cases h0 : doE (runM (newM n) l) x = 0
      · have h5 : x.k = 5 := by by_cases h5 : x.k = 5; exact h5; exact absurd ⟨h0, h5⟩ hE
        rw [h0]
        rw [h5] at e0
        clear h0 h5 hE
        go_wp2_with fail
        refine HALK.out.mono ?_
        rintro e _ ⟨rfl, rfl⟩
        go_wp2_with fail
        refine (HAL.out _).mono ?_
        rintro e w4 ⟨rfl, hb4⟩
        go_wp2_with fail
        go_ret
        exact ⟨rfl, btr HB0.out (btr HB3.out hb4 (Nat.le_refl _)) (Nat.le_refl _)⟩
      · generalize doE (runM (newM n) l) x = E at h0
        have q : (E == 0) = false := by simpa using h0
        clear h0 hE
        go_wp2_with fail
        refine HALK.out.mono ?_
        rintro e _ ⟨rfl, rfl⟩
        go_wp2_with fail
        refine (HAL.out _).mono ?_
        rintro e w4 ⟨rfl, hb4⟩
        go_wp2_with fail
        go_ret
        exact ⟨rfl, btr HB0.out (btr HB3.out hb4 (Nat.le_refl _)) (Nat.le_refl _)⟩

set_option maxRecDepth 100000 in
set_option maxHeartbeats 1000000 in
theorem clones_walk (p : Int) (A A2 : Option Addr) (c c2 : Nat) (l l2 : List Ac) (side : Bool) (w : World) (hp0 : 0 ≤ p) (hp1 : p ≤ 255) (hl : l.length ≤ 9223372036854775807) (hA : ActsAt w w.heap.size A l) (hl2 : l2.length ≤ 9223372036854775807) (hA2 : ActsAt w w.heap.size A2 l2) :
    Calls Try.prog 11 #[.int .u8 p, .slice A l.length c, .slice A2 l2.length c2, .bool side] w (Yes w) := by
  have HAL := Lib.hid alive_any
  obtain ⟨n, hn⟩ : ∃ n : Nat, p % 8 + 1 = n := ⟨(p % 8 + 1).toNat, by omega⟩
  have HMD := Lib.hid (fun w hA => made'_any p A c n l w hn hp0 hp1 hl hA)
  have hn8 : n ≤ 8 := by omega
  have hn1 : 1 ≤ n := by omega
  have hnh : (runM (newM n) l).h = n := runM_h _ _
  obtain ⟨L, hL⟩ : ∃ L, L = l.length := ⟨_, rfl⟩
  rw [← hL] at hl HMD ⊢
  have HG := Lib.hid (fun w => great_any A L c w hl)
  have HA := Lib.hid hA
  clear hA hL
  obtain ⟨L2, hL2⟩ : ∃ L, L = l2.length := ⟨_, rfl⟩
  have HL2 := Lib.hid hL2
  rw [← hL2] at hl2 ⊢
  have HG2 := Lib.hid (fun w => great_any A2 L2 c2 w hl2)
  have HA2 := Lib.hid hA2
  clear hL2 hA2 hnh hn hn8 hn1
  by_cases h40 : 40 < L
  · rw [decide_eq_true h40] at HG
    go_enter Try.func11, Try.ntmps11
    go_wp2_with fail
    refine (HG.out _).mono ?_
    rintro e _ ⟨rfl, rfl⟩
    go_wp2_with fail
    refine (HAL.out _).mono ?_
    rintro e w1 ⟨rfl, hb1⟩
    go_wp2_with fail
    go_ret
    exact ⟨rfl, hb1⟩
  · rw [decide_eq_false h40] at HG
    clear h40
    by_cases h42 : 40 < L2
    · rw [decide_eq_true h42] at HG2
      go_enter Try.func11, Try.ntmps11
      go_wp2_with fail
      refine (HG.out _).mono ?_; rintro e _ ⟨rfl, rfl⟩
      go_wp2_with fail
      refine (HG2.out _).mono ?_; rintro e _ ⟨rfl, rfl⟩
      go_wp2_with fail
      refine (HAL.out _).mono ?_; rintro e w1 ⟨rfl, hb1⟩
      go_wp2_with fail
      go_ret
      exact ⟨rfl, hb1⟩
    · rw [decide_eq_false h42] at HG2
      have h43 : L2 ≤ 40 := by omega
      clear h42
      go_enter Try.func11, Try.ntmps11
      go_wp2_with fail
      refine (HG.out _).mono ?_; rintro e _ ⟨rfl, rfl⟩
      go_wp2_with fail
      refine (HG2.out _).mono ?_; rintro e _ ⟨rfl, rfl⟩
      go_wp2_with fail
      refine (HMD.out _ HA.out).mono ?_
      rintro e w1 ⟨B, rfl, hb1, hs1⟩
      go_wp2_with fail
      refine (HMD.out _ ((HA.out.below hb1).more hb1.size)).mono ?_
      rintro e w2 ⟨U, rfl, hb2, hu2⟩
      have hs2 := hs1.below hb2
      clear hs1
      go_wp2_with fail
      refine (Clone_any hs2).mono ?_
      rintro e w3 ⟨C, rfl, hb3, ht3⟩
      have HB3 := Lib.hid (btr (btr hb1 hb2 (Nat.le_refl _)) hb3 (Nat.le_refl _))
      have HZ1 := Lib.hid hb1.size
      have HZ2 := Lib.hid hb2.size
      have HS := Lib.hid (hs2.below hb3)
      have HU := Lib.hid (hu2.below hb3)
      have HT := Lib.hid ht3
      clear hb1 hb2 hb3 hs2 hu2 ht3
      go_wp2_with fail
      cases side
      · go_loopw [12] (fun i wr => ∃ (k : Nat) (m : Mo), k ≤ L2 ∧ i = .int .i64 k ∧ Mut w3 (Nw w2 w3) C m wr) (fun i _ => L2 - (intOf i).toNat)
        case atStart => exact ⟨0, _, by omega, rfl, Mut.same HT.out (Below.refl _ _)⟩
        case round =>
          obtain ⟨k, m, hk, rfl, hM⟩ := hrel
          have HM := Lib.hid hM
          have hlo : ∀ k, Nw w2 w3 k → w.heap.size ≤ k := fun k hk => by have := hk.1; have := HZ1.out; have := HZ2.out; omega
          have hbl := hM.bel HB3.out hlo
          have HBL := Lib.hid hbl
          by_cases hlt : k < L2
          · obtain ⟨x, hx⟩ : ∃ x, l2[k]? = some x := ⟨_, List.getElem?_eq_getElem (by have := HL2.out; omega)⟩
            obtain ⟨hr, b, o, rfl, hB, g1, g2, g3⟩ := (HA2.out.below hbl) k x hx
            have HD := Lib.hid (do_at x hM.1 hr)
            clear hM hx hr hbl hlo
            go_wp2_with fail
            refine HD.out.mono ?_
            rintro e w4 ⟨rfl, hM2⟩
            have HM2 := Lib.hid hM2
            clear hM2
            go_wp2_with fail
            go_roundw
            case rel => exact ⟨k + 1, _, by omega, by go_num, HM.out.trans HM2.out⟩
            case measure => simp [intOf]; omega
          · clear hM hbl hlo
            go_wp2_with fail
            have h1 := HS.out.keep HM.out.2 (fun k hk hk2 => by have := hk.2; have := hk2.1; have := HZ2.out; omega)
            have h2 := HU.out.keep HM.out.2 (fun k hk hk2 => by have := hk.2; have := hk2.1; omega)
            have hal := alike_any h1 h2
            rw [alB_self] at hal
            refine hal.mono ?_
            rintro e _ ⟨rfl, rfl⟩
            clear h1 h2 hal
            go_wp2_with fail
            refine (HAL.out _).mono ?_
            rintro e w5 ⟨rfl, hb5⟩
            go_wp2_with fail
            go_ret
            exact ⟨rfl, btr HBL.out hb5 (Nat.le_refl _)⟩
      · go_loopw [12] (fun i wr => ∃ (k : Nat) (m : Mo), k ≤ L2 ∧ i = .int .i64 k ∧ Mut w3 (Nw w w1) B m wr) (fun i _ => L2 - (intOf i).toNat)
        case atStart => exact ⟨0, _, by omega, rfl, Mut.same HS.out (Below.refl _ _)⟩
        case round =>
          obtain ⟨k, m, hk, rfl, hM⟩ := hrel
          have HM := Lib.hid hM
          have hbl := hM.bel HB3.out nwlo
          have HBL := Lib.hid hbl
          by_cases hlt : k < L2
          · obtain ⟨x, hx⟩ : ∃ x, l2[k]? = some x := ⟨_, List.getElem?_eq_getElem (by have := HL2.out; omega)⟩
            obtain ⟨hr, b, o, rfl, hB, g1, g2, g3⟩ := (HA2.out.below hbl) k x hx
            have HD := Lib.hid (do_at x hM.1 hr)
            clear hM hx hr hbl
            go_wp2_with fail
            refine HD.out.mono ?_
            rintro e w4 ⟨rfl, hM2⟩
            have HM2 := Lib.hid hM2
            clear hM2
            go_wp2_with fail
            go_roundw
            case rel => exact ⟨k + 1, _, by omega, by go_num, HM.out.trans HM2.out⟩
            case measure => simp [intOf]; omega
          · clear hM hbl
            go_wp2_with fail
            have h1 := HT.out.keep HM.out.2 (fun k hk hk2 => by have := hk.1; have := hk2.2; have := HZ2.out; omega)
            have h2 := HU.out.keep HM.out.2 (fun k hk hk2 => by have := hk.1; have := hk2.2; omega)
            have hal := alike_any h1 h2
            rw [alB_self] at hal
            refine hal.mono ?_
            rintro e _ ⟨rfl, rfl⟩
            clear h1 h2 hal
            go_wp2_with fail
            refine (HAL.out _).mono ?_
            rintro e w5 ⟨rfl, hb5⟩
            go_wp2_with fail
            go_ret
            exact ⟨rfl, btr HBL.out hb5 (Nat.le_refl _)⟩

end Go.Proofs.Ytecfjibmpbgllaa
