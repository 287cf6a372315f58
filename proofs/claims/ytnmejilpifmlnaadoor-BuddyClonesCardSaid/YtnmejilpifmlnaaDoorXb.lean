/- The statement about clones: what its call returns. -/
import Derived.Test.YtnmejilpifmlnaaDoorXa
namespace Go.Proofs.YtnmejilpifmlnaaDoor
open Go.RowKit

set_option maxRecDepth 100000 in
set_option maxHeartbeats 1000000 in
theorem clones_walk (p : Int) (A A2 : Option Addr) (c c2 : Nat) (l l2 : List Ac) (side : Bool) (w : World) (ht : Tab w) (hp0 : 0 ≤ p) (hp1 : p ≤ 65535) (hl : l.length ≤ 9223372036854775807) (hA : ActsAt w w.heap.size A l) (hl2 : l2.length ≤ 9223372036854775807) (hA2 : ActsAt w w.heap.size A2 l2) :
    Calls Tryd.prog 11 #[.int .u16 p, .slice A l.length c, .slice A2 l2.length c2, .bool side] w (Yes w) := by
  have HAL := Lib.hid (Alive w ht)
  obtain ⟨n, hn⟩ : ∃ n : Nat, p % 1024 + 1 = n := ⟨(p % 1024 + 1).toNat, by omega⟩
  have HMD := Lib.hid (Made p A c n l w hn hp0 hp1 hl hA ht)
  have h1w := ht.lt
  have HW1 := Lib.hid h1w
  obtain ⟨L, hL⟩ : ∃ L, L = l.length := ⟨_, rfl⟩
  rw [← hL] at hl HMD ⊢
  obtain ⟨L2, hL2⟩ : ∃ L, L = l2.length := ⟨_, rfl⟩
  have HL2 := Lib.hid hL2
  rw [← hL2] at hl2 ⊢
  have HG := Lib.hid (fun w => great_any A L c w hl)
  have HG2 := Lib.hid (fun w => great_any A2 L2 c2 w hl2)
  have HA2 := Lib.hid hA2
  have hb0 := Below.refl w.heap.size w
  clear hA hL hn hL2 hA2 ht
  by_cases h40 : 40 < L
  · rw [decide_eq_true h40] at HG
    go_enter Tryd.func11, Tryd.ntmps11
    go_wp2_with fail
    refine (HG.out _).mono ?_; rintro e _ ⟨rfl, rfl⟩
    go_wp2_with fail
    refine (HAL.out _ hb0).mono ?_; rintro e w1 ⟨rfl, hb1⟩
    go_wp2_with fail
    go_ret
    exact ⟨rfl, hb1⟩
  · rw [decide_eq_false h40] at HG
    by_cases h42 : 40 < L2
    · rw [decide_eq_true h42] at HG2
      clear h40
      go_enter Tryd.func11, Tryd.ntmps11
      go_wp2_with fail
      refine (HG.out _).mono ?_; rintro e _ ⟨rfl, rfl⟩
      go_wp2_with fail
      refine (HG2.out _).mono ?_; rintro e _ ⟨rfl, rfl⟩
      go_wp2_with fail
      refine (HAL.out _ hb0).mono ?_; rintro e w1 ⟨rfl, hb1⟩
      go_wp2_with fail
      go_ret
      exact ⟨rfl, hb1⟩
    · rw [decide_eq_false h42] at HG2
      have h43 : L2 ≤ 40 := by omega
      clear h40 h42
      go_enter Tryd.func11, Tryd.ntmps11
      go_wp2_with fail
      refine (HG.out _).mono ?_; rintro e _ ⟨rfl, rfl⟩
      go_wp2_with fail
      refine (HG2.out _).mono ?_; rintro e _ ⟨rfl, rfl⟩
      go_wp2_with fail
      refine (HMD.out _ hb0).mono ?_
      rintro e w1 ⟨B, rfl, hb1, hs1⟩
      go_wp2_with fail
      refine (HMD.out _ hb1).mono ?_
      rintro e w2 ⟨U, rfl, hb2, hu2⟩
      have hs2 := hs1.below hb2
      clear hs1
      go_wp2_with fail
      refine (Clone_any hs2).mono ?_
      rintro e w3 ⟨C, rfl, hb3, ht3⟩
      have HB3 := Lib.hid (btr (btr hb1 hb2 (Nat.le_refl _)) hb3 (Nat.le_refl _))
      have HZ1 := Lib.hid hb1.size
      have HZ2 := Lib.hid hb2.size
      have HS := Lib.hid (hs2.below hb3)
      have HU := Lib.hid (hu2.below hb3)
      have HT := Lib.hid ht3
      clear hb1 hb2 hb3 hs2 hu2 ht3 hb0 h1w
      go_wp2_with fail
      cases side
      · go_loopw [12] (fun i wr => ∃ (k : Nat) (m : Mo), k ≤ L2 ∧ i = .int .i64 k ∧ Mut w3 (Nw w2 w3) C m wr) (fun i _ => L2 - (intOf i).toNat)
        case atStart => exact ⟨0, _, by omega, rfl, Mut.same HT.out (Below.refl _ _)⟩
        case round =>
          obtain ⟨k, m, hk, rfl, hM⟩ := hrel
          have HM := Lib.hid hM
          have hlo : ∀ k, Nw w2 w3 k → w.heap.size ≤ k := fun k hk => by have := hk.1; have := HZ1.out; have := HZ2.out; omega
          have hbl := hM.bel HB3.out hlo
          have HBL := Lib.hid hbl
          by_cases hlt : k < L2
          · obtain ⟨x, hx⟩ : ∃ x, l2[k]? = some x := ⟨_, List.getElem?_eq_getElem (by have := HL2.out; omega)⟩
            obtain ⟨hr, b, o, rfl, hB, g1, g2, g3⟩ := (HA2.out.below hbl) k x hx
            have HD := Lib.hid (do_at x hM.1 hr)
            clear hM hx hr hbl hlo
            go_wp2_with fail
            refine HD.out.mono ?_
            rintro e w4 ⟨rfl, hM2⟩
            have HM2 := Lib.hid hM2
            clear hM2
            go_wp2_with fail
            go_roundw
            case rel => exact ⟨k + 1, _, by omega, by go_num, HM.out.trans HM2.out⟩
            case measure => simp [intOf]; omega
          · clear hM hbl hlo
            go_wp2_with fail
            have h1 := HS.out.keep HM.out.2 (fun k hk hk2 => by have := hk.2; have := hk2.1; have := HZ2.out; omega) (fun hk => by have := hk.1; have := HW1.out; have := HZ1.out; have := HZ2.out; omega)
            have h2 := HU.out.keep HM.out.2 (fun k hk hk2 => by have := hk.2; have := hk2.1; omega) (fun hk => by have := hk.1; have := HW1.out; have := HZ1.out; have := HZ2.out; omega)
            refine (alike_any h1 h2).mono ?_
            rintro e w4 ⟨rfl, hb4⟩
            clear h1 h2
            have hb5 := btr HBL.out hb4 (Nat.le_refl _)
            go_wp2_with fail
            refine (HAL.out _ hb5).mono ?_
            rintro e w5 ⟨rfl, hb6⟩
            go_wp2_with fail
            go_ret
            exact ⟨rfl, hb6⟩
      · go_loopw [12] (fun i wr => ∃ (k : Nat) (m : Mo), k ≤ L2 ∧ i = .int .i64 k ∧ Mut w3 (Nw w w1) B m wr) (fun i _ => L2 - (intOf i).toNat)
        case atStart => exact ⟨0, _, by omega, rfl, Mut.same HS.out (Below.refl _ _)⟩
        case round =>
          obtain ⟨k, m, hk, rfl, hM⟩ := hrel
          have HM := Lib.hid hM
          have hbl := hM.bel HB3.out nwlo
          have HBL := Lib.hid hbl
          by_cases hlt : k < L2
          · obtain ⟨x, hx⟩ : ∃ x, l2[k]? = some x := ⟨_, List.getElem?_eq_getElem (by have := HL2.out; omega)⟩
            obtain ⟨hr, b, o, rfl, hB, g1, g2, g3⟩ := (HA2.out.below hbl) k x hx
            have HD := Lib.hid (do_at x hM.1 hr)
            clear hM hx hr hbl
            go_wp2_with fail
            refine HD.out.mono ?_
            rintro e w4 ⟨rfl, hM2⟩
            have HM2 := Lib.hid hM2
            clear hM2
            go_wp2_with fail
            go_roundw
            case rel => exact ⟨k + 1, _, by omega, by go_num, HM.out.trans HM2.out⟩
            case measure => simp [intOf]; omega
          · clear hM hbl
            go_wp2_with fail
            have h1 := HT.out.keep HM.out.2 (fun k hk hk2 => by have := hk.1; have := hk2.2; have := HZ2.out; omega) (fun hk => by have := hk.1; have := HW1.out; omega)
            have h2 := HU.out.keep HM.out.2 (fun k hk hk2 => by have := hk.1; have := hk2.2; omega) (fun hk => by have := hk.1; have := HW1.out; omega)
            refine (alike_any h1 h2).mono ?_
            rintro e w4 ⟨rfl, hb4⟩
            clear h1 h2
            have hb5 := btr HBL.out hb4 (Nat.le_refl _)
            go_wp2_with fail
            refine (HAL.out _ hb5).mono ?_
            rintro e w5 ⟨rfl, hb6⟩
            go_wp2_with fail
            go_ret
            exact ⟨rfl, hb6⟩

end Go.Proofs.YtnmejilpifmlnaaDoor
