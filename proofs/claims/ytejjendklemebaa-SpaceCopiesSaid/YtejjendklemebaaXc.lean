/- The statement about what is copied at once: what its call returns. -/
import Derived.Test.YtejjendklemebaaXa
namespace Go.Proofs.Ytejjendklemebaa
open Go.RowKit

/-- One word of many: it can be written, and all before it are. -/
theorem put_step {m : Mo} (hwf : WF m) {tq : Int} {L i : Nat} (f : Nat → Int) (h : accM m tq L = true) (hi : i < L) :
    (0 ≤ tq ∧ tq + 8 * i ≤ 262144) ∧ chkE (putN m (tq / 8).toNat f i) 1 (tq + 8 * i) = 0 ∧ fillD (putN m (tq / 8).toNat f i) (tq + 8 * i) 1 (f i) = putN m (tq / 8).toNat f (i + 1) := by
  rcases accM_run h (by omega) with h0 | ⟨q, j, rfl, hj, h1, h2, h3⟩
  · omega
  · obtain rfl : j = L := by omega
    have hn := hwf.n2
    have e0 : ((8 * (q : Int)) / 8).toNat = q := by omega
    have e1 : 8 * (q : Int) + 8 * (i : Int) = 8 * ((q + i : Nat) : Int) := by omega
    rw [e0, e1]
    have ha : accM (putN m q f i) (8 * ((q + i : Nat) : Int)) 1 = true := accM_at (by rw [putN_n]; omega) (putN_st _ _ _ (h3 i hi) _)
    have hc : chkE (putN m q f i) 1 (8 * ((q + i : Nat) : Int)) = 0 := by
      unfold chkE
      rw [if_neg (by omega), if_pos ha]
    refine ⟨⟨by omega, by omega⟩, hc, ?_⟩
    unfold fillD
    rw [if_pos hc, show (8 * ((q + i : Nat) : Int) / 8).toNat = q + i from by omega]
    rfl
theorem Words_some {O : Nat → Prop} {B : Nat} {m : Mo} {w : World} (a k : Int) (h : Sp w O B m) (ha : InR a) :
    Calls Try.prog 30 #[.pointer (some ⟨B, 0, none⟩), .int .i64 a, .int .i64 k] w fun e w' => (∃ (p : Option Addr) (l c : Nat) (E : Int), e = .returned (.tuple #[.slice p l c, .int .i64 E])) ∧ Below w.heap.size w w' := by
  by_cases he : chkE m k a = 0
  · exact (Words_any a k h ha he).mono fun e w' ⟨Z, hh, _, _, hb⟩ => ⟨⟨_, _, _, _, hh⟩, hb⟩
  · exact (Words_bad a k h ha he).mono fun e w' ⟨hh, hb⟩ => ⟨⟨_, _, _, _, hh⟩, hb⟩

set_option maxRecDepth 100000 in
set_option maxHeartbeats 2000000 in
theorem copies_walk (p : Int) (A : Option Addr) (c : Nat) (l : List Ac) (tq frm k v : Int) (fl : Bool) (w : World) (hp0 : 0 ≤ p) (hp1 : p ≤ 255) (hl : l.length ≤ 9223372036854775807) (hA : ActsAt w w.heap.size A l) (ht : InR tq) (hf : InR frm) :
    Calls Try.prog 8 #[.int .u8 p, .slice A l.length c, .int .i64 tq, .int .i64 frm, .int .i64 k, .int .i64 v, .bool fl] w (Yes w) := by
  have HAL := Lib.hid alive_any
  obtain ⟨N0, hn⟩ : ∃ n : Nat, p % 64 + 1 = n := ⟨(p % 64 + 1).toNat, by omega⟩
  have HMD := Lib.hid (fun w hA => made'_any p A c N0 l w hn hp0 hp1 hl hA)
  obtain ⟨L, hL⟩ : ∃ L, L = l.length := ⟨_, rfl⟩
  rw [← hL] at hl HMD ⊢
  have HG := Lib.hid (fun w => great_any A L c w hl)
  have HA := Lib.hid hA
  have HTR := Lib.hid ht
  have HFR := Lib.hid hf
  clear hA hL hn ht hf
  by_cases h40 : 40 < L
  · rw [decide_eq_true h40] at HG
    go_enter Try.func8, Try.ntmps8
    go_wp2_with (first
      | (go_at_call 12; refine (HG.out _).mono ?_; rintro e _ ⟨rfl, rfl⟩)
      | (go_at_call 13; refine (HAL.out _).mono ?_; rintro e w1 ⟨rfl, hb1⟩))
    go_ret
    exact ⟨rfl, hb1⟩
  · rw [decide_eq_false h40] at HG
    clear h40 hl hp0 hp1
    go_enter Try.func8, Try.ntmps8
    go_wp2_with (first
      | (go_at_call 12; refine (HG.out _).mono ?_; rintro e _ ⟨rfl, rfl⟩))
    refine (HMD.out _ HA.out).mono ?_
    rintro e w1 ⟨B, rfl, hb1, hs1⟩
    go_wp2_with fail
    refine (Clone_any hs1).mono ?_
    rintro e w2 ⟨C, rfl, hb2, hs2⟩
    have HB1 := Lib.hid hb1
    have HB2 := Lib.hid hb2
    have HS1 := Lib.hid (hs1.below hb2)
    have HS2 := Lib.hid hs2
    clear hb1 hb2 hs1 hs2 HMD HG HA
    generalize runM (newM N0) l = m at HS1 HS2
    go_wp2_with fail
    cases fl
    · by_cases hE : chk2E m k tq frm = 0
      · obtain ⟨hk0, hk1, hacc, hacc2⟩ := chk2E_zero hE
        obtain ⟨n, rfl⟩ : ∃ n : Nat, k = n := ⟨k.toNat, by omega⟩
        have HDD := Lib.hid (show copyD m tq frm n = putN m (tq / 8).toNat (fun j => m.hd ((frm / 8).toNat + j)) n from by unfold copyD; rw [if_pos hE, Int.toNat_natCast])
        have hwo : chkE m n frm = 0 := by unfold chkE; rw [if_neg (by omega), if_pos hacc2]
        refine (Words_any frm n HS1.out HFR.out hwo).mono ?_
        rintro e w3 ⟨Z, rfl, hZ0, hcl, hb3⟩
        rw [Int.toNat_natCast] at hcl ⊢
        have HB3 := Lib.hid hb3
        have HCL := Lib.hid hcl
        have HZ0 := Lib.hid hZ0
        clear hb3 hcl hZ0 hwo hacc2
        go_wp2_with fail
        refine (Copy_any tq frm n (HS1.out.below HB3.out) HTR.out HFR.out).mono ?_
        rintro e w4 ⟨rfl, hM⟩
        have HM := Lib.hid hM
        have hbl := (btr (btr HB1.out HB2.out (Nat.le_refl _)) HB3.out (Nat.le_refl _)).trans (hM.2.below (Nat.le_trans (Nat.le_trans HB1.out.size HB2.out.size) HB3.out.size) nwlo)
        have HBS := Lib.hid hbl
        clear hM hbl
        rw [hE]
        clear hE
        have HZ1 := Lib.hid HB1.out.size
        have HZ2 := Lib.hid HB2.out.size
        have HZ3 := Lib.hid HB3.out.size
        have HZ4 := Lib.hid HM.out.2.size
        have HT := Lib.hid ((HS2.out.below HB3.out).keep HM.out.2 (fun k hk hk2 => by have := hk.1; have := hk2.2; omega))
        have HWF := Lib.hid HS1.out.wf
        obtain ⟨f, hf⟩ : ∃ f : Nat → Int, f = fun j => m.hd ((frm / 8).toNat + j) := ⟨_, rfl⟩
        rw [← hf] at HDD
        have hcl4 : ∀ j, j < n → w4.cell? ⟨Z, j, none⟩ = some (.int .i64 (f j)) ∧ Z < w3.heap.size := fun j hj => by
          have hc := HCL.out.cell j hj
          have hlt := World.block_lt_of_cell? _ _ hc
          refine ⟨?_, hlt⟩
          rw [World.cell?_of_block (w := w3) (HM.out.2.block Z hlt (fun hx => by have := hx.2; have := HZ2.out; have := HZ0.out; omega)), hc, hf]
        have HC4 := Lib.hid hcl4
        clear hcl4 hf HCL
        clear HB1 HB2 HB3 HS1 HS2
        go_wp2_with fail
        go_loopw [20] (fun i wr => ∃ j : Nat, j ≤ n ∧ i = .int .i64 j ∧ Mut w4 (Nw w1 w2) C (putN m (tq / 8).toNat f j) wr) (fun i _ => n - (intOf i).toNat)
        case atStart => exact ⟨0, by omega, rfl, Mut.same HT.out (Below.refl _ _)⟩
        case round =>
          obtain ⟨j, hj, rfl, hMr⟩ := hrel
          have HMr := Lib.hid hMr
          have hlo : ∀ k, Nw w1 w2 k → w.heap.size ≤ k := fun k hk => by have := hk.1; have := HZ1.out; omega
          have hbl := hMr.bel HBS.out hlo
          have HBL := Lib.hid hbl
          clear hMr hlo hbl
          by_cases hlt : j < n
          · obtain ⟨⟨ht0, ht1⟩, hc, hd⟩ := put_step HWF.out f hacc hlt
            have hw := Write_any (tq + 8 * j) (f j) HMr.out.1 ⟨by omega, by omega⟩
            rw [hc, hd, Int.mul_comm 8 (j : Int)] at hw
            have HW := Lib.hid hw
            clear hc hd hw
            have hcell := HC4.out j hlt
            have g1 := (World.cell?_of_block (w := w4) (a := ⟨Z, j, none⟩) (HMr.out.2.block Z (by have := HZ4.out; have := hcell.2; show Z < _; omega) (fun hx => by have := hx.2; have := HZ0.out; omega))).trans hcell.1
            clear hcell
            go_wp2_with fail
            refine HW.out.mono ?_
            rintro e w5 ⟨rfl, hM5⟩
            have HM5 := Lib.hid hM5
            clear hM5
            go_wp2_with fail
            go_roundw
            case rel => exact ⟨j + 1, by omega, by go_num, HMr.out.trans HM5.out⟩
            case measure => simp [intOf]; omega
          · obtain rfl : j = n := by omega
            have h1 := HM.out.1.keep HMr.out.2 (fun k hk hk2 => by have := hk2.1; have := hk2.2; have := HZ3.out; rcases hk with hk | hk; have := hk.2; omega; have := hk.1; omega)
            have h2 := HMr.out.1
            rw [HDD.out] at h1
            have HX := Lib.hid (alike_any h1 h2)
            clear h1 h2 hacc
            go_wp2_with fail
            refine HX.out.mono ?_
            rintro e w5 ⟨rfl, hb5⟩
            go_wp2_with fail
            refine (HAL.out _).mono ?_
            rintro e w6 ⟨rfl, hb6⟩
            go_wp2_with fail
            go_ret
            exact ⟨rfl, btr (btr HBL.out hb5 (Nat.le_refl _)) hb6 (Nat.le_refl _)⟩
      · refine (Words_some frm k HS1.out HFR.out).mono ?_
        rintro e w3 ⟨⟨P, sl, sc, E0, rfl⟩, hb3⟩
        have HB3 := Lib.hid hb3
        clear hb3
        go_wp2_with fail
        refine (Copy_any tq frm k (HS1.out.below HB3.out) HTR.out HFR.out).mono ?_
        rintro e w4 ⟨rfl, hM⟩
        rw [copyD_of hE] at hM
        have HM := Lib.hid hM
        have hbl := (btr (btr HB1.out HB2.out (Nat.le_refl _)) HB3.out (Nat.le_refl _)).trans (hM.2.below (Nat.le_trans (Nat.le_trans HB1.out.size HB2.out.size) HB3.out.size) nwlo)
        have HBS := Lib.hid hbl
        clear hM hbl
        generalize chk2E m k tq frm = E at hE
        have hq : (E == 0) = false := by simpa using hE
        have hq' : (E != 0) = true := by simpa using hE
        clear hE
        go_wp2_with fail
        refine (alike_any HM.out.1 ((HS2.out.below HB3.out).keep HM.out.2 (fun k hk hk2 => by have := hk.1; have := hk2.2; omega))).mono ?_
        rintro e w5 ⟨rfl, hb5⟩
        go_wp2_with fail
        refine (HAL.out _).mono ?_
        rintro e w6 ⟨rfl, hb6⟩
        go_wp2_with fail
        go_ret
        exact ⟨rfl, btr (btr HBS.out hb5 (Nat.le_refl _)) hb6 (Nat.le_refl _)⟩
    · by_cases hE : chkE m k tq = 0
      · obtain ⟨hk0, hk1, hacc⟩ := chkE_zero hE
        obtain ⟨n, rfl⟩ : ∃ n : Nat, k = n := ⟨k.toNat, by omega⟩
        have HDD := Lib.hid (show fillD m tq n v = putN m (tq / 8).toNat (fun _ => v) n from by unfold fillD; rw [if_pos hE, Int.toNat_natCast])
        refine (Words_some frm n HS1.out HFR.out).mono ?_
        rintro e w3 ⟨⟨P, sl, sc, E0, rfl⟩, hb3⟩
        have HB3 := Lib.hid hb3
        clear hb3
        go_wp2_with fail
        refine (Fill_any tq n v (HS1.out.below HB3.out) HTR.out).mono ?_
        rintro e w4 ⟨rfl, hM⟩
        have HM := Lib.hid hM
        have hbl := (btr (btr HB1.out HB2.out (Nat.le_refl _)) HB3.out (Nat.le_refl _)).trans (hM.2.below (Nat.le_trans (Nat.le_trans HB1.out.size HB2.out.size) HB3.out.size) nwlo)
        have HBS := Lib.hid hbl
        clear hM hbl
        rw [hE]
        clear hE
        have HZ1 := Lib.hid HB1.out.size
        have HZ2 := Lib.hid HB2.out.size
        have HZ3 := Lib.hid HB3.out.size
        have HZ4 := Lib.hid HM.out.2.size
        have HT := Lib.hid ((HS2.out.below HB3.out).keep HM.out.2 (fun k hk hk2 => by have := hk.1; have := hk2.2; omega))
        have HWF := Lib.hid HS1.out.wf
        clear HB1 HB2 HB3 HS1 HS2
        go_wp2_with fail
        go_loopw [20] (fun i wr => ∃ j : Nat, j ≤ n ∧ i = .int .i64 j ∧ Mut w4 (Nw w1 w2) C (putN m (tq / 8).toNat (fun _ => v) j) wr) (fun i _ => n - (intOf i).toNat)
        case atStart => exact ⟨0, by omega, rfl, Mut.same HT.out (Below.refl _ _)⟩
        case round =>
          obtain ⟨j, hj, rfl, hMr⟩ := hrel
          have HMr := Lib.hid hMr
          have hlo : ∀ k, Nw w1 w2 k → w.heap.size ≤ k := fun k hk => by have := hk.1; have := HZ1.out; omega
          have hbl := hMr.bel HBS.out hlo
          have HBL := Lib.hid hbl
          clear hMr hlo hbl
          by_cases hlt : j < n
          · obtain ⟨⟨ht0, ht1⟩, hc, hd⟩ := put_step HWF.out (fun _ => v) hacc hlt
            have hw := Write_any (tq + 8 * j) v HMr.out.1 ⟨by omega, by omega⟩
            rw [hc, hd, Int.mul_comm 8 (j : Int)] at hw
            have HW := Lib.hid hw
            clear hc hd hw
            go_wp2_with fail
            refine HW.out.mono ?_
            rintro e w5 ⟨rfl, hM5⟩
            have HM5 := Lib.hid hM5
            clear hM5
            go_wp2_with fail
            go_roundw
            case rel => exact ⟨j + 1, by omega, by go_num, HMr.out.trans HM5.out⟩
            case measure => simp [intOf]; omega
          · obtain rfl : j = n := by omega
            have h1 := HM.out.1.keep HMr.out.2 (fun k hk hk2 => by have := hk2.1; have := hk2.2; have := HZ3.out; rcases hk with hk | hk; have := hk.2; omega; have := hk.1; omega)
            have h2 := HMr.out.1
            rw [HDD.out] at h1
            have HX := Lib.hid (alike_any h1 h2)
            clear h1 h2 hacc
            go_wp2_with fail
            refine HX.out.mono ?_
            rintro e w5 ⟨rfl, hb5⟩
            go_wp2_with fail
            refine (HAL.out _).mono ?_
            rintro e w6 ⟨rfl, hb6⟩
            go_wp2_with fail
            go_ret
            exact ⟨rfl, btr (btr HBL.out hb5 (Nat.le_refl _)) hb6 (Nat.le_refl _)⟩
      · refine (Words_some frm k HS1.out HFR.out).mono ?_
        rintro e w3 ⟨⟨P, sl, sc, E0, rfl⟩, hb3⟩
        have HB3 := Lib.hid hb3
        clear hb3
        go_wp2_with fail
        refine (Fill_any tq k v (HS1.out.below HB3.out) HTR.out).mono ?_
        rintro e w4 ⟨rfl, hM⟩
        rw [fillD_of hE] at hM
        have HM := Lib.hid hM
        have hbl := (btr (btr HB1.out HB2.out (Nat.le_refl _)) HB3.out (Nat.le_refl _)).trans (hM.2.below (Nat.le_trans (Nat.le_trans HB1.out.size HB2.out.size) HB3.out.size) nwlo)
        have HBS := Lib.hid hbl
        clear hM hbl
        generalize chkE m k tq = E at hE
        have hq : (E == 0) = false := by simpa using hE
        have hq' : (E != 0) = true := by simpa using hE
        clear hE
        go_wp2_with fail
        refine (alike_any HM.out.1 ((HS2.out.below HB3.out).keep HM.out.2 (fun k hk hk2 => by have := hk.1; have := hk2.2; omega))).mono ?_
        rintro e w5 ⟨rfl, hb5⟩
        go_wp2_with fail
        refine (HAL.out _).mono ?_
        rintro e w6 ⟨rfl, hb6⟩
        go_wp2_with fail
        go_ret
        exact ⟨rfl, btr (btr HBS.out hb5 (Nat.le_refl _)) hb6 (Nat.le_refl _)⟩

end Go.Proofs.Ytejjendklemebaa
