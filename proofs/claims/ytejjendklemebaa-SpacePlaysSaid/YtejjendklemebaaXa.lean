/- The statements about peaks, refusals and clones: what their calls return. -/
import Derived.Test.YtejjendklemebaaFc
namespace Go.Proofs.Ytejjendklemebaa
open Go.RowKit

/-- True, and nothing that lay before has changed. -/
def Yes (w : World) (e : Ending) (w' : World) : Prop := e = .returned (.bool true) ∧ Below w.heap.size w w'

theorem setM_pk (m : Mo) (s k : Nat) (v : Int) : (setM m s k v).pk = m.pk := rfl
theorem putN_pk (m : Mo) (i : Nat) (f : Nat → Int) : ∀ k, m.pk ≤ (putN m i f k).pk
  | 0 => Nat.le_refl _
  | k + 1 => Nat.le_trans (putN_pk m i f k) (Nat.le_max_left _ _)
theorem doM_pk (m : Mo) (x : Ac) : m.pk ≤ (doM m x).pk := by
  unfold doM mapD loseD fillD copyD
  repeat' split
  all_goals first | exact Nat.le_refl _ | exact putN_pk _ _ _ _
theorem mapD_n (m : Mo) (s k : Int) : (mapD m s k).n = m.n := by unfold mapD; split <;> rfl
theorem loseD_n (m : Mo) (s k v : Int) : (loseD m s k v).n = m.n := by unfold loseD; split <;> rfl
theorem fillD_n (m : Mo) (a k v : Int) : (fillD m a k v).n = m.n := by
  unfold fillD; split
  · exact putN_n _ _ _ _
  · rfl
theorem copyD_n (m : Mo) (a b k : Int) : (copyD m a b k).n = m.n := by
  unfold copyD; split
  · exact putN_n _ _ _ _
  · rfl
theorem doM_n (m : Mo) (x : Ac) : (doM m x).n = m.n := by
  unfold doM
  repeat' split
  all_goals first | exact mapD_n _ _ _ | exact loseD_n _ _ _ _ | exact fillD_n _ _ _ _ | exact copyD_n _ _ _ _ | rfl
theorem runM_n (m : Mo) (l : List Ac) : (runM m l).n = m.n := by
  induction l generalizing m with
  | nil => rfl
  | cons x l ih => exact (ih (doM m x)).trans (doM_n m x)

theorem do_at {O : Nat → Prop} {B : Nat} {m : Mo} {w : World} (x : Ac) (h : Sp w O B m) (hx : AcR x) :
    Calls Try.prog 21 #[.pointer (some ⟨B, 0, none⟩), .agg #[.int .i64 x.k, .int .i64 x.a, .int .i64 x.b, .int .i64 x.c]] w fun e w' => e = .returned (.int .i64 (doE m x)) ∧ Mut w O B (doM m x) w' := do_any x.k x.a x.b x.c h hx.a hx.b

theorem nwlo {w w1 : World} : ∀ k, Nw w w1 k → w.heap.size ≤ k := fun _ hk => hk.1

set_option maxRecDepth 100000 in
set_option maxHeartbeats 1000000 in
theorem peak_walk (p : Int) (A : Option Addr) (c : Nat) (l : List Ac) (w : World) (hp0 : 0 ≤ p) (hp1 : p ≤ 255) (hl : l.length ≤ 9223372036854775807) (hA : ActsAt w w.heap.size A l) : Calls Try.prog 7 #[.int .u8 p, .slice A l.length c] w (Yes w) := by
  have HAL := Lib.hid alive_any
  obtain ⟨n, hn⟩ : ∃ n : Nat, p % 64 + 1 = n := ⟨(p % 64 + 1).toNat, by omega⟩
  obtain ⟨L, hL⟩ : ∃ L, L = l.length := ⟨_, rfl⟩
  have HL := Lib.hid hL
  rw [← hL] at hl ⊢
  have HG := Lib.hid (fun w => great_any A L c w hl)
  have HMD := Lib.hid (fun w => made'_any p none 0 n [] w hn hp0 hp1 (by simp) (ActsAt.nil _ _))
  have HA := Lib.hid hA
  clear hA hL hn
  by_cases h40 : 40 < L
  · rw [decide_eq_true h40] at HG
    go_enter Try.func7, Try.ntmps7
    go_wp2_with (first
      | (go_at_call 12; refine (HG.out _).mono ?_; rintro e _ ⟨rfl, rfl⟩)
      | (go_at_call 13; refine (HAL.out _).mono ?_; rintro e w1 ⟨rfl, hb1⟩))
    go_ret
    exact ⟨rfl, hb1⟩
  · rw [decide_eq_false h40] at HG
    have hl2 : L ≤ 40 := by omega
    clear h40
    go_enter Try.func7, Try.ntmps7
    go_wp2_with (first
      | (go_at_call 12; refine (HG.out _).mono ?_; rintro e _ ⟨rfl, rfl⟩)
      | (go_at_call 20; refine (HMD.out _).mono ?_; rintro e w1 ⟨B, rfl, hb1, hs1⟩))
    have HB1 := Lib.hid hb1
    have HS1 := Lib.hid hs1
    clear hb1 hs1
    go_loopw [6, 7] (fun v i wr => ∃ (k q : Nat) (m : Mo), k ≤ L ∧ i = .int .i64 k ∧ v = .int .i64 q ∧ q ≤ m.pk ∧ Mut w1 (Nw w w1) B m wr) (fun _ i _ => L - (intOf i).toNat)
    case atStart => exact ⟨0, 0, _, by omega, rfl, rfl, Nat.zero_le _, Mut.same HS1.out (Below.refl _ _)⟩
    case round =>
      obtain ⟨k, v, m, hk, rfl, rfl, hv, hM⟩ := hrel
      have HM := Lib.hid hM
      have hbl := hM.bel HB1.out nwlo
      by_cases hlt : k < L
      · obtain ⟨x, hx⟩ : ∃ x, l[k]? = some x := ⟨_, List.getElem?_eq_getElem (by have := HL.out; omega)⟩
        obtain ⟨hr, b, o, rfl, hB, g1, g2, g3, g4⟩ := (HA.out.below hbl) k x hx
        have HD := Lib.hid (do_at x hM.1 hr)
        have hpk := doM_pk m x
        have hwf := doM_wf hM.1.wf x
        have hpd := hwf.d
        have hpp := hwf.p
        have hn2 := hwf.n2
        have hmp : (doM m x).dir ≤ (doM m x).mpd := dirS_map _ _
        have hmn : (doM m x).mpd ≤ (doM m x).n := mapS_le _ _
        have hvp : v ≤ (doM m x).pk := by omega
        clear hM hx hr hbl hwf hv hpk
        go_wp2_with fail
        refine HD.out.mono ?_
        rintro e w2 ⟨rfl, hM2⟩
        have HM2 := Lib.hid (HM.out.trans hM2)
        clear hM2
        have hs2 := HM2.out.1
        have P1 := Lib.hid (Peak_any hs2)
        have P2 := Lib.hid (Dirty_any hs2)
        have P3 := Lib.hid (Mapped_any hs2)
        have P4 := Lib.hid (fun w' (hb : Below w2.heap.size w2 w') => Mapped_any (hs2.below hb))
        have P5 := Lib.hid (fun w' (hb : Below w2.heap.size w2 w') => Pages_any (hs2.below hb))
        have HKP := Lib.hid (Nat.le_refl (doM m x).pk)
        have P6 := Lib.hid (fun w' (hb : Below w2.heap.size w2 w') => Peak_any (hs2.below hb))
        clear hs2
        have hx2 := HM2
        generalize doM m x = m2 at *
        obtain ⟨K, hK⟩ : ∃ K, K = m2.pk := ⟨_, rfl⟩
        obtain ⟨D, hD⟩ : ∃ K, K = m2.dir := ⟨_, rfl⟩
        obtain ⟨M, hMm⟩ : ∃ K, K = m2.mpd := ⟨_, rfl⟩
        obtain ⟨N, hN⟩ : ∃ K, K = m2.n := ⟨_, rfl⟩
        rw [← hK] at P1 P6 hpd hpp hvp
        rw [← hD] at P2 hpd hmp
        rw [← hMm] at P3 P4 hmp hmn
        rw [← hN] at P5 hpp hn2 hmn
        have HKK := Lib.hid hK
        clear hx2 hK hD hMm hN
        have hb0 := Below.refl w2.heap.size w2
        go_wp2_with fail
        refine P1.out.mono ?_
        rintro e _ ⟨rfl, rfl⟩
        go_wp2_with fail
        refine P1.out.mono ?_
        rintro e _ ⟨rfl, rfl⟩
        go_wp2_with fail
        refine P2.out.mono ?_
        rintro e _ ⟨rfl, rfl⟩
        go_wp2_with fail
        refine P2.out.mono ?_
        rintro e _ ⟨rfl, rfl⟩
        go_wp2_with fail
        refine P3.out.mono ?_
        rintro e w3 ⟨rfl, hb3⟩
        go_wp2_with fail
        refine (P4.out _ hb3).mono ?_
        rintro e w4 ⟨rfl, hb4⟩
        have hb5 := btr hb3 hb4 (Nat.le_refl _)
        go_wp2_with fail
        refine (P5.out _ hb5).mono ?_
        rintro e _ ⟨rfl, rfl⟩
        go_wp2_with fail
        refine (P6.out _ hb5).mono ?_
        rintro e _ ⟨rfl, rfl⟩
        go_wp2_with fail
        go_roundw
        case rel => exact ⟨k + 1, K, m2, by omega, by go_num, rfl, (by rw [HKK.out]; exact Nat.le_refl _), HM2.out.then hb5⟩
        case measure => simp [intOf]; omega
      · go_wp2_with (go_at_call 13; refine (HAL.out _).mono ?_; rintro e w3 ⟨rfl, hb3⟩)
        go_ret
        exact ⟨rfl, btr hbl hb3 (Nat.le_refl _)⟩

/-- The calls that are refused change nothing. -/
theorem do_err {m : Mo} {x : Ac} (h : doE m x ≠ 0) : doM m x = m := by
  unfold doE at h
  unfold doM
  split
  · rename_i h0; rw [if_pos h0] at h; exact mapD_of h
  · rename_i h0; rw [if_neg h0] at h
    split
    · rename_i h1; rw [if_pos h1] at h; exact loseD_of h
    · rename_i h1; rw [if_neg h1] at h
      split
      · rename_i h2; rw [if_pos h2] at h; exact loseD_of h
      · rename_i h2; rw [if_neg h2] at h
        split
        · rename_i h4; rw [if_neg (by omega), if_pos h4] at h; exact fillD_of h
        · rename_i h4
          split
          · rename_i h6; rw [if_neg (by omega), if_neg h4, if_neg (by omega), if_pos h6] at h; exact fillD_of h
          · rename_i h6
            split
            · rename_i h7; rw [if_neg (by omega), if_neg h4, if_neg (by omega), if_neg h6, if_pos h7] at h; exact copyD_of h
            · rfl

set_option maxRecDepth 100000 in
set_option maxHeartbeats 1000000 in
theorem refuses_walk (p : Int) (A : Option Addr) (c : Nat) (l : List Ac) (x : Ac) (w : World) (hp0 : 0 ≤ p) (hp1 : p ≤ 255) (hl : l.length ≤ 9223372036854775807) (hA : ActsAt w w.heap.size A l) (hx : AcR x) :
    Calls Try.prog 9 #[.int .u8 p, .slice A l.length c, .agg #[.int .i64 x.k, .int .i64 x.a, .int .i64 x.b, .int .i64 x.c]] w (Yes w) := by
  have HAL := Lib.hid alive_any
  obtain ⟨n, hn⟩ : ∃ n : Nat, p % 64 + 1 = n := ⟨(p % 64 + 1).toNat, by omega⟩
  have HMD := Lib.hid (fun w hA => made'_any p A c n l w hn hp0 hp1 hl hA)
  obtain ⟨L, hL⟩ : ∃ L, L = l.length := ⟨_, rfl⟩
  have HL := Lib.hid hL
  rw [← hL] at hl HMD ⊢
  have HG := Lib.hid (fun w => great_any A L c w hl)
  obtain ⟨W0, hW, hb0, hz, c0, c1, c2, c3⟩ := new4 w (.int .i64 x.k) (.int .i64 x.a) (.int .i64 x.b) (.int .i64 x.c) 30
  have HA := Lib.hid ((hA.below hb0).more hb0.size)
  have HB0 := Lib.hid hb0
  have HX := Lib.hid hx
  clear hA hL hn hb0 hx
  by_cases h40 : 40 < L
  · rw [decide_eq_true h40] at HG
    go_enter Try.func9, Try.ntmps9
    go_wp2_with (first
      | (go_at_call 12; refine (HG.out _).mono ?_; rintro e _ ⟨rfl, rfl⟩)
      | (go_at_call 13; refine (HAL.out _).mono ?_; rintro e w1 ⟨rfl, hb1⟩))
    go_ret
    exact ⟨rfl, btr HB0.out hb1 (Nat.le_refl _)⟩
  · rw [decide_eq_false h40] at HG
    clear h40
    go_enter Try.func9, Try.ntmps9
    go_wp2_with (first
      | (go_at_call 12; refine (HG.out _).mono ?_; rintro e _ ⟨rfl, rfl⟩))
    refine (HMD.out _ HA.out).mono ?_
    rintro e w1 ⟨B, rfl, hb1, hs1⟩
    go_wp2_with fail
    refine (Clone_any hs1).mono ?_
    rintro e w2 ⟨C, rfl, hb2, hs2⟩
    have d0 := (hb2.cell (p := ⟨w.heap.size, 0, none⟩) (Nat.lt_of_lt_of_le hz hb1.size)).trans ((hb1.cell (p := ⟨w.heap.size, 0, none⟩) hz).trans c0)
    have d1 := (hb2.cell (p := ⟨w.heap.size, 1, none⟩) (Nat.lt_of_lt_of_le hz hb1.size)).trans ((hb1.cell (p := ⟨w.heap.size, 1, none⟩) hz).trans c1)
    have d2 := (hb2.cell (p := ⟨w.heap.size, 2, none⟩) (Nat.lt_of_lt_of_le hz hb1.size)).trans ((hb1.cell (p := ⟨w.heap.size, 2, none⟩) hz).trans c2)
    have d3 := (hb2.cell (p := ⟨w.heap.size, 3, none⟩) (Nat.lt_of_lt_of_le hz hb1.size)).trans ((hb1.cell (p := ⟨w.heap.size, 3, none⟩) hz).trans c3)
    have HB1 := Lib.hid hb1
    have HB2 := Lib.hid hb2
    have HS1 := Lib.hid (hs1.below hb2)
    have HS2 := Lib.hid hs2
    clear hb1 hb2 hs1 hs2 c0 c1 c2 c3 hz
    have HER := Lib.hid (do_err (m := runM (newM n) l) (x := x))
    go_wp2_with fail
    refine (do_at x HS1.out HX.out).mono ?_
    rintro e w3 ⟨rfl, hM⟩
    have HM := Lib.hid hM
    have HB3 := Lib.hid ((btr HB1.out HB2.out (Nat.le_refl _)).trans (hM.2.below (Nat.le_trans HB1.out.size HB2.out.size) nwlo))
    clear hM
    generalize doE (runM (newM n) l) x = E at HER
    by_cases hE : E = 0
    · subst hE
      clear HER
      go_wp2_with fail
      refine (HAL.out _).mono ?_
      rintro e w4 ⟨rfl, hb4⟩
      go_wp2_with fail
      go_ret
      exact ⟨rfl, btr HB0.out (btr HB3.out hb4 (Nat.le_refl _)) (Nat.le_refl _)⟩
    · have HEQ := Lib.hid (HER.out hE)
      have hq : (E == 0) = false := by simpa using hE
      clear hE
      go_wp2_with fail
      have ht := HS2.out.keep HM.out.2 (fun k hk hk2 => by have := hk.1; have := hk2.2; omega)
      have hs := HM.out.1
      rw [HEQ.out] at hs
      refine (alike_any hs ht).mono ?_
      rintro e w4 ⟨rfl, hb4⟩
      clear ht hs
      go_wp2_with fail
      refine (HAL.out _).mono ?_
      rintro e w5 ⟨rfl, hb5⟩
      go_wp2_with fail
      go_ret
      exact ⟨rfl, btr HB0.out (btr (btr HB3.out hb4 (Nat.le_refl _)) hb5 (Nat.le_refl _)) (Nat.le_refl _)⟩

set_option maxRecDepth 100000 in
set_option maxHeartbeats 1000000 in
theorem clones_walk (p : Int) (A A2 : Option Addr) (c c2 : Nat) (l l2 : List Ac) (side : Bool) (w : World) (hp0 : 0 ≤ p) (hp1 : p ≤ 255) (hl : l.length ≤ 9223372036854775807) (hA : ActsAt w w.heap.size A l) (hl2 : l2.length ≤ 9223372036854775807) (hA2 : ActsAt w w.heap.size A2 l2) :
    Calls Try.prog 11 #[.int .u8 p, .slice A l.length c, .slice A2 l2.length c2, .bool side] w (Yes w) := by
  have HAL := Lib.hid alive_any
  obtain ⟨n, hn⟩ : ∃ n : Nat, p % 64 + 1 = n := ⟨(p % 64 + 1).toNat, by omega⟩
  have HMD := Lib.hid (fun w hA => made'_any p A c n l w hn hp0 hp1 hl hA)
  obtain ⟨L, hL⟩ : ∃ L, L = l.length := ⟨_, rfl⟩
  rw [← hL] at hl HMD ⊢
  obtain ⟨L2, hL2⟩ : ∃ L, L = l2.length := ⟨_, rfl⟩
  have HL2 := Lib.hid hL2
  rw [← hL2] at hl2 ⊢
  have HG := Lib.hid (fun w => great_any A L c w hl)
  have HG2 := Lib.hid (fun w => great_any A2 L2 c2 w hl2)
  have HA := Lib.hid hA
  have HA2 := Lib.hid hA2
  clear hA hL hn hL2 hA2
  by_cases h40 : 40 < L
  · rw [decide_eq_true h40] at HG
    go_enter Try.func11, Try.ntmps11
    go_wp2_with (first
      | (go_at_call 12; refine (HG.out _).mono ?_; rintro e _ ⟨rfl, rfl⟩)
      | (go_at_call 13; refine (HAL.out _).mono ?_; rintro e w1 ⟨rfl, hb1⟩))
    go_ret
    exact ⟨rfl, hb1⟩
  · rw [decide_eq_false h40] at HG
    by_cases h42 : 40 < L2
    · rw [decide_eq_true h42] at HG2
      clear h40
      go_enter Try.func11, Try.ntmps11
      go_wp2_with fail
      refine (HG.out _).mono ?_; rintro e _ ⟨rfl, rfl⟩
      go_wp2_with fail
      refine (HG2.out _).mono ?_; rintro e _ ⟨rfl, rfl⟩
      go_wp2_with fail
      refine (HAL.out _).mono ?_; rintro e w1 ⟨rfl, hb1⟩
      go_wp2_with fail
      go_ret
      exact ⟨rfl, hb1⟩
    · rw [decide_eq_false h42] at HG2
      have h43 : L2 ≤ 40 := by omega
      clear h40 h42
      go_enter Try.func11, Try.ntmps11
      go_wp2_with fail
      refine (HG.out _).mono ?_; rintro e _ ⟨rfl, rfl⟩
      go_wp2_with fail
      refine (HG2.out _).mono ?_; rintro e _ ⟨rfl, rfl⟩
      go_wp2_with fail
      refine (HMD.out _ HA.out).mono ?_
      rintro e w1 ⟨B, rfl, hb1, hs1⟩
      go_wp2_with fail
      refine (HMD.out _ ((HA.out.below hb1).more hb1.size)).mono ?_
      rintro e w2 ⟨U, rfl, hb2, hu2⟩
      have hs2 := hs1.below hb2
      clear hs1
      go_wp2_with fail
      refine (Clone_any hs2).mono ?_
      rintro e w3 ⟨C, rfl, hb3, ht3⟩
      have HB3 := Lib.hid (btr (btr hb1 hb2 (Nat.le_refl _)) hb3 (Nat.le_refl _))
      have HZ1 := Lib.hid hb1.size
      have HZ2 := Lib.hid hb2.size
      have HS := Lib.hid (hs2.below hb3)
      have HU := Lib.hid (hu2.below hb3)
      have HT := Lib.hid ht3
      clear hb1 hb2 hb3 hs2 hu2 ht3
      go_wp2_with fail
      cases side
      · go_loopw [12] (fun i wr => ∃ (k : Nat) (m : Mo), k ≤ L2 ∧ i = .int .i64 k ∧ Mut w3 (Nw w2 w3) C m wr) (fun i _ => L2 - (intOf i).toNat)
        case atStart => exact ⟨0, _, by omega, rfl, Mut.same HT.out (Below.refl _ _)⟩
        case round =>
          obtain ⟨k, m, hk, rfl, hM⟩ := hrel
          have HM := Lib.hid hM
          have hlo : ∀ k, Nw w2 w3 k → w.heap.size ≤ k := fun k hk => by have := hk.1; have := HZ1.out; have := HZ2.out; omega
          have hbl := hM.bel HB3.out hlo
          have HBL := Lib.hid hbl
          by_cases hlt : k < L2
          · obtain ⟨x, hx⟩ : ∃ x, l2[k]? = some x := ⟨_, List.getElem?_eq_getElem (by have := HL2.out; omega)⟩
            obtain ⟨hr, b, o, rfl, hB, g1, g2, g3, g4⟩ := (HA2.out.below hbl) k x hx
            have HD := Lib.hid (do_at x hM.1 hr)
            clear hM hx hr hbl hlo
            go_wp2_with fail
            refine HD.out.mono ?_
            rintro e w4 ⟨rfl, hM2⟩
            have HM2 := Lib.hid hM2
            clear hM2
            go_wp2_with fail
            go_roundw
            case rel => exact ⟨k + 1, _, by omega, by go_num, HM.out.trans HM2.out⟩
            case measure => simp [intOf]; omega
          · clear hM hbl hlo
            go_wp2_with fail
            have h1 := HS.out.keep HM.out.2 (fun k hk hk2 => by have := hk.2; have := hk2.1; have := HZ2.out; omega)
            have h2 := HU.out.keep HM.out.2 (fun k hk hk2 => by have := hk.2; have := hk2.1; omega)
            refine (alike_any h1 h2).mono ?_
            rintro e w4 ⟨rfl, hb4⟩
            clear h1 h2
            go_wp2_with fail
            refine (HAL.out _).mono ?_
            rintro e w5 ⟨rfl, hb5⟩
            go_wp2_with fail
            go_ret
            exact ⟨rfl, btr (btr HBL.out hb4 (Nat.le_refl _)) hb5 (Nat.le_refl _)⟩
      · go_loopw [12] (fun i wr => ∃ (k : Nat) (m : Mo), k ≤ L2 ∧ i = .int .i64 k ∧ Mut w3 (Nw w w1) B m wr) (fun i _ => L2 - (intOf i).toNat)
        case atStart => exact ⟨0, _, by omega, rfl, Mut.same HS.out (Below.refl _ _)⟩
        case round =>
          obtain ⟨k, m, hk, rfl, hM⟩ := hrel
          have HM := Lib.hid hM
          have hbl := hM.bel HB3.out nwlo
          have HBL := Lib.hid hbl
          by_cases hlt : k < L2
          · obtain ⟨x, hx⟩ : ∃ x, l2[k]? = some x := ⟨_, List.getElem?_eq_getElem (by have := HL2.out; omega)⟩
            obtain ⟨hr, b, o, rfl, hB, g1, g2, g3, g4⟩ := (HA2.out.below hbl) k x hx
            have HD := Lib.hid (do_at x hM.1 hr)
            clear hM hx hr hbl
            go_wp2_with fail
            refine HD.out.mono ?_
            rintro e w4 ⟨rfl, hM2⟩
            have HM2 := Lib.hid hM2
            clear hM2
            go_wp2_with fail
            go_roundw
            case rel => exact ⟨k + 1, _, by omega, by go_num, HM.out.trans HM2.out⟩
            case measure => simp [intOf]; omega
          · clear hM hbl
            go_wp2_with fail
            have h1 := HT.out.keep HM.out.2 (fun k hk hk2 => by have := hk.1; have := hk2.2; have := HZ2.out; omega)
            have h2 := HU.out.keep HM.out.2 (fun k hk hk2 => by have := hk.1; have := hk2.2; omega)
            refine (alike_any h1 h2).mono ?_
            rintro e w4 ⟨rfl, hb4⟩
            clear h1 h2
            go_wp2_with fail
            refine (HAL.out _).mono ?_
            rintro e w5 ⟨rfl, hb5⟩
            go_wp2_with fail
            go_ret
            exact ⟨rfl, btr (btr HBL.out hb4 (Nat.le_refl _)) hb5 (Nat.le_refl _)⟩

end Go.Proofs.Ytejjendklemebaa
