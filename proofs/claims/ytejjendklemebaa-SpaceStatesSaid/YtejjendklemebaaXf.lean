/- The statement about states: what its call returns. -/
import Derived.Test.YtejjendklemebaaFd
import Derived.Test.YtejjendklemebaaXa
import Derived.IntWalk
import Derived.Deep.RegionHeld3
namespace Go.Proofs.Ytejjendklemebaa
open Go.RowKit

theorem bdr' {W w1 : World} {k : Nat} (h : Below (W.drewN k).heap.size (W.drewN k) w1) : Below W.heap.size W w1 := (belowN (Below.refl _ _) k).trans h
theorem cl3 (w : World) (t : TypeId) : Cl (w.alloc (.cells #[.int .i64 0, .int .i64 0, .int .i64 0] t)) w.heap.size 3 (fun _ => .int .i64 0) := by
  refine ⟨fun i hi => ?_, fun i hi => ?_⟩
  · have : i = 0 ∨ i = 1 ∨ i = 2 := by omega
    rcases this with rfl | rfl | rfl <;> go_simp
  · have : i = 0 ∨ i = 1 ∨ i = 2 := by omega
    rcases this with rfl | rfl | rfl <;> go_simp

set_option maxRecDepth 100000 in
set_option maxHeartbeats 4000000 in
theorem states_walk (p : Int) (A : Option Addr) (c : Nat) (l : List Ac) (ad : Int) (w : World) (hp0 : 0 ≤ p) (hp1 : p ≤ 255) (hl : l.length ≤ 9223372036854775807) (hA : ActsAt w w.heap.size A l) (had : InR ad) :
    Calls Try.prog 6 #[.int .u8 p, .slice A l.length c, .int .i64 ad] w (Yes w) := by
  have HAL := Lib.hid alive_any
  obtain ⟨N0, hn⟩ : ∃ n : Nat, p % 64 + 1 = n := ⟨(p % 64 + 1).toNat, by omega⟩
  have HMD := Lib.hid (fun w hA => made'_any p A c N0 l w hn hp0 hp1 hl hA)
  obtain ⟨L, hL⟩ : ∃ L, L = l.length := ⟨_, rfl⟩
  rw [← hL] at hl HMD ⊢
  have HG := Lib.hid (fun w => great_any A L c w hl)
  have HA := Lib.hid hA
  have HAD := Lib.hid had
  clear hA hL hn had
  by_cases h40 : 40 < L
  · rw [decide_eq_true h40] at HG
    go_enter Try.func6, Try.ntmps6
    go_wp2_with (first
      | (go_at_call 12; refine (HG.out _).mono ?_; rintro e _ ⟨rfl, rfl⟩)
      | (go_at_call 13; refine (HAL.out _).mono ?_; rintro e w1 ⟨rfl, hb1⟩))
    go_ret
    exact ⟨rfl, hb1⟩
  · rw [decide_eq_false h40] at HG
    clear h40 hl hp0 hp1
    go_enter Try.func6, Try.ntmps6
    go_wp2_with (first
      | (go_at_call 12; refine (HG.out _).mono ?_; rintro e _ ⟨rfl, rfl⟩))
    refine (HMD.out _ HA.out).mono ?_
    rintro e w1 ⟨B, rfl, hb1, hs1⟩
    have HB1 := Lib.hid hb1
    clear hb1 HMD HG HA
    generalize runM (newM N0) l = m at hs1
    have HP := Lib.hid (Pages_any hs1)
    have hn2 := hs1.wf.n2
    have HS1 := Lib.hid hs1
    clear hs1
    obtain ⟨n, hn⟩ : ∃ n, n = m.n := ⟨_, rfl⟩
    rw [← hn] at HP hn2
    have HN := Lib.hid hn
    clear hn
    have hmk := run_make_row' (P := Try.prog) 49 3 (.int .i64 0) 8 Try.underlying49 Try.info3 rfl .i64 .i64 n (by omega) (by omega)
    obtain ⟨W2, hW2⟩ : ∃ W2, ((w1.alloc (.cells (madeCells #[.int .i64 0] n) 3)).alloc (.cells #[.int .i64 0, .int .i64 0, .int .i64 0] 50)) = W2 := ⟨_, rfl⟩
    have hb12 : Below w1.heap.size w1 W2 := by rw [← hW2]; exact (bnew _ _).alloc (by simp) _
    have hT0 : Cl W2 w1.heap.size m.n (fun _ => .int .i64 0) := by
      rw [← hW2, ← HN.out]
      exact (cl_made w1 n).alloc (by simp) _
    have hS0 : Cl W2 (w1.heap.size + 1) 3 (fun _ => .int .i64 0) := by
      rw [← hW2]
      have := cl3 (w1.alloc (.cells (madeCells #[.int .i64 0] n) 3)) 50
      rwa [show (w1.alloc (.cells (madeCells #[.int .i64 0] n) 3)).heap.size = w1.heap.size + 1 from by simp] at this
    have HT0 := Lib.hid (Told.first HS1.out.wf hT0 hS0 (by omega))
    have HB2 := Lib.hid (btr HB1.out hb12 (Nat.le_refl _))
    have HS2 := Lib.hid (HS1.out.below hb12)
    have HLT := Lib.hid (fun k (hk : Nw w w1 k) => show k < w1.heap.size from hk.2)
    have HWF := Lib.hid HS1.out.wf
    have HLO := Lib.hid HB1.out.size
    clear hb12 hT0 hS0
    go_wp2_with fail
    refine HP.out.mono ?_
    rintro e _ ⟨rfl, rfl⟩
    go_wp2_with fail
    clear hW2 hmk
    generalize w1.heap.size = T at HT0 HLT HLO ⊢
    have HSP := Lib.hid (fun wr (hk : Keep (Two T (T + 1)) W2 wr) => HS2.out.keep hk (fun k h1 h2 => by have := HLT.out k h1; rcases h2 with h2 | h2 <;> omega))
    go_loopw [11] (fun i wr => ∃ s : Nat, s ≤ 3 ∧ i = .int .i64 s ∧ Told W2 wr m T (T + 1) s 0 0) (fun i _ => 3 - (intOf i).toNat)
    case atStart => exact ⟨0, by omega, rfl, HT0.out⟩
    case round =>
      obtain ⟨s, hs, rfl, hTd⟩ := hrel
      have HTD := Lib.hid hTd
      clear hTd
      by_cases hs3 : s < 3
      · have HRU := Lib.hid (Runs_any (s : Int) (HSP.out _ HTD.out.k))
        go_wp2_with fail
        refine HRU.out.mono ?_
        rintro e w3 ⟨Ar, cr, rfl, hr, hb3⟩
        have hT3 := HTD.out.then hb3
        have hlen : (runsL m.st s m.n).length ≤ n := by have := rr_len m.st s m.n; have := HN.out; unfold runsL; rw [List.length_reverse]; omega
        obtain ⟨M, hM⟩ : ∃ M, M = (runsL m.st s m.n).length := ⟨_, rfl⟩
        rw [← hM] at hlen ⊢
        have HMM := Lib.hid hM
        have HR := Lib.hid hr
        have HT3 := Lib.hid hT3
        have HNG := Lib.hid HTD.out.tl
        have HNS := Lib.hid HTD.out.sl
        clear hM hr hT3 hb3
        go_wp2_with fail
        go_loopw [13] (fun i wq => ∃ i' : Nat, i' ≤ M ∧ i = .int .i64 i' ∧ Told W2 wq m T (T + 1) s (endAt (runsL m.st s m.n) i') (sumR ((runsL m.st s m.n).take i')) ∧ Keep (Two T (T + 1)) w3 wq) (fun i _ => M - (intOf i).toNat)
        case atStart => exact ⟨0, by omega, rfl, HT3.out, Keep.refl _ _⟩
        case round =>
          obtain ⟨i, hi, rfl, hTd, hK⟩ := hrel
          have hqn : sumR ((runsL m.st s m.n).take i) ≤ n := by have := sumR_le m.st s m.n i; have := HN.out; omega
          obtain ⟨qs, hqs⟩ : ∃ q, sumR ((runsL m.st s m.n).take i) = q := ⟨_, rfl⟩
          rw [hqs] at hTd hqn
          have HQS := Lib.hid hqs
          have HTQ := Lib.hid hTd
          have HKQ := Lib.hid hK
          clear hTd hK hqs
          by_cases hlt : i < M
          · obtain ⟨⟨a, b⟩, hc⟩ : ∃ r, (runsL m.st s m.n)[i]? = some r := ⟨_, List.getElem?_eq_getElem (by have := HMM.out; omega)⟩
            have hra := runs_at _ _ _ _ _ _ hc
            have HRA := Lib.hid hra
            have ha1 := hra.b1
            have ha2 := hra.le
            rw [← HN.out] at ha2
            have hrk := HR.out.keep HKQ.out (fun k hk hk2 => by have := HNG.out; have := HNS.out; rcases hk2 with hk2 | hk2 <;> omega)
            obtain ⟨g, rfl, hg1, hg2, e1, e2⟩ := hrk i a b hc
            have HRK := Lib.hid hrk
            have HC := Lib.hid hc
            clear hra hrk hc
            have d1 : decide ((b : Int) < 1) = false := by simp; omega
            have d2 : decide ((a : Int) < 0) = false := by simp
            have d3 : decide ((n : Int) < (b : Int)) = false := by simp; omega
            have d4 : decide ((n : Int) < (a : Int) + (b : Int)) = false := by simp; omega
            have d5 : decide (n < b) = false := by simp; omega
            have d6 : decide (n < a + b) = false := by simp; omega
            have d7 : decide (b < 1) = false := by simp; omega
            have u1 : IntKind.i64.wrap ((a : Int) + (b : Int)) = (a : Int) + (b : Int) := IntWalk.i64_in _ (by omega)
            have x1 : (i : Int) < (M : Int) := by omega
            by_cases hi0 : i = 0
            · have x2 : decide (0 < i) = false := by simp; omega
              clear hi0
              go_wp2_with fail
              go_quiet (fail)
              clear x2 d1 d2 d3 d4 d5 d6 d7
              go_wp2_with fail
              clear e1 e2
              have HT4 := Lib.hid ((HTQ.out.then (belowN (Below.refl _ _) nq)).skip HRA.out.lo HRA.out.off)
              have HK4 := Lib.hid (HKQ.out.tr (Keep.of (belowN (Below.refl _ _) nq)))
              go_loopw [14] (fun v wz => ∃ q : Nat, a ≤ q ∧ q ≤ a + b ∧ v = .int .i64 q ∧ Told W2 wz m T (T + 1) s q qs ∧ Keep (Two T (T + 1)) w3 wz) (fun v _ => a + b - (intOf v).toNat)
              case atStart => exact ⟨a, by omega, by omega, rfl, HT4.out, HK4.out⟩
              case round =>
                obtain ⟨q, hq1, hq2, rfl, hTz, hKz⟩ := hrel
                have hrz := HR.out.keep hKz (fun k hk hk2 => by have := HNG.out; have := HNS.out; rcases hk2 with hk2 | hk2 <;> omega)
                obtain ⟨g', hgg, _, hg3, e1, e2⟩ := hrz i a b HC.out
                cases hgg
                have HTZ := Lib.hid hTz
                have HKZ := Lib.hid hKz
                clear hrz hTz hKz
                by_cases hqlt : q < a + b
                · have HSQ := Lib.hid (HRA.out.on q hq1 hqlt)
                  have hqn : q < n := by omega
                  obtain ⟨t1, t2⟩ := HTZ.out.cell (p := q) (by have := HN.out; omega) HSQ.out (Nat.le_refl _)
                  go_wp2_with fail
                  go_quiet (fail)
                  go_wp2_with fail
                  have HT5 := Lib.hid ((HTZ.out.then (belowN (Below.refl _ _) nq)).tick HSQ.out)
                  have HK5 := Lib.hid ((HKZ.out.tr (Keep.of (belowN (Below.refl _ _) nq))).set (a := ⟨T, q, none⟩) (.inl (.inl rfl)) (.int .i64 1))
                  refine (State_any (q : Int) (HSP.out _ HT5.out.k) ⟨by omega, by omega⟩).mono ?_
                  rintro e w6 ⟨rfl, hb6⟩
                  rw [stV_in (m := m) (p := q) (by have := HN.out; omega), HSQ.out]
                  go_wp2_with fail
                  go_roundw
                  case rel => exact ⟨q + 1, by omega, by omega, by go_num, HT5.out.then hb6, HK5.out.tr (Keep.of hb6)⟩
                  case measure => simp [intOf]; omega
                · have HQ := Lib.hid (show q = a + b by omega)
                  obtain ⟨z1, z2⟩ := HTZ.out.sum (by omega)
                  have y0 : (s : Int) < 3 := by omega
                  have y1 : (0 : Int) ≤ (s : Int) := by omega
                  go_wp2_with fail
                  go_quiet (fail)
                  clear u1 x1
                  go_wp2_with fail
                  go_region
                  have hT6 := (HTZ.out.then (belowN (Below.refl _ _) (nq + 1))).add b ((qs : Int) + b) rfl
                  rw [HQ.out, ← endAt_at HC.out, ← HQS.out, ← sumR_take HC.out] at hT6
                  rw [HQS.out] at hT6
                  have HT6 := Lib.hid hT6
                  have HK6 := Lib.hid ((HKZ.out.tr (Keep.of (belowN (Below.refl _ _) (nq + 1)))).set (a := ⟨T + 1, s, none⟩) (.inl (.inr rfl)) (.int .i64 ((qs : Int) + b)))
                  clear hT6 z1 z2 y0 y1 e1 e2
                  go_wp2_with fail
                  go_roundw
                  case rel => exact ⟨i + 1, by omega, by go_num, HT6.out, HK6.out⟩
                  case measure => simp [intOf]; omega
            · have x2 : decide (0 < i) = true := by simp; omega
              obtain ⟨⟨a', b'⟩, hc'⟩ : ∃ r, (runsL m.st s m.n)[i - 1]? = some r := ⟨_, List.getElem?_eq_getElem (by have := HMM.out; omega)⟩
              obtain ⟨g', hgg, _, _, p1, p2⟩ := HRK.out (i - 1) a' b' hc'
              cases hgg
              have hgap := HRA.out.gap (by omega)
              have hea := endAt_at hc'
              rw [show i - 1 + 1 = i from by omega] at hea
              rw [hea] at hgap
              have w1 : IntKind.i64.wrap ((i : Int) - 1) = (i : Int) - 1 := IntWalk.i64_in _ (by omega)
              have w2' : ((i : Int) - 1).toNat = i - 1 := by omega
              have w3' : (0 : Int) ≤ (i : Int) - 1 := by omega
              have w4' : (1 : Int) ≤ (i : Int) := by omega
              have w5' : (i : Int) - 1 < (M : Int) := by omega
              have w6' : 0 < i := by omega
              have w7' : 1 ≤ i := by omega
              have u2 : IntKind.i64.wrap ((a' : Int) + (b' : Int)) = (a' : Int) + (b' : Int) := IntWalk.i64_in _ (by omega)
              have d8 : decide ((a : Int) ≤ (a' : Int) + (b' : Int)) = false := by simp; omega
              have d9 : decide (a ≤ a' + b') = false := by simp; omega
              clear hi0 hc' hgap hea
              go_wp2_with fail
              go_quiet (fail)
              clear x2 w1 w2' w3' w4' w5' w6' w7' u2 d8 d9 p1 p2 d1 d2 d3 d4 d5 d6 d7
              go_wp2_with fail
              clear e1 e2
              have HT4 := Lib.hid ((HTQ.out.then (belowN (Below.refl _ _) nq)).skip HRA.out.lo HRA.out.off)
              have HK4 := Lib.hid (HKQ.out.tr (Keep.of (belowN (Below.refl _ _) nq)))
              go_loopw [14] (fun v wz => ∃ q : Nat, a ≤ q ∧ q ≤ a + b ∧ v = .int .i64 q ∧ Told W2 wz m T (T + 1) s q qs ∧ Keep (Two T (T + 1)) w3 wz) (fun v _ => a + b - (intOf v).toNat)
              case atStart => exact ⟨a, by omega, by omega, rfl, HT4.out, HK4.out⟩
              case round =>
                obtain ⟨q, hq1, hq2, rfl, hTz, hKz⟩ := hrel
                have hrz := HR.out.keep hKz (fun k hk hk2 => by have := HNG.out; have := HNS.out; rcases hk2 with hk2 | hk2 <;> omega)
                obtain ⟨g', hgg, _, hg3, e1, e2⟩ := hrz i a b HC.out
                cases hgg
                have HTZ := Lib.hid hTz
                have HKZ := Lib.hid hKz
                clear hrz hTz hKz
                by_cases hqlt : q < a + b
                · have HSQ := Lib.hid (HRA.out.on q hq1 hqlt)
                  have hqn : q < n := by omega
                  obtain ⟨t1, t2⟩ := HTZ.out.cell (p := q) (by have := HN.out; omega) HSQ.out (Nat.le_refl _)
                  go_wp2_with fail
                  go_quiet (fail)
                  go_wp2_with fail
                  have HT5 := Lib.hid ((HTZ.out.then (belowN (Below.refl _ _) nq)).tick HSQ.out)
                  have HK5 := Lib.hid ((HKZ.out.tr (Keep.of (belowN (Below.refl _ _) nq))).set (a := ⟨T, q, none⟩) (.inl (.inl rfl)) (.int .i64 1))
                  refine (State_any (q : Int) (HSP.out _ HT5.out.k) ⟨by omega, by omega⟩).mono ?_
                  rintro e w6 ⟨rfl, hb6⟩
                  rw [stV_in (m := m) (p := q) (by have := HN.out; omega), HSQ.out]
                  go_wp2_with fail
                  go_roundw
                  case rel => exact ⟨q + 1, by omega, by omega, by go_num, HT5.out.then hb6, HK5.out.tr (Keep.of hb6)⟩
                  case measure => simp [intOf]; omega
                · have HQ := Lib.hid (show q = a + b by omega)
                  obtain ⟨z1, z2⟩ := HTZ.out.sum (by omega)
                  have y0 : (s : Int) < 3 := by omega
                  have y1 : (0 : Int) ≤ (s : Int) := by omega
                  go_wp2_with fail
                  go_quiet (fail)
                  clear u1 x1
                  go_wp2_with fail
                  go_region
                  have hT6 := (HTZ.out.then (belowN (Below.refl _ _) (nq + 1))).add b ((qs : Int) + b) rfl
                  rw [HQ.out, ← endAt_at HC.out, ← HQS.out, ← sumR_take HC.out] at hT6
                  rw [HQS.out] at hT6
                  have HT6 := Lib.hid hT6
                  have HK6 := Lib.hid ((HKZ.out.tr (Keep.of (belowN (Below.refl _ _) (nq + 1)))).set (a := ⟨T + 1, s, none⟩) (.inl (.inr rfl)) (.int .i64 ((qs : Int) + b)))
                  clear hT6 z1 z2 y0 y1 e1 e2
                  go_wp2_with fail
                  go_roundw
                  case rel => exact ⟨i + 1, by omega, by go_num, HT6.out, HK6.out⟩
                  case measure => simp [intOf]; omega
          · have hT7 := HTQ.out.next (fun p hp hp2 => (runs_end m.st s m.n).2 p (by have := HMM.out; rw [← this, show M = i by omega]; exact hp) hp2) (by rw [← HQS.out, show i = (runsL m.st s m.n).length by have := HMM.out; omega, List.take_length, sumR_runs])
            have HT7 := Lib.hid hT7
            clear hT7
            go_wp2_with fail
            go_roundw
            case rel => exact ⟨s + 1, by omega, by go_num, HT7.out⟩
            case measure => simp [intOf]; omega
      · have hs3' : s = 3 := by omega
        have hT8 := HTD.out
        rw [hs3'] at hT8
        have HT8 := Lib.hid hT8
        clear hT8 hs3'
        go_wp2_with fail
        go_loopw [15] (fun i wz => ∃ q : Nat, q ≤ n ∧ i = .int .i64 q ∧ Told W2 wz m T (T + 1) 3 0 0) (fun i _ => n - (intOf i).toNat)
        case atStart => exact ⟨0, by omega, rfl, HT8.out⟩
        case round =>
          obtain ⟨q, hq, rfl, hTq⟩ := hrel
          have HTQ := Lib.hid hTq
          clear hTq
          by_cases hlt : q < n
          · have z1 := HTQ.out.last HWF.out (p := q) (by have := HN.out; omega)
            go_wp2_with fail
            go_roundw
            case rel => exact ⟨q + 1, by omega, by go_num, HTQ.out⟩
            case measure => simp [intOf]; omega
          · have hsp := HSP.out _ HTQ.out.k
            have HCL := Lib.hid (Clone_any hsp)
            have HSX := Lib.hid hsp
            have HBX := Lib.hid (HB2.out.trans (HTQ.out.k.below (N := w.heap.size) HB2.out.size (fun k hk => by have := HLO.out; rcases hk with hk | hk <;> omega)))
            obtain ⟨z1, z2⟩ := HTQ.out.sums
            have HZ := Lib.hid (And.intro z1 z2)
            have HZL := Lib.hid HTQ.out.sl
            clear hsp z1 z2
            go_wp2_with fail
            refine HCL.out.mono ?_
            rintro e w5 ⟨C, rfl, hb5, hs5⟩
            have HS5 := Lib.hid hs5
            have HB5 := Lib.hid hb5
            clear hb5 hs5
            go_wp2_with fail
            refine (Read_any ad (HSX.out.below HB5.out) HAD.out).mono ?_
            rintro e w6 ⟨rfl, hb6⟩
            have HB6 := Lib.hid hb6
            have hb56 := btr HB5.out hb6 (Nat.le_refl _)
            clear hb6
            have HSS := Lib.hid (HSX.out.below hb56)
            have HSC := Lib.hid (HS5.out.below HB6.out)
            have z1 := (hb56.cell (p := ⟨T + 1, 1, none⟩) HZL.out).trans HZ.out.1
            have z2 := (hb56.cell (p := ⟨T + 1, 2, none⟩) HZL.out).trans HZ.out.2
            have HB56 := Lib.hid hb56
            have HZL6 := Lib.hid (Nat.lt_of_lt_of_le HZL.out hb56.size)
            clear hb56
            generalize rdV m ad = V1
            generalize rdE m ad = V2
            have hcm : (m.mpd : Int) = (cntS m.st 1 m.n : Int) + (cntS m.st 2 m.n : Int) := by have := cnt_map HWF.out.s m.n; show ((mapS m.st m.n : Nat) : Int) = _; omega
            have hcd : m.dir = cntS m.st 2 m.n := rfl
            have hdp := HWF.out.d
            have hle : m.mpd ≤ m.n := mapS_le m.st m.n
            have HMP := Lib.hid (fun w' (hb : Below w6.heap.size w6 w') => by have := Mapped_any (HSS.out.below hb); rw [hcm] at this; exact this)
            have HDR := Lib.hid (fun w' (hb : Below w6.heap.size w6 w') => by have := Dirty_any (HSS.out.below hb); rw [hcd] at this; exact this)
            have HPK := Lib.hid (fun w' (hb : Below w6.heap.size w6 w') => Peak_any (HSS.out.below hb))
            have HAK := Lib.hid (fun w' (hb : Below w6.heap.size w6 w') => alike_any (HSS.out.below hb) (HSC.out.below hb))
            rw [hcd] at hdp
            have hc1 : cntS m.st 1 m.n + cntS m.st 2 m.n ≤ 1024 := by have := HN.out; omega
            generalize cntS m.st 1 m.n = c1 at *
            generalize cntS m.st 2 m.n = c2 at *
            generalize m.pk = pk at hdp HPK
            have HCL2 := Lib.hid hcd
            clear hcm hcd hle
            have HKP := Lib.hid (fun w' (hb : Below w6.heap.size w6 w') => And.intro ((hb.cell (p := ⟨T + 1, 1, none⟩) HZL6.out).trans z1) ((hb.cell (p := ⟨T + 1, 2, none⟩) HZL6.out).trans z2))
            have u1 : IntKind.i64.wrap ((c1 : Int) + (c2 : Int)) = (c1 : Int) + (c2 : Int) := IntWalk.i64_in _ (by omega)
            go_wp2_with fail
            go_region_held3 (fun w' => w'.cell? ⟨T + 1, 1, none⟩ = some (.int .i64 c1) ∧ w'.cell? ⟨T + 1, 2, none⟩ = some (.int .i64 c2)) (first | exact ⟨z1, z2⟩ | exact HKP.out _ hy1 | exact HKP.out _ hy2 | exact HKP.out _ hy3)
              (first
              | (go_at_call 26; refine (HAK.out _ (belowN (Below.refl _ _) _)).mono ?_; rintro e y1 ⟨rfl, hy1'⟩; have hy1 := bdr' hy1')
              | (go_at_call 27; refine (HMP.out _ hy1).mono ?_; rintro e y2 ⟨rfl, hy2'⟩; have hy2 := btr hy1 hy2' (Nat.le_refl _))
              | (go_at_call 28; refine (HDR.out _ hy2).mono ?_; rintro e _ ⟨rfl, rfl⟩)
              | (go_at_call 29; refine (HPK.out _ hy2).mono ?_; rintro e _ ⟨rfl, rfl⟩)
              | (go_at_call 13; refine (HAL.out _).mono ?_; rintro e y3 ⟨rfl, hy3'⟩; have hy3 := btr hy2 hy3' (Nat.le_refl _)))
            go_wp2_with fail
            go_ret
            exact ⟨rfl, btr HBX.out (btr HB56.out hy3 (Nat.le_refl _)) (Nat.le_refl _)⟩

end Go.Proofs.Ytejjendklemebaa
