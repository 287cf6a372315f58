/- Both spaces, side by side: the same state. -/
import Derived.Test.YtejjendklemebaaHa
namespace Go.Proofs.Ytejjendklemebaa
open Go.RowKit

theorem page_words {m : Mo} {q : Nat} (hq : q < m.n) (hs : m.st q ≠ 0) : chkE m 32 ((q : Int) * 256) = 0 := by
  have ha : accM m ((q : Int) * 256) 32 = true := decide_eq_true (.inr ⟨by omega, by omega, by omega, by omega, fun j hj => by
    rw [show (((q : Int) * 256 / 8).toNat + j) / 32 = q from by omega]
    exact hs⟩)
  unfold chkE
  rw [if_neg (by omega), if_pos ha]
theorem stV_two {m : Mo} {p : Int} (h : stV m p = 2) : ∃ q : Nat, p = q ∧ q < m.n ∧ m.st q = 2 := by
  unfold stV at h
  by_cases hp : 0 ≤ p ∧ p < m.n
  · rw [if_pos hp] at h
    exact ⟨p.toNat, by omega, by omega, h⟩
  · rw [if_neg hp] at h; omega

set_option maxRecDepth 100000 in
set_option maxHeartbeats 4000000 in
theorem Same_any {w0 w : World} {B R : Nat} {m : Mo} (h : Pr w0 w B R m) :
    Calls Try.prog 18 #[.pointer (some ⟨B, 0, none⟩), .pointer (some ⟨R, 0, none⟩)] w (PlayPost w0 B R m) := by
  have HP := Lib.hid h
  have hwf := h.wf
  have hn2 := hwf.n2
  have hd := hwf.d
  have hpk := hwf.p
  have hmp' : m.mpd ≤ m.n := mapS_le m.st m.n
  obtain ⟨O1, O2, h1, h2, _⟩ := h
  have H1 := Lib.hid h1
  have H2 := Lib.hid h2
  have HPG := Lib.hid (fun w' (hb : Below w.heap.size w w') => And.intro (Pages_any (h1.below hb)) (rPages_any (h2.below hb)))
  have HMP := Lib.hid (fun w' (hb : Below w.heap.size w w') => And.intro (Mapped_any (h1.below hb)) (rMapped_any (h2.below hb)))
  have HDR := Lib.hid (fun w' (hb : Below w.heap.size w w') => And.intro (Dirty_any (h1.below hb)) (rDirty_any (h2.below hb)))
  have HPK := Lib.hid (fun w' (hb : Below w.heap.size w w') => And.intro (Peak_any (h1.below hb)) (rPeak_any (h2.below hb)))
  have HRN := Lib.hid (fun s => by have := rr_len m.st s m.n; exact (show (runsL m.st s m.n).length ≤ m.n by unfold runsL; rw [List.length_reverse]; exact this))
  obtain ⟨n, hn⟩ : ∃ n, n = m.n := ⟨_, rfl⟩
  rw [← hn] at HPG
  have hn2' : n ≤ 1024 := by omega
  have HN := Lib.hid hn
  clear h1 h2 hn hwf
  generalize m.mpd = M at HMP hmp'
  generalize m.dir = D at HDR hd
  generalize m.pk = K at HPK hd hpk
  clear hmp' hd hpk
  have HB0 := Lib.hid (Below.refl w.heap.size w)
  go_enter Try.func18, Try.ntmps18
  go_wp2_with fail
  refine (HPG.out _ HB0.out).1.mono ?_
  rintro e _ ⟨rfl, rfl⟩
  go_wp2_with fail
  refine (HPG.out _ HB0.out).2.mono ?_
  rintro e _ ⟨rfl, rfl⟩
  go_wp2_with fail
  refine (HMP.out _ HB0.out).1.mono ?_
  rintro e w1 ⟨rfl, hb1⟩
  have HB1 := Lib.hid hb1
  clear hb1
  go_wp2_with fail
  refine (HMP.out _ HB1.out).2.mono ?_
  rintro e _ ⟨rfl, rfl⟩
  go_wp2_with fail
  refine (HDR.out _ HB1.out).1.mono ?_
  rintro e _ ⟨rfl, rfl⟩
  go_wp2_with fail
  refine (HDR.out _ HB1.out).2.mono ?_
  rintro e _ ⟨rfl, rfl⟩
  go_wp2_with fail
  refine (HPK.out _ HB1.out).1.mono ?_
  rintro e _ ⟨rfl, rfl⟩
  go_wp2_with fail
  refine (HPK.out _ HB1.out).2.mono ?_
  rintro e _ ⟨rfl, rfl⟩
  go_wp2_with fail
  go_loopw [5] (fun i wr => ∃ k : Int, (-1 ≤ k ∧ k ≤ 4) ∧ i = .int .i64 k ∧ Below w.heap.size w wr) (fun i _ => (4 - intOf i).toNat)
  case atStart => exact ⟨-1, by omega, rfl, HB1.out⟩
  case round =>
    obtain ⟨k, ⟨hk0, hk1⟩, rfl, hb⟩ := hrel
    have HB := Lib.hid hb
    clear hb
    by_cases hlt : k ≤ 3
    · have hln := HRN.out k
      have HRA := Lib.hid (Runs_any k (H1.out.below HB.out))
      have HRB := Lib.hid (fun w' (hb : Below w.heap.size w w') => rRuns_any k (H2.out.below hb))
      generalize runsL m.st k m.n = l at HRA HRB hln
      have hln2 : l.length ≤ 1024 := by omega
      clear hln
      go_wp2_with fail
      refine HRA.out.mono ?_
      rintro e w2 ⟨A, c, rfl, hr, hb2⟩
      have HR2 := Lib.hid hr
      have HB2 := Lib.hid (btr HB.out hb2 (Nat.le_refl _))
      clear hr hb2
      go_wp2_with fail
      refine (HRB.out _ HB2.out).mono ?_
      rintro e w3 ⟨A', c', rfl, hr, hb3⟩
      have HR3 := Lib.hid hr
      have HR2' := Lib.hid (HR2.out.below hb3)
      have HB3 := Lib.hid (btr HB2.out hb3 (Nat.le_refl _))
      clear hr hb3
      have HEQ := Lib.hid (RunsEq_any A A' c c' _ _ l w3 hln2 HR2'.out HR3.out)
      generalize l.length = L at HEQ ⊢
      clear hln2
      go_wp2_with fail
      refine HEQ.out.mono ?_
      rintro e w4 ⟨rfl, hb4⟩
      have HB4 := Lib.hid (btr HB3.out hb4 (Nat.le_refl _))
      clear hb4
      go_wp2_with fail
      go_roundw
      case rel => exact ⟨k + 1, by omega, rfl, HB4.out⟩
      case measure => simp [intOf]; omega
    · go_wp2_with fail
      go_loopw [6] (fun i wr => ∃ k : Int, (-1 ≤ k ∧ k ≤ n + 1) ∧ i = .int .i64 k ∧ Below w.heap.size w wr) (fun i _ => (n + 1 - intOf i).toNat)
      case atStart => exact ⟨-1, by omega, rfl, HB.out⟩
      case round =>
        obtain ⟨q, ⟨hq0, hq1⟩, rfl, hb⟩ := hrel
        have HBq := Lib.hid hb
        clear hb
        by_cases hlt2 : q ≤ n
        · have HST := Lib.hid (fun w' (hb : Below w.heap.size w w') => And.intro (State_any q (H1.out.below hb) ⟨by omega, by omega⟩) (rState_any q (H2.out.below hb) ⟨by omega, by omega⟩))
          by_cases hst : stV m q = 2
          · rw [hst] at HST
            obtain ⟨p, rfl, hp, hs2⟩ := stV_two hst
            have he := page_words hp (by omega)
            have HWA := Lib.hid (fun w' (hb : Below w.heap.size w w') => Words_any ((p : Int) * 256) 32 (H1.out.below hb) ⟨by omega, by omega⟩ he)
            have HWB := Lib.hid (fun w' (hb : Below w.heap.size w w') => rWords_any ((p : Int) * 256) 32 (H2.out.below hb) ⟨by omega, by omega⟩ he)
            generalize hf : (fun j => m.hd (((p : Int) * 256 / 8).toNat + j)) = f at HWB
            have HFF := Lib.hid (fun j => show m.hd (((p : Int) * 256 / 8).toNat + j) = f j by rw [← hf])
            have hp2 : p < n := by have := HN.out; omega
            clear hst he hp hs2 hf
            go_wp2_with fail
            refine (HPG.out _ HBq.out).2.mono ?_
            rintro e _ ⟨rfl, rfl⟩
            go_wp2_with fail
            refine (HST.out _ HBq.out).1.mono ?_
            rintro e w2 ⟨rfl, hb2⟩
            have HB2 := Lib.hid (btr HBq.out hb2 (Nat.le_refl _))
            clear hb2
            go_wp2_with fail
            refine (HST.out _ HB2.out).2.mono ?_
            rintro e _ ⟨rfl, rfl⟩
            go_wp2_with fail
            refine (HST.out _ HB2.out).2.mono ?_
            rintro e _ ⟨rfl, rfl⟩
            go_wp2_with fail
            refine (HWA.out _ HB2.out).mono ?_
            rintro e w3 ⟨Z, rfl, _, hcl, hb3⟩
            have hcl' : Cl w3 Z 32 (fun j => .int .i64 (f j)) := hcl.congr fun j _ => by rw [HFF.out]
            have HCL := Lib.hid (IntsAt.of_cl hcl')
            have HB3 := Lib.hid (btr HB2.out hb3 (Nat.le_refl _))
            clear hcl hcl' hb3
            go_wp2_with fail
            refine (HWB.out _ HB3.out).mono ?_
            rintro e w4 ⟨A, c, rfl, hI, _, hb4⟩
            have HII := Lib.hid hI
            have HCL4 := Lib.hid (HCL.out.below hb4)
            have HB4 := Lib.hid (btr HB3.out hb4 (Nat.le_refl _))
            clear hI hb4
            go_wp2_with fail
            refine (Ints_any _ _ _ _ 32 f _ (by omega) HCL4.out HII.out).mono ?_
            rintro e w5 ⟨rfl, hb5⟩
            have HB5 := Lib.hid (btr HB4.out hb5 (Nat.le_refl _))
            clear hb5
            go_wp2_with fail
            go_roundw
            case rel => exact ⟨p + 1, by omega, rfl, HB5.out⟩
            case measure => simp [intOf]; omega
          · generalize stV m q = V at HST hst
            have z1 : (V == 2) = false := by simpa using hst
            have z2 : (V != 2) = true := by simpa using hst
            clear hst
            go_wp2_with fail
            refine (HPG.out _ HBq.out).2.mono ?_
            rintro e _ ⟨rfl, rfl⟩
            go_wp2_with fail
            refine (HST.out _ HBq.out).1.mono ?_
            rintro e w2 ⟨rfl, hb2⟩
            have HB2 := Lib.hid (btr HBq.out hb2 (Nat.le_refl _))
            clear hb2
            go_wp2_with fail
            refine (HST.out _ HB2.out).2.mono ?_
            rintro e _ ⟨rfl, rfl⟩
            go_wp2_with fail
            refine (HST.out _ HB2.out).2.mono ?_
            rintro e _ ⟨rfl, rfl⟩
            go_wp2_with fail
            go_roundw
            case rel => exact ⟨q + 1, by omega, rfl, HB2.out⟩
            case measure => simp [intOf]; omega
        · go_wp2_with fail
          refine (HPG.out _ HBq.out).2.mono ?_
          rintro e _ ⟨rfl, rfl⟩
          go_wp2_with fail
          go_ret
          exact ⟨rfl, HP.out.then HBq.out⟩

end Go.Proofs.Ytejjendklemebaa
