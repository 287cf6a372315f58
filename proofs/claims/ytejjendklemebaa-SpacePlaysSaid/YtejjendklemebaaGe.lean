/- The document's own space: put, Write, Fill. -/
import Derived.Test.YtejjendklemebaaGd
namespace Go.Proofs.Ytejjendklemebaa
open Go.RowKit

/-- The space is as before, but for the states, the words and the peak. -/
theorem RfA.of_raw2 {w wr : World} {O : Nat → Prop} {R S H cs ch : Nat} {m m' : Mo} (h : RfA w O R S H cs ch m) (hr : RawR w wr m.n S H m'.st m'.hd) (hwf : WF m') (hn : m'.n = m.n) : RMut w O R m' (wr.setCell ⟨R, 2, none⟩ (.int .i64 m'.pk)) := by
  have hk : Keep O w wr := hr.k.mono fun k _ hk => by rcases hk with rfl | rfl; exact h.oS; exact h.oH
  have hk2 : Keep O w (wr.setCell ⟨R, 2, none⟩ (.int .i64 m'.pk)) := hk.set (.inl h.oR) _
  refine ⟨⟨S, H, cs, ch, hwf, ?_, ?_, ?_, .inl h.oR, .inl h.oS, .inl h.oH, Ext.lt h.lt hk2.size, h.sh, h.sr, h.hr⟩, hk2⟩
  · have h0 := h.r.of_block (hr.k.block R (h.lt _ h.oR) (fun hx => by rcases hx with hx | hx; exact h.sr hx.symm; exact h.hr hx.symm))
    rw [hn]
    refine (h0.set 2 _).congr fun i hi => ?_
    unfold rfF
    have : i = 0 ∨ i = 1 ∨ i = 2 := by omega
    rcases this with rfl | rfl | rfl <;> rfl
  · rw [hn]; exact hr.s.other (a := ⟨R, 2, none⟩) h.sr _
  · rw [hn]; exact hr.h.other (a := ⟨R, 2, none⟩) h.hr _

set_option maxHeartbeats 1000000 in
theorem rput_any {O : Nat → Prop} {R : Nat} {m : Mo} {w : World} (i : Nat) (v : Int) (h : Rf w O R m) (hi : i < 32 * m.n) :
    Calls Try.prog 73 #[.pointer (some ⟨R, 0, none⟩), .int .i64 i, .int .i64 v] w fun e w' => e = .returned (.tuple #[]) ∧ RMut w O R (putM m i v) w' := by
  obtain ⟨S, H, cs, ch, h⟩ := h
  have hn1 := h.wf.n1
  have hn2 := h.wf.n2
  have HR := Lib.hid h
  have HC := Lib.hid (fun wr (hk : Keep (fun k => k = S ∨ k = H) w wr) => And.intro
    ((World.cell?_of_block (w := w) (a := ⟨R, 0, none⟩) (hk.block R (HR.out.lt _ HR.out.oR) (fun hx => by rcases hx with hx | hx; exact HR.out.sr hx.symm; exact HR.out.hr hx.symm))).trans HR.out.c0)
    (And.intro ((World.cell?_of_block (w := w) (a := ⟨R, 1, none⟩) (hk.block R (HR.out.lt _ HR.out.oR) (fun hx => by rcases hx with hx | hx; exact HR.out.sr hx.symm; exact HR.out.hr hx.symm))).trans HR.out.c1)
    (And.intro ((World.cell?_of_block (w := w) (a := ⟨R, 2, none⟩) (hk.block R (HR.out.lt _ HR.out.oR) (fun hx => by rcases hx with hx | hx; exact HR.out.sr hx.symm; exact HR.out.hr hx.symm))).trans HR.out.c2)
      ((World.frozen?_of_block (w := w) (a := ⟨R, 2, none⟩) (hk.block R (HR.out.lt _ HR.out.oR) (fun hx => by rcases hx with hx | hx; exact HR.out.sr hx.symm; exact HR.out.hr hx.symm))).trans (HR.out.r.free 2 (by omega))))))
  have hr1 := h.raw.setH i v (hd' := upS m.hd i v) (fun k _ => rfl)
  have HW1 := Lib.hid hr1
  have hr2 := hr1.setS (i / 32) 2 (st' := upS m.st (i / 32) 2) (fun k _ => rfl)
  have HW2 := Lib.hid hr2
  have c0 := h.c0
  have c1 := h.c1
  have g0 := h.h.cell i (by omega)
  have g1 := h.h.free i (by omega)
  generalize m.hd i = U at g0
  obtain ⟨W1, hW1⟩ : ∃ W1, w.setCell ⟨H, i, none⟩ (.int .i64 v) = W1 := ⟨_, rfl⟩
  rw [hW1] at HW1 HW2
  have c0' := (HC.out W1 HW1.out.k).1
  have s0 := HW1.out.s.cell (i / 32) (by omega)
  have s1 := HW1.out.s.free (i / 32) (by omega)
  clear h hr1 hr2
  by_cases hst : m.st (i / 32) = 2
  · rw [hst] at s0
    have he : putM m i v = { m with hd := upS m.hd i v } := by rw [putM_eq, dirtyM_same HR.out.wf hst]; rfl
    have HF := Lib.hid (show RMut w O R (putM m i v) W1 by
      rw [he]
      refine HR.out.of_raw (m' := { m with hd := upS m.hd i v }) HW1.out ?_ rfl rfl
      rw [← he]; exact putM_wf HR.out.wf i v)
    clear hst he
    go_enter Try.func73, Try.ntmps73
    go_wp2
    go_end0
    exact ⟨rfl, HF.out⟩
  · obtain ⟨W2, hW2⟩ : ∃ W2, W1.setCell ⟨S, i / 32, none⟩ (.int .i64 2) = W2 := ⟨_, rfl⟩
    rw [hW2] at HW2
    have HFA := Lib.hid (HR.out.of_raw2 (m' := putM m i v) HW2.out (putM_wf HR.out.wf i v) rfl)
    obtain ⟨c0'', _, c2'', f2''⟩ := HC.out W2 HW2.out.k
    have HDI := Lib.hid (rDirty_raw c0'' HW2.out.s hn1 hn2)
    have hpk : (putM m i v).pk = max m.pk (dirS (upS m.st (i / 32) 2) m.n) := rfl
    rw [hpk] at HFA
    have hdl := dirS_le (upS m.st (i / 32) 2) m.n
    have hpl := HR.out.wf.p
    generalize m.st (i / 32) = V at s0 hst
    have z1 : (V == 2) = false := by simpa using hst
    have z2 : (V != 2) = true := by simpa using hst
    clear hst hpk
    generalize dirS (upS m.st (i / 32) 2) m.n = D at HFA HDI hdl
    generalize m.pk = K at HFA c2'' hpl
    by_cases hlt : K < D
    · have e : ((max K D : Nat) : Int) = (D : Int) := by omega
      rw [e] at HFA
      clear e
      go_enter Try.func73, Try.ntmps73
      go_wp2_with fail
      refine HDI.out.mono ?_; rintro e _ ⟨rfl, rfl⟩
      go_wp2_with fail
      go_end0
      exact ⟨rfl, HFA.out⟩
    · have e : ((max K D : Nat) : Int) = (K : Int) := by omega
      rw [e] at HFA
      clear e
      go_enter Try.func73, Try.ntmps73
      go_wp2_with fail
      refine HDI.out.mono ?_; rintro e _ ⟨rfl, rfl⟩
      go_wp2_with fail
      go_end0
      exact ⟨rfl, HFA.out⟩

set_option maxHeartbeats 800000 in
theorem rWrite_any {O : Nat → Prop} {R : Nat} {m : Mo} {w : World} (a v : Int) (h : Rf w O R m) (ha : -9223372036854775808 ≤ a ∧ a ≤ 9223372036854775807) :
    Calls Try.prog 45 #[.pointer (some ⟨R, 0, none⟩), .int .i64 a, .int .i64 v] w fun e w' => e = .returned (.int .i64 (chkE m 1 a)) ∧ RMut w O R (fillD m a 1 v) w' := by
  have HM := Lib.hid (rmade_any h)
  have hc := rcan_any a 1 h ha (by omega) (by omega)
  have HR := Lib.hid h
  have hn2 := h.wf.n2
  by_cases hacc : accM m a 1 = true
  · rw [hacc] at hc
    have HC := Lib.hid hc
    obtain ⟨i, rfl, hi, _⟩ := accM_one hacc
    have hce : chkE m 1 (8 * (i : Int)) = 0 := by unfold chkE; rw [if_neg (by omega), if_pos hacc]
    have HE := Lib.hid hce
    have HD := Lib.hid (show fillD m (8 * (i : Int)) 1 v = putM m i v by
      unfold fillD
      rw [if_pos hce, show (8 * (i : Int) / 8).toNat = i from by omega]
      rfl)
    have HP := Lib.hid (rput_any i v h hi)
    have hi2 : i < 32768 := by omega
    clear hc hacc hce h ha hi
    go_enter Try.func45, Try.ntmps45
    go_wp2_with fail
    refine HM.out.mono ?_; rintro e _ ⟨rfl, rfl⟩
    go_wp2_with fail
    refine HC.out.mono ?_; rintro e _ ⟨rfl, rfl⟩
    go_wp2_with fail
    refine HP.out.mono ?_; rintro e w1 ⟨rfl, hM⟩
    have HMM := Lib.hid hM
    clear hM
    go_wp2_with fail
    go_ret
    exact ⟨ret_int HE.out.symm, by rw [HD.out]; exact HMM.out⟩
  · have hf : accM m a 1 = false := by simpa using hacc
    rw [hf] at hc
    have HC := Lib.hid hc
    have hce : chkE m 1 a = 7 := by unfold chkE; rw [if_neg (by omega), if_neg hacc]
    have HE := Lib.hid hce
    have HD := Lib.hid (fillD_of (m := m) (a := a) (k := 1) (v := v) (by rw [hce]; omega))
    clear hc hacc hf hce h ha
    go_enter Try.func45, Try.ntmps45
    go_wp2_with fail
    refine HM.out.mono ?_; rintro e _ ⟨rfl, rfl⟩
    go_wp2_with fail
    refine HC.out.mono ?_; rintro e _ ⟨rfl, rfl⟩
    go_wp2_with fail
    go_ret
    exact ⟨ret_int HE.out.symm, by rw [HD.out]; exact RMut.same HR.out (Below.refl _ _)⟩

set_option maxHeartbeats 1000000 in
theorem rFill_any {O : Nat → Prop} {R : Nat} {m : Mo} {w : World} (a k v : Int) (h : Rf w O R m) (ha : -9223372036854775808 ≤ a ∧ a ≤ 9223372036854775807) :
    Calls Try.prog 48 #[.pointer (some ⟨R, 0, none⟩), .int .i64 a, .int .i64 k, .int .i64 v] w fun e w' => e = .returned (.int .i64 (chkE m k a)) ∧ RMut w O R (fillD m a k v) w' := by
  have HM := Lib.hid (rmade_any h)
  have HR := Lib.hid h
  have hn2 := h.wf.n2
  by_cases hk : k < 0 ∨ 32768 < k
  · have hce : chkE m k a = 1 := by unfold chkE; rw [if_pos hk]
    have HE := Lib.hid hce
    have HD := Lib.hid (fillD_of (m := m) (a := a) (k := k) (v := v) (by rw [hce]; omega))
    clear hce h ha
    by_cases hk0 : k < 0
    · clear hk
      go_enter Try.func48, Try.ntmps48
      go_wp2_with fail
      refine HM.out.mono ?_; rintro e _ ⟨rfl, rfl⟩
      go_wp2_with fail
      go_ret
      exact ⟨ret_int HE.out.symm, by rw [HD.out]; exact RMut.same HR.out (Below.refl _ _)⟩
    · have hk1 : 32768 < k := by omega
      clear hk
      go_enter Try.func48, Try.ntmps48
      go_wp2_with fail
      refine HM.out.mono ?_; rintro e _ ⟨rfl, rfl⟩
      go_wp2_with fail
      go_ret
      exact ⟨ret_int HE.out.symm, by rw [HD.out]; exact RMut.same HR.out (Below.refl _ _)⟩
  · have hc := rcan_any a k h ha (by omega) (by omega)
    have hk0 : 0 ≤ k := by omega
    have hk1 : k ≤ 32768 := by omega
    have hkn : ¬ (k < 0 ∨ 32768 < k) := hk
    clear hk
    by_cases hacc : accM m a k = true
    · rw [hacc] at hc
      have HC := Lib.hid hc
      have hce : chkE m k a = 0 := by unfold chkE; rw [if_neg hkn, if_pos hacc]
      have HE := Lib.hid hce
      have HD := Lib.hid (show fillD m a k v = putN m (a / 8).toNat (fun _ => v) k.toNat from if_pos hce)
      rcases accM_run hacc hk0 with rfl | ⟨i, L, rfl, rfl, hL, hiL, _⟩
      · clear hc hacc hce h ha hkn
        go_enter Try.func48, Try.ntmps48
        go_wp2_with fail
        refine HM.out.mono ?_; rintro e _ ⟨rfl, rfl⟩
        go_wp2_with fail
        refine HC.out.mono ?_; rintro e _ ⟨rfl, rfl⟩
        go_wp2_with fail
        go_loopw [9] (fun i wr => ∃ t : Nat, t ≤ 0 ∧ i = .int .i64 t ∧ Below w.heap.size w wr) (fun _ _ => 0)
        case atStart => exact ⟨0, by omega, rfl, Below.refl _ _⟩
        case round =>
          obtain ⟨t, ht, rfl, hb⟩ := hrel
          have HB := Lib.hid hb
          clear hb
          go_wp2_with fail
          go_ret
          exact ⟨ret_int HE.out.symm, by rw [HD.out]; exact RMut.same HR.out HB.out⟩
      · have hi2 : i + L ≤ 32768 := by omega
        have HIL := Lib.hid hiL
        have HDD := Lib.hid (show fillD m (8 * (i : Int)) L v = putN m i (fun _ => v) L by rw [HD.out, show (8 * (i : Int) / 8).toNat = i from by omega, Int.toNat_natCast])
        clear hc hacc hce h ha hkn hiL HD
        go_enter Try.func48, Try.ntmps48
        go_wp2_with fail
        refine HM.out.mono ?_; rintro e _ ⟨rfl, rfl⟩
        go_wp2_with fail
        refine HC.out.mono ?_; rintro e _ ⟨rfl, rfl⟩
        go_wp2_with fail
        go_loopw [9] (fun x wr => ∃ t : Nat, t ≤ L ∧ x = .int .i64 t ∧ RMut w O R (putN m i (fun _ => v) t) wr) (fun x _ => L - (intOf x).toNat)
        case atStart => exact ⟨0, by omega, rfl, RMut.same HR.out (Below.refl _ _)⟩
        case round =>
          obtain ⟨t, ht, rfl, hMt⟩ := hrel
          have HMT := Lib.hid hMt
          clear hMt
          by_cases hlt : t < L
          · have HP := Lib.hid (rput_any (i + t) v HMT.out.1 (by rw [putN_n]; have := HIL.out; omega))
            go_wp2_with fail
            refine HP.out.mono ?_; rintro e w1 ⟨rfl, hM⟩
            have HMM := Lib.hid hM
            clear hM
            go_wp2_with fail
            go_roundw
            case rel => exact ⟨t + 1, by omega, by go_num, HMT.out.trans HMM.out⟩
            case measure => simp [intOf]; omega
          · obtain rfl : t = L := by omega
            go_wp2_with fail
            go_ret
            exact ⟨ret_int HE.out.symm, by rw [HDD.out]; exact HMT.out⟩
    · have hf : accM m a k = false := by simpa using hacc
      rw [hf] at hc
      have HC := Lib.hid hc
      have hce : chkE m k a = 7 := by unfold chkE; rw [if_neg hkn, if_neg hacc]
      have HE := Lib.hid hce
      have HD := Lib.hid (fillD_of (m := m) (a := a) (k := k) (v := v) (by rw [hce]; omega))
      clear hc hacc hf hce h ha hkn
      go_enter Try.func48, Try.ntmps48
      go_wp2_with fail
      refine HM.out.mono ?_; rintro e _ ⟨rfl, rfl⟩
      go_wp2_with fail
      refine HC.out.mono ?_; rintro e _ ⟨rfl, rfl⟩
      go_wp2_with fail
      go_ret
      exact ⟨ret_int HE.out.symm, by rw [HD.out]; exact RMut.same HR.out (Below.refl _ _)⟩

end Go.Proofs.Ytejjendklemebaa
