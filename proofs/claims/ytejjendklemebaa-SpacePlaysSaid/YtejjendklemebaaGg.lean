/- The document's own space: Copy, Runs. -/
import Derived.Test.YtejjendklemebaaGf
namespace Go.Proofs.Ytejjendklemebaa
open Go.RowKit

set_option maxRecDepth 100000 in
set_option maxHeartbeats 2000000 in
theorem rCopy_any {O : Nat → Prop} {R : Nat} {m : Mo} {w : World} (a b k : Int) (h : Rf w O R m) (ha : -9223372036854775808 ≤ a ∧ a ≤ 9223372036854775807) (hb : -9223372036854775808 ≤ b ∧ b ≤ 9223372036854775807) :
    Calls Try.prog 49 #[.pointer (some ⟨R, 0, none⟩), .int .i64 a, .int .i64 b, .int .i64 k] w fun e w' => e = .returned (.int .i64 (chk2E m k a b)) ∧ RMut w O R (copyD m a b k) w' := by
  have HM := Lib.hid (rmade_any h)
  have HR := Lib.hid h
  have hn2 := h.wf.n2
  by_cases hk : k < 0 ∨ 32768 < k
  · have hce : chk2E m k a b = 1 := by unfold chk2E; rw [if_pos hk]
    have HE := Lib.hid hce
    have HD := Lib.hid (copyD_of (m := m) (a := a) (b := b) (k := k) (by rw [hce]; omega))
    clear hce h ha hb
    by_cases hk0 : k < 0
    · clear hk
      go_enter Try.func49, Try.ntmps49
      go_wp2_with fail
      refine HM.out.mono ?_; rintro e _ ⟨rfl, rfl⟩
      go_wp2_with fail
      go_ret
      exact ⟨ret_int HE.out.symm, by rw [HD.out]; exact RMut.same HR.out (Below.refl _ _)⟩
    · have hk1 : 32768 < k := by omega
      clear hk
      go_enter Try.func49, Try.ntmps49
      go_wp2_with fail
      refine HM.out.mono ?_; rintro e _ ⟨rfl, rfl⟩
      go_wp2_with fail
      go_ret
      exact ⟨ret_int HE.out.symm, by rw [HD.out]; exact RMut.same HR.out (Below.refl _ _)⟩
  · have hc := rcan_any a k h ha (by omega) (by omega)
    have hc2 := rcan_any b k h hb (by omega) (by omega)
    have hk0 : 0 ≤ k := by omega
    have hk1 : k ≤ 32768 := by omega
    have hkn : ¬ (k < 0 ∨ 32768 < k) := hk
    clear hk
    by_cases hacc : accM m a k = true
    · rw [hacc] at hc
      have HC := Lib.hid hc
      by_cases hacc2 : accM m b k = true
      · rw [hacc2] at hc2
        have HC2 := Lib.hid hc2
        have hce : chk2E m k a b = 0 := by unfold chk2E; rw [if_neg hkn, if_pos ⟨hacc, hacc2⟩]
        have HE := Lib.hid hce
        have HD := Lib.hid (show copyD m a b k = putN m (a / 8).toNat (fun j => m.hd ((b / 8).toNat + j)) k.toNat from if_pos hce)
        have hwo : chkE m k b = 0 := by unfold chkE; rw [if_neg hkn, if_pos hacc2]
        have HW := Lib.hid (rWords_any b k h hb hwo)
        rcases accM_run hacc hk0 with rfl | ⟨i, L, rfl, rfl, hL, hiL, _⟩
        · clear hc hc2 hacc hacc2 hce h ha hb hkn hwo
          go_enter Try.func49, Try.ntmps49
          go_wp2_with fail
          refine HM.out.mono ?_; rintro e _ ⟨rfl, rfl⟩
          go_wp2_with fail
          refine HC.out.mono ?_; rintro e _ ⟨rfl, rfl⟩
          go_wp2_with fail
          refine HC2.out.mono ?_; rintro e _ ⟨rfl, rfl⟩
          go_wp2_with fail
          refine HW.out.mono ?_; rintro e w1 ⟨A, c, rfl, hI, hA, hb1⟩
          have HB1 := Lib.hid hb1
          clear hI hA hb1
          go_wp2_with fail
          go_loopw [11] (fun i wr => i = .int .i64 0 ∧ Below w.heap.size w wr) (fun _ _ => 0)
          case atStart => exact ⟨rfl, HB1.out⟩
          case round =>
            obtain ⟨rfl, hb⟩ := hrel
            have HB := Lib.hid hb
            clear hb
            go_wp2_with fail
            go_ret
            exact ⟨ret_int HE.out.symm, by rw [HD.out]; exact RMut.same HR.out HB.out⟩
        · have hi2 : i + L ≤ 32768 := by omega
          have HIL := Lib.hid hiL
          obtain ⟨f, hf⟩ : ∃ f : Nat → Int, f = fun j => m.hd ((b / 8).toNat + j) := ⟨_, rfl⟩
          rw [← hf] at HD HW
          have HDD := Lib.hid (show copyD m (8 * (i : Int)) b L = putN m i f L by rw [HD.out, show (8 * (i : Int) / 8).toNat = i from by omega, Int.toNat_natCast])
          rw [Int.toNat_natCast] at HW
          clear hc hc2 hacc hacc2 hce h ha hb hkn hiL HD hwo hf
          go_enter Try.func49, Try.ntmps49
          go_wp2_with fail
          refine HM.out.mono ?_; rintro e _ ⟨rfl, rfl⟩
          go_wp2_with fail
          refine HC.out.mono ?_; rintro e _ ⟨rfl, rfl⟩
          go_wp2_with fail
          refine HC2.out.mono ?_; rintro e _ ⟨rfl, rfl⟩
          go_wp2_with fail
          refine HW.out.mono ?_; rintro e w1 ⟨A, c, rfl, hI, hA, hb1⟩
          have HII := Lib.hid hI
          have HAA := Lib.hid hA
          have HB1 := Lib.hid hb1
          have HR1 := Lib.hid (HR.out.below hb1)
          clear hI hA hb1
          go_wp2_with fail
          go_loopw [11] (fun x wr => ∃ t : Nat, t ≤ L ∧ x = .int .i64 t ∧ RMut w1 O R (putN m i f t) wr) (fun x _ => L - (intOf x).toNat)
          case atStart => exact ⟨0, by omega, rfl, RMut.same HR1.out (Below.refl _ _)⟩
          case round =>
            obtain ⟨t, ht, rfl, hMt⟩ := hrel
            have HMT := Lib.hid hMt
            clear hMt
            by_cases hlt : t < L
            · have HP := Lib.hid (rput_any (i + t) (f t) HMT.out.1 (by rw [putN_n]; have := HIL.out; omega))
              obtain ⟨g, rfl, hg, g0⟩ := HII.out t hlt
              have hgw := HAA.out g rfl
              have g1 := (World.cell?_of_block (w := w1) (a := ⟨g, t, none⟩) (HMT.out.2.block g hg (fun hx => by have := HR.out.lt g hx; omega))).trans g0
              clear g0
              go_wp2_with fail
              refine HP.out.mono ?_; rintro e w2 ⟨rfl, hM⟩
              have HMM := Lib.hid hM
              clear hM
              go_wp2_with fail
              go_roundw
              case rel => exact ⟨t + 1, by omega, by go_num, HMT.out.trans HMM.out⟩
              case measure => simp [intOf]; omega
            · obtain rfl : t = L := by omega
              go_wp2_with fail
              go_ret
              exact ⟨ret_int HE.out.symm, by rw [HDD.out]; exact RMut.after HB1.out HMT.out⟩
      · have hf2 : accM m b k = false := by simpa using hacc2
        rw [hf2] at hc2
        have HC2 := Lib.hid hc2
        have hce : chk2E m k a b = 7 := by unfold chk2E; rw [if_neg hkn, if_neg (fun hh => hacc2 hh.2)]
        have HE := Lib.hid hce
        have HD := Lib.hid (copyD_of (m := m) (a := a) (b := b) (k := k) (by rw [hce]; omega))
        clear hc hc2 hacc hacc2 hf2 hce h ha hb hkn
        go_enter Try.func49, Try.ntmps49
        go_wp2_with fail
        refine HM.out.mono ?_; rintro e _ ⟨rfl, rfl⟩
        go_wp2_with fail
        refine HC.out.mono ?_; rintro e _ ⟨rfl, rfl⟩
        go_wp2_with fail
        refine HC2.out.mono ?_; rintro e _ ⟨rfl, rfl⟩
        go_wp2_with fail
        go_ret
        exact ⟨ret_int HE.out.symm, by rw [HD.out]; exact RMut.same HR.out (Below.refl _ _)⟩
    · have hf : accM m a k = false := by simpa using hacc
      rw [hf] at hc
      have HC := Lib.hid hc
      have hce : chk2E m k a b = 7 := by unfold chk2E; rw [if_neg hkn, if_neg (fun hh => hacc hh.1)]
      have HE := Lib.hid hce
      have HD := Lib.hid (copyD_of (m := m) (a := a) (b := b) (k := k) (by rw [hce]; omega))
      clear hc hc2 hacc hf hce h ha hb hkn
      go_enter Try.func49, Try.ntmps49
      go_wp2_with fail
      refine HM.out.mono ?_; rintro e _ ⟨rfl, rfl⟩
      go_wp2_with fail
      refine HC.out.mono ?_; rintro e _ ⟨rfl, rfl⟩
      go_wp2_with fail
      go_ret
      exact ⟨ret_int HE.out.symm, by rw [HD.out]; exact RMut.same HR.out (Below.refl _ _)⟩

set_option maxRecDepth 100000 in
set_option maxHeartbeats 2000000 in
theorem rRuns_any {O : Nat → Prop} {R : Nat} {m : Mo} {w : World} (s : Int) (h : Rf w O R m) : Calls Try.prog 55 #[.pointer (some ⟨R, 0, none⟩), .int .i64 s] w (RunsPost w (runsL m.st s m.n)) := by
  have HM := Lib.hid (rmade_any h)
  obtain ⟨S, H, cs, ch, h⟩ := h
  obtain ⟨i0, hi, hz0, hz1, hz2⟩ := info_parts Try.info54
  have HI := Lib.hid (And.intro hi (And.intro hz0 (And.intro hz1 hz2)))
  have hn2 := h.wf.n2
  have HS := Lib.hid h
  obtain ⟨n, hn⟩ : ∃ n, n = m.n := ⟨_, rfl⟩
  rw [← hn] at hn2 ⊢
  have HN := Lib.hid hn
  clear h hn hi hz0 hz1 hz2
  go_enter Try.func55, Try.ntmps55
  go_wp2_with (go_at_call 40; refine HM.out.mono ?_; rintro e w1 ⟨rfl, rfl⟩)
  go_loopw [5, 6] (fun v i wr => ∃ k : Nat, k ≤ n ∧ i = .int .i64 k ∧ RunsIn w wr m.st s k v) (fun _ i _ => n - (intOf i).toNat)
  case atStart => exact ⟨0, by omega, rfl, ⟨⟨rfl, .inl ⟨rfl, rfl⟩⟩, Below.refl _ _⟩⟩
  case round =>
    obtain ⟨k, hk, rfl, hR⟩ := hrel
    have hS := HS.out.below hR.bel
    have c0 := hS.c0
    rw [← HN.out] at c0
    by_cases hlt : k < n
    · have g0 := hS.s.cell k (by have := HN.out; omega)
      clear hS
      by_cases hs : m.st k = s
      · rw [hs] at g0
        have HSK := Lib.hid hs
        clear hs
        obtain hr | ⟨a, b, t, hr⟩ : rr m.st s k = [] ∨ ∃ a b t, rr m.st s k = (a, b) :: t := by
          cases rr m.st s k with
          | nil => exact .inl rfl
          | cons x t => exact .inr ⟨x.1, x.2, t, rfl⟩
        · have HRR := Lib.hid hr
          clear hr
          obtain ⟨Ax, cx, rfl⟩ := hR.form
          rw [HRR.out, List.length_nil] at hR ⊢
          have HR := Lib.hid hR
          clear hR
          go_wp2_with fail
          go_quiet (fail)
          have hR2 := HR.out.then (belowN (Below.refl _ _) nq)
          have hB2 := hR2.bel
          have ho2 := hR2.own
          rw [HRR.out] at ho2
          have HR2 := Lib.hid ho2
          have HB2 := Lib.hid hB2
          have hlen := rr_len m.st s k
          rw [HRR.out] at hlen
          obtain ⟨hi, hz0, hz1, hz2⟩ := HI.out
          clear hR2 hB2 ho2
          go_wp2_with (at_builtin; go_loud (refine wpList_append_own _ rfl _ _ 51 rfl w.heap.size 54 i0 (.agg #[.int .i64 0, .int .i64 0]) 2 16 Try.underlying51 hi hz0 hz1 hz2 rfl (by decide) _ _ _ rfl (HR2.out.alloc _) ⟨(wr.drewN nq).heap.size, 0, none⟩ 1 1 [.int .i64 k, .int .i64 1] rfl rfl (cells2_new (wr.drewN nq) _ _ _) (by simp [Value.oneCell']) (by unfold maxLen; omega) (by omega) (by have := HB2.out.size; simp at this ⊢; omega) ?_); intro v' w5 hown' hgrow _; have hB5 : Below w.heap.size w w5 := (HB2.out.alloc HB2.out.size _).grown hgrow (by have := HB2.out.size; simp at this ⊢; omega) (fun k e => (HR2.out.lt k e).1); have HO5 := Lib.hid hown'; have HB5 := Lib.hid hB5; clear hown' hgrow hB5)
          go_roundw
          case rel => exact ⟨k + 1, by omega, by go_num, RunsIn.one (by rw [HRR.out]; exact HO5.out) HB5.out HSK.out (by rw [HRR.out]; intro a b t h; cases h)⟩
          case measure => simp [intOf]; omega
        · have HRR := Lib.hid hr
          clear hr
          obtain ⟨g, c, rfl, hg1, hg2, e1, e2, e3⟩ := hR.last HRR.out
          have HR := Lib.hid hR
          clear hR
          have hlen := rr_len m.st s k
          rw [HRR.out, List.length_cons] at hlen
          have hab := rr_ok m.st s k
          rw [HRR.out] at hab
          obtain ⟨hab1, hab2, _⟩ := hab
          generalize hT : t.length = T at hlen e1 e2 e3 HR ⊢
          have HT := Lib.hid hT
          clear hT
          by_cases hk2 : a + b = k
          · have hk3 : ((a : Int) + b == k) = true := by simp; omega
            go_wp2_with fail
            have u1 : IntKind.i64.wrap ((a : Int) + (b : Int)) = (a : Int) + (b : Int) := IntWalk.i64_in _ (by omega)
            have u2 : IntKind.i64.wrap ((T : Int) + 1 - 1) = (T : Int) := by rw [show (T : Int) + 1 - 1 = (T : Int) by omega]; exact IntWalk.i64_in _ (by omega)
            have u3 : IntKind.i64.wrap (T : Int) = (T : Int) := IntWalk.i64_in _ (by omega)
            go_quiet (fail)
            have hR2 := HR.out.then (belowN (Below.refl _ _) nq)
            rw [← HT.out] at hR2
            have hR3 := hR2.more HRR.out HSK.out hk2 hg1
            rw [HT.out] at hR3
            have HR3 := Lib.hid hR3
            clear hR2 hR3 u1 u2 u3 hk3
            go_wp2
            go_roundw
            case rel => exact ⟨k + 1, by omega, by go_num, HR3.out⟩
            case measure => simp [intOf]; omega
          · have hk3 : ((a : Int) + b == k) = false := by simp; omega
            have HNE := Lib.hid hk2
            clear hk2
            go_wp2_with fail
            have u1 : IntKind.i64.wrap ((a : Int) + (b : Int)) = (a : Int) + (b : Int) := IntWalk.i64_in _ (by omega)
            have u2 : IntKind.i64.wrap ((T : Int) + 1 - 1) = (T : Int) := by rw [show (T : Int) + 1 - 1 = (T : Int) by omega]; exact IntWalk.i64_in _ (by omega)
            have u3 : IntKind.i64.wrap (T : Int) = (T : Int) := IntWalk.i64_in _ (by omega)
            go_quiet (fail)
            have hR2 := HR.out.then (belowN (Below.refl _ _) nq)
            have hB2 := hR2.bel
            have ho2 := hR2.own
            rw [HRR.out, List.length_cons, HT.out] at ho2
            have HR2 := Lib.hid ho2
            have HB2 := Lib.hid hB2
            obtain ⟨hi, hz0, hz1, hz2⟩ := HI.out
            clear hR2 hB2 ho2 u1 u2 u3 hk3 e1 e2 e3
            go_wp2_with (at_builtin; go_loud (refine wpList_append_own _ rfl _ _ 51 rfl w.heap.size 54 i0 (.agg #[.int .i64 0, .int .i64 0]) 2 16 Try.underlying51 hi hz0 hz1 hz2 rfl (by decide) _ _ _ rfl (HR2.out.alloc _) ⟨(wr.drewN nq).heap.size, 0, none⟩ 1 1 [.int .i64 k, .int .i64 1] rfl rfl (cells2_new (wr.drewN nq) _ _ _) (by simp [Value.oneCell']) (by unfold maxLen; omega) (by omega) (by have := HB2.out.size; simp at this ⊢; omega) ?_); intro v' w5 hown' hgrow _; have hB5 : Below w.heap.size w w5 := (HB2.out.alloc HB2.out.size _).grown hgrow (by have := HB2.out.size; simp at this ⊢; omega) (fun k e => (HR2.out.lt k e).1); have HO5 := Lib.hid hown'; have HB5 := Lib.hid hB5; clear hown' hgrow hB5)
            go_roundw
            case rel => exact ⟨k + 1, by omega, by go_num, RunsIn.one (by rw [HRR.out, List.length_cons, HT.out]; exact HO5.out) HB5.out HSK.out (by rw [HRR.out]; intro a' b' t' h; cases h; exact HNE.out)⟩
            case measure => simp [intOf]; omega
      · have HSK := Lib.hid hs
        obtain ⟨Ax, cx, rfl⟩ := hR.form
        have HR := Lib.hid hR
        clear hR
        generalize m.st k = V at g0 hs
        have hq : (V == s) = false := by simpa using hs
        have hq' : (V != s) = true := by simpa using hs
        clear hs
        go_wp2_with fail
        go_roundw
        case rel => exact ⟨k + 1, by omega, by go_num, HR.out.skip HSK.out⟩
        case measure => simp [intOf]; omega
    · clear hS
      obtain rfl : k = n := by omega
      have HR := Lib.hid hR
      clear hR
      go_wp2
      go_ret
      exact HR.out.done

end Go.Proofs.Ytejjendklemebaa
