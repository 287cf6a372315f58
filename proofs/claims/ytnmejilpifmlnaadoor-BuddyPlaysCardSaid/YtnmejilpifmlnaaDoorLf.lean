/- Give, TakeRun. -/
import Derived.Test.YtnmejilpifmlnaaDoorLe
namespace Go.Proofs.YtnmejilpifmlnaaDoor
open Go.RowKit

def noneM (m : Mo) (s k : Nat) : Bool := decide (∀ j : Nat, j < k → m.F (s + j) = false)
def allM (m : Mo) (s k : Nat) : Bool := decide (∀ j : Nat, j < k → m.F (s + j) = true)
def givE (m : Mo) (s k : Int) : Int := if inM m s k = true then (if noneM m s.toNat k.toNat = true then 0 else 9) else 1
def givD (m : Mo) (s k : Int) : Mo := if givE m s k = 0 then ⟨m.n, setF m.F s.toNat (s.toNat + k.toNat) true⟩ else m
def trE (m : Mo) (s k : Int) : Int := if inM m s k = true then (if allM m s.toNat k.toNat = true then 0 else 4) else 1
def trD (m : Mo) (s k : Int) : Mo := if trE m s k = 0 then ⟨m.n, setF m.F s.toNat (s.toNat + k.toNat) false⟩ else m
theorem givE_out {m : Mo} {s k : Int} (h : inM m s k = false) : givE m s k = 1 ∧ givD m s k = m := by
  have e : givE m s k = 1 := by unfold givE; rw [h, if_neg (by decide)]
  refine ⟨e, ?_⟩
  unfold givD
  rw [e, if_neg (by decide)]
theorem trE_out {m : Mo} {s k : Int} (h : inM m s k = false) : trE m s k = 1 ∧ trD m s k = m := by
  have e : trE m s k = 1 := by unfold trE; rw [h, if_neg (by decide)]
  refine ⟨e, ?_⟩
  unfold trD
  rw [e, if_neg (by decide)]
theorem givE_no {m : Mo} {a b : Nat} (h : inM m a b = true) {j : Nat} (hj : j < b) (hf : m.F (a + j) = true) : givE m a b = 9 ∧ givD m a b = m := by
  have e : givE m a b = 9 := by
    unfold givE noneM
    rw [h, if_pos rfl, Int.toNat_natCast, Int.toNat_natCast, decide_eq_false, if_neg (by decide)]
    intro hx
    rw [hx j hj] at hf
    cases hf
  refine ⟨e, ?_⟩
  unfold givD
  rw [e, if_neg (by decide)]
theorem givE_yes {m : Mo} {a b : Nat} (h : inM m a b = true) (hf : ∀ j, j < b → m.F (a + j) = false) : givE m a b = 0 ∧ givD m a b = ⟨m.n, setF m.F a (a + b) true⟩ := by
  have e : givE m a b = 0 := by
    unfold givE noneM
    rw [h, if_pos rfl, Int.toNat_natCast, Int.toNat_natCast, decide_eq_true hf, if_pos rfl]
  refine ⟨e, ?_⟩
  unfold givD
  rw [e, if_pos rfl, Int.toNat_natCast, Int.toNat_natCast]
theorem trE_no {m : Mo} {a b : Nat} (h : inM m a b = true) {j : Nat} (hj : j < b) (hf : m.F (a + j) = false) : trE m a b = 4 ∧ trD m a b = m := by
  have e : trE m a b = 4 := by
    unfold trE allM
    rw [h, if_pos rfl, Int.toNat_natCast, Int.toNat_natCast, decide_eq_false, if_neg (by decide)]
    intro hx
    rw [hx j hj] at hf
    cases hf
  refine ⟨e, ?_⟩
  unfold trD
  rw [e, if_neg (by decide)]
theorem trE_yes {m : Mo} {a b : Nat} (h : inM m a b = true) (hf : ∀ j, j < b → m.F (a + j) = true) : trE m a b = 0 ∧ trD m a b = ⟨m.n, setF m.F a (a + b) false⟩ := by
  have e : trE m a b = 0 := by
    unfold trE allM
    rw [h, if_pos rfl, Int.toNat_natCast, Int.toNat_natCast, decide_eq_true hf, if_pos rfl]
  refine ⟨e, ?_⟩
  unfold trD
  rw [e, if_pos rfl, Int.toNat_natCast, Int.toNat_natCast]

set_option maxRecDepth 100000 in
set_option maxHeartbeats 1000000 in
theorem Give_any {O : Nat → Prop} {B : Nat} {m : Mo} {w : World} (s k : Int) (h : Hp w O B m) (hs : -9223372036854775808 ≤ s ∧ s ≤ 9223372036854775807) :
    Calls Tryd.prog 29 #[.pointer (some ⟨B, 0, none⟩), .int .i64 s, .int .i64 k] w fun e w' => e = .returned (.int .i64 (givE m s k)) ∧ Mut w O B (givD m s k) w' := by
  have HM := Lib.hid (made_any h)
  have HI := Lib.hid (inside_any s k h hs)
  have HH := Lib.hid h
  cases hin : inM m s k
  · rw [hin] at HI
    have HE := Lib.hid (givE_out hin)
    clear h hin
    go_enter Tryd.func29, Tryd.ntmps29
    go_wp2_with (first | (go_at_call 33; refine HM.out.mono ?_; rintro x _ ⟨rfl, rfl⟩) | (go_at_call 52; refine HI.out.mono ?_; rintro x _ ⟨rfl, rfl⟩))
    go_ret
    exact ⟨ret_int HE.out.1.symm, by rw [HE.out.2]; exact Mut.same HH.out (Below.refl _ _)⟩
  · rw [hin] at HI
    have hn2 := h.wf.n2
    obtain ⟨a, b, rfl, rfl, hb, hab⟩ := inM_bd hin
    have HIN := Lib.hid hin
    have HAB := Lib.hid hab
    have hab2 : a + b ≤ 1024 := by omega
    clear h hin hs hn2 hab
    go_enter Tryd.func29, Tryd.ntmps29
    go_wp2_with (first | (go_at_call 33; refine HM.out.mono ?_; rintro x _ ⟨rfl, rfl⟩) | (go_at_call 52; refine HI.out.mono ?_; rintro x _ ⟨rfl, rfl⟩))
    go_loopw [17] (fun i wr => ∃ j : Nat, j ≤ b ∧ i = .int .i64 j ∧ (∀ i, i < j → m.F (a + i) = false) ∧ Below w.heap.size w wr) (fun i _ => b - (intOf i).toNat)
    case atStart => exact ⟨0, by omega, rfl, fun i hi => by omega, Below.refl _ _⟩
    case round =>
      obtain ⟨j, hj, rfl, hno, hB⟩ := hrel
      have HNO := Lib.hid hno
      have HB := Lib.hid hB
      clear hno
      by_cases hlt : j < b
      · have HC := Lib.hid (IsFree_any (((a : Int)) + (j : Int)) (HH.out.below hB) (by omega))
        have hv : frV m ((a : Int) + (j : Int)) = m.F (a + j) := by
          unfold frV
          rw [show ((a : Int) + (j : Int)).toNat = a + j from by omega]
          cases m.F (a + j)
          · simp
          · simp; omega
        rw [hv] at HC
        clear hv hB
        cases hF : m.F (a + j)
        · have HF := Lib.hid hF
          rw [hF] at HC
          clear hF
          go_wp2_with (go_at_call 20; refine HC.out.mono ?_; rintro x w1 ⟨rfl, hb1⟩)
          go_roundw
          case rel =>
            refine ⟨j + 1, by omega, by go_num, fun i hi => ?_, btr HB.out hb1 (Nat.le_refl _)⟩
            by_cases hij : i = j
            · rw [hij]; exact HF.out
            · exact HNO.out i (by omega)
          case measure => simp [intOf]; omega
        · have HF := Lib.hid (givE_no HIN.out hlt hF)
          rw [hF] at HC
          clear hF
          go_wp2_with (go_at_call 20; refine HC.out.mono ?_; rintro x w1 ⟨rfl, hb1⟩)
          go_ret
          exact ⟨ret_int HF.out.1.symm, by rw [HF.out.2]; exact Mut.same HH.out (btr HB.out hb1 (Nat.le_refl _))⟩
      · obtain rfl : j = b := by omega
        have HF := Lib.hid (givE_yes HIN.out HNO.out)
        have HG := Lib.hid (give_any a (a + j) (HH.out.below hB) HAB.out (by omega) (fun p p1 p2 => by have := HNO.out (p - a) (by omega); rwa [show a + (p - a) = p from by omega] at this))
        rw [show ((a + j : Nat) : Int) = (a : Int) + (j : Int) from by omega] at HG
        clear hB
        go_wp2_with (go_at_call 53; refine HG.out.mono ?_; rintro x w1 ⟨rfl, hM1⟩; have HM1 := Lib.hid hM1; clear hM1)
        go_ret
        exact ⟨ret_int HF.out.1.symm, by rw [HF.out.2]; exact Mut.after HB.out HM1.out⟩

theorem fe_all {F : Nat → Bool} {a b r : Nat} (h : FE F a (a + b) r) (hf : ∀ j, j < b → F (a + j) = true) : r = a + b := by
  have h1 := h.hi
  have h2 := h.lo
  rcases Nat.lt_or_ge r (a + b) with hlt | hge
  · have := h.off hlt
    have h3 := hf (r - a) (by omega)
    rw [show a + (r - a) = r from by omega, this] at h3
    cases h3
  · omega
theorem fe_some {F : Nat → Bool} {a b r j : Nat} (h : FE F a (a + b) r) (hj : j < b) (hf : F (a + j) = false) : r < a + b := by
  rcases Nat.lt_or_ge r (a + b) with hlt | hge
  · exact hlt
  · have := h.on (a + j) (by omega) (by omega)
    rw [hf] at this
    cases this

set_option maxRecDepth 100000 in
set_option maxHeartbeats 2000000 in
theorem TakeRun_any {O : Nat → Prop} {B : Nat} {m : Mo} {w : World} (s k : Int) (h : Hp w O B m) (hs : -9223372036854775808 ≤ s ∧ s ≤ 9223372036854775807) :
    Calls Tryd.prog 38 #[.pointer (some ⟨B, 0, none⟩), .int .i64 s, .int .i64 k] w fun e w' => e = .returned (.int .i64 (trE m s k)) ∧ Mut w O B (trD m s k) w' := by
  have HM := Lib.hid (made_any h)
  have HI := Lib.hid (inside_any s k h hs)
  have HH := Lib.hid h
  cases hin : inM m s k
  · rw [hin] at HI
    have HE := Lib.hid (trE_out hin)
    clear h hin
    go_enter Tryd.func38, Tryd.ntmps38
    go_wp2_with (first | (go_at_call 33; refine HM.out.mono ?_; rintro x _ ⟨rfl, rfl⟩) | (go_at_call 52; refine HI.out.mono ?_; rintro x _ ⟨rfl, rfl⟩))
    go_ret
    exact ⟨ret_int HE.out.1.symm, by rw [HE.out.2]; exact Mut.same HH.out (Below.refl _ _)⟩
  · rw [hin] at HI
    have hn2 := h.wf.n2
    obtain ⟨a, b, rfl, rfl, hb, hab⟩ := inM_bd hin
    have HIN := Lib.hid hin
    have HAB := Lib.hid hab
    have hab2 : a + b ≤ 1024 := by omega
    have HF := Lib.hid (freeEnd_any a (a + b) h (by omega) hab)
    obtain ⟨E, hE⟩ : ∃ E, a + b = E := ⟨_, rfl⟩
    have HEE := Lib.hid hE
    have hE2 : (E : Int) = (a : Int) + (b : Int) := by omega
    rw [hE, hE2] at HF
    clear h hin hs hn2 hab hE
    by_cases hall : ∀ j, j < b → m.F (a + j) = true
    · have HALL := Lib.hid hall
      have HT := Lib.hid (trE_yes HIN.out hall)
      clear hall
      have hE1024 : E ≤ 1024 := by omega
      go_enter Tryd.func38, Tryd.ntmps38
      go_wp2_with (first | (go_at_call 33; refine HM.out.mono ?_; rintro x _ ⟨rfl, rfl⟩) | (go_at_call 52; refine HI.out.mono ?_; rintro x _ ⟨rfl, rfl⟩))
      refine HF.out.mono ?_
      rintro x w1 ⟨⟨r, hr, rfl⟩, hb1⟩
      obtain rfl : r = E := by
        have := fe_all (b := b) (r := r) (by rw [HEE.out]; exact hr) HALL.out
        have := HEE.out
        omega
      have HB1 := Lib.hid hb1
      clear hr hb1
      have haE : a ≤ r := by omega
      have hlt0 : ¬ ((r : Int) < (a : Int) + (b : Int)) := by omega
      go_wp2_with fail
      obtain ⟨E, hE⟩ : ∃ E, E = r := ⟨_, rfl⟩
      rw [← hE2, ← hE]
      rw [← hE] at hE1024 haE HEE
      clear hE hE2 hlt0
      go_loopw [1] (fun v wr => ∃ k : Nat, v = .int .i64 k ∧ a ≤ k ∧ k ≤ E ∧ Mut w O B ⟨m.n, setF m.F a k false⟩ wr) (fun v _ => E - (intOf v).toNat)
      case atStart => exact ⟨a, rfl, Nat.le_refl _, haE, by rw [setF_none (Nat.le_refl _)]; exact Mut.same HH.out HB1.out⟩
      case round =>
        obtain ⟨k, rfl, hk1, hk2, hM⟩ := hrel
        have HM := Lib.hid hM
        by_cases hlt : k < E
        · have hF : setF m.F a k false k = true := by
            rw [setF_out (by omega)]
            have := HALL.out (k - a) (by have := HEE.out; omega)
            rwa [show a + (k - a) = k from by omega] at this
          obtain ⟨j, hjK, hb⟩ := bk_ex hM.1.wf.f (hM.1.wf.K).2.2.1 hF
          have hj11 : j ≤ 11 := by have := (hM.1.wf.K).2.1; omega
          have hble := bk_le hM.1.wf.f hb
          have hfl := fl_le j k
          have hflt := fl_lt j k
          have HC := Lib.hid (blockOf_yes hM.1 hb)
          have HEN := Lib.hid (fun w => end_any (fl j k) j w hj11 (by omega))
          by_cases hcd : fl j k + 2 ^ j ≤ E
          · have HTK := Lib.hid (fun w1 (hb1 : Below wr.heap.size wr w1) => take_any (fl j k) j k (fl j k + 2 ^ j) (hM.1.below hb1) hb (fl_le j k) (by omega) (by omega))
            have hTO : setF (setF m.F a k false) k (fl j k + 2 ^ j) false = setF m.F a (fl j k + 2 ^ j) false := setF_join hk1 (by omega)
            simp only [hTO] at HTK
            obtain ⟨R, hR⟩ : ∃ R, fl j k + 2 ^ j = R := ⟨_, rfl⟩
            rw [hR] at HEN hcd
            have hcd' :  (R : Int) ≤ (E : Int) := by omega
            simp only [hR] at HTK
            rw [hR] at hflt
            have hkR : k < R := hflt
            have hRE : R ≤ E := by omega
            generalize fl j k = S at HC HEN HTK
            clear hTO hM hb hble hfl hflt hF hcd hjK hR
            go_wp2_with fail
            refine HC.out.mono ?_
            rintro x w1 ⟨rfl, hb1⟩
            have HB1 := Lib.hid hb1
            clear hb1
            go_wp2_with fail
            refine (HEN.out _).mono ?_
            rintro x w2 ⟨rfl, hb2⟩
            have hb12 := btr (HB1.out.alloc HB1.out.size _) hb2 (Nat.le_refl _)
            obtain ⟨q0, q1⟩ := two_cells w1 w1.heap.size (.int .i64 S) (.int .i64 j) 73 rfl
            have z0 := (hb2.cell (p := ⟨w1.heap.size, 0, none⟩) (by simp)).trans q0
            have z1 := (hb2.cell (p := ⟨w1.heap.size, 1, none⟩) (by simp)).trans q1
            have HB12 := Lib.hid hb12
            clear hb2 hb12 q0 q1
            go_wp2_with fail
            refine (HTK.out _ HB12.out).mono ?_
            rintro x w3 ⟨rfl, hM3⟩
            have HM3 := Lib.hid (HM.out.trans (Mut.after HB12.out hM3))
            clear hM3 z0 z1
            go_wp2_with fail
            go_roundw
            case rel => exact ⟨R, rfl, by omega, by omega, HM3.out⟩
            case measure => simp [intOf]; omega
          · have HTK := Lib.hid (fun w1 (hb1 : Below wr.heap.size wr w1) => take_any (fl j k) j k E (hM.1.below hb1) hb (fl_le j k) (by omega) (by omega))
            have hTO : setF (setF m.F a k false) k E false = setF m.F a E false := setF_join hk1 (by omega)
            simp only [hTO] at HTK
            obtain ⟨R, hR⟩ : ∃ R, fl j k + 2 ^ j = R := ⟨_, rfl⟩
            rw [hR] at HEN hcd
            have hcd' : ¬  (R : Int) ≤ (E : Int) := by omega
            
            generalize fl j k = S at HC HEN HTK
            clear hTO hM hb hble hfl hflt hF hcd hjK hR
            go_wp2_with fail
            refine HC.out.mono ?_
            rintro x w1 ⟨rfl, hb1⟩
            have HB1 := Lib.hid hb1
            clear hb1
            go_wp2_with fail
            refine (HEN.out _).mono ?_
            rintro x w2 ⟨rfl, hb2⟩
            have hb12 := btr (HB1.out.alloc HB1.out.size _) hb2 (Nat.le_refl _)
            obtain ⟨q0, q1⟩ := two_cells w1 w1.heap.size (.int .i64 S) (.int .i64 j) 73 rfl
            have z0 := (hb2.cell (p := ⟨w1.heap.size, 0, none⟩) (by simp)).trans q0
            have z1 := (hb2.cell (p := ⟨w1.heap.size, 1, none⟩) (by simp)).trans q1
            have HB12 := Lib.hid hb12
            clear hb2 hb12 q0 q1
            go_wp2_with fail
            refine (HTK.out _ HB12.out).mono ?_
            rintro x w3 ⟨rfl, hM3⟩
            have HM3 := Lib.hid (HM.out.trans (Mut.after HB12.out hM3))
            clear hM3 z0 z1
            go_wp2_with fail
            go_roundw
            case rel => exact ⟨E, rfl, by omega, by omega, HM3.out⟩
            case measure => simp [intOf]; omega
        · go_wp2_with fail
          go_ret
          obtain rfl : k = E := by omega
          refine ⟨ret_int HT.out.1.symm, ?_⟩
          rw [HT.out.2, HEE.out]
          exact hM
    · obtain ⟨j, hj, hf⟩ : ∃ j, j < b ∧ m.F (a + j) = false := by
        rcases Classical.not_forall.1 hall with ⟨j, hj⟩
        rcases Classical.not_imp.1 hj with ⟨h1, h2⟩
        exact ⟨j, h1, by simpa using h2⟩
      have HT := Lib.hid (trE_no HIN.out hj hf)
      have HLT := Lib.hid (fun r (hr : FE m.F a (a + b) r) => fe_some hr hj hf)
      clear hall hj hf
      go_enter Tryd.func38, Tryd.ntmps38
      go_wp2_with (first | (go_at_call 33; refine HM.out.mono ?_; rintro x _ ⟨rfl, rfl⟩) | (go_at_call 52; refine HI.out.mono ?_; rintro x _ ⟨rfl, rfl⟩))
      refine HF.out.mono ?_
      rintro x w1 ⟨⟨r, hr, rfl⟩, hb1⟩
      have hlt0 : ((r : Int) < (a : Int) + (b : Int)) := by
        have := HLT.out r (by rw [HEE.out]; exact hr)
        omega
      clear hr
      go_wp2_with fail
      go_ret
      exact ⟨ret_int HT.out.1.symm, by rw [HT.out.2]; exact Mut.same HH.out hb1⟩

end Go.Proofs.YtnmejilpifmlnaaDoor
