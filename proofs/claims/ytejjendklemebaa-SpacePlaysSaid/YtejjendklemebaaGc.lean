/- The document's own space: Map, Unmap, Release; which words can be accessed; Read; counts; State. -/
import Derived.Test.YtejjendklemebaaGb
namespace Go.Proofs.Ytejjendklemebaa
open Go.RowKit

set_option maxHeartbeats 800000 in
theorem rMap_any {O : Nat → Prop} {R : Nat} {m : Mo} {w : World} (s k : Int) (h : Rf w O R m) (hs : -9223372036854775808 ≤ s ∧ s ≤ 9223372036854775807) :
    Calls Try.prog 41 #[.pointer (some ⟨R, 0, none⟩), .int .i64 s, .int .i64 k] w fun e w' => e = .returned (.int .i64 (mapE m s k)) ∧ RMut w O R (mapD m s k) w' := by
  have HM := Lib.hid (rmade_any h)
  have hI := rin_any s k h hs
  have HR := Lib.hid h
  by_cases hin : inM m s k = true
  · obtain ⟨a, b, rfl, rfl, hb, hab⟩ := inM_bd hin
    rw [hin] at hI
    have HI := Lib.hid hI
    have hN := rhas_none a b h hab
    by_cases hno : noneM m a b = true
    · rw [hno] at hN
      have HN := Lib.hid hN
      have HS := Lib.hid (rset_any a b 1 (.inr rfl) h hab)
      have he : mapE m a b = 0 := by unfold mapE; rw [if_pos hin, show ((a : Int)).toNat = a from by omega, show ((b : Int)).toNat = b from by omega, if_pos hno]
      have HD := Lib.hid (show mapD m a b = setM m a b 1 from by unfold mapD; rw [if_pos he]; rfl)
      have HE := Lib.hid he
      clear h hI hin hN hno he hs
      go_enter Try.func41, Try.ntmps41
      go_wp2_with fail
      refine HM.out.mono ?_; rintro e _ ⟨rfl, rfl⟩
      go_wp2_with fail
      refine HI.out.mono ?_; rintro e _ ⟨rfl, rfl⟩
      go_wp2_with fail
      refine HN.out.mono ?_; rintro e _ ⟨rfl, rfl⟩
      go_wp2_with fail
      refine HS.out.mono ?_; rintro e w1 ⟨rfl, hM⟩
      have HMM := Lib.hid hM
      clear hM
      go_wp2_with fail
      go_ret
      exact ⟨ret_int HE.out.symm, by rw [HD.out]; exact HMM.out⟩
    · rw [show noneM m a b = false by simpa using hno] at hN
      have HN := Lib.hid hN
      have he : mapE m a b = 5 := by unfold mapE; rw [if_pos hin, show ((a : Int)).toNat = a from by omega, show ((b : Int)).toNat = b from by omega, if_neg hno]
      have HD := Lib.hid (mapD_of (m := m) (s := a) (k := b) (by rw [he]; omega))
      have HE := Lib.hid he
      clear h hI hin hN hno he hs
      go_enter Try.func41, Try.ntmps41
      go_wp2_with fail
      refine HM.out.mono ?_; rintro e _ ⟨rfl, rfl⟩
      go_wp2_with fail
      refine HI.out.mono ?_; rintro e _ ⟨rfl, rfl⟩
      go_wp2_with fail
      refine HN.out.mono ?_; rintro e _ ⟨rfl, rfl⟩
      go_wp2_with fail
      go_ret
      exact ⟨ret_int HE.out.symm, by rw [HD.out]; exact RMut.same HR.out (Below.refl _ _)⟩
  · have hin' : inM m s k = false := by simpa using hin
    rw [hin'] at hI
    have HI := Lib.hid hI
    have he := mapE_in hin'
    have HD := Lib.hid (mapD_of (m := m) (s := s) (k := k) (by rw [he]; omega))
    have HE := Lib.hid he
    clear h hI hin hin' he hs
    go_enter Try.func41, Try.ntmps41
    go_wp2_with fail
    refine HM.out.mono ?_; rintro e _ ⟨rfl, rfl⟩
    go_wp2_with fail
    refine HI.out.mono ?_; rintro e _ ⟨rfl, rfl⟩
    go_wp2_with fail
    go_ret
    exact ⟨ret_int HE.out.symm, by rw [HD.out]; exact RMut.same HR.out (Below.refl _ _)⟩

set_option maxHeartbeats 800000 in
theorem rlose_any {O : Nat → Prop} {R : Nat} {m : Mo} {w : World} (s k v : Int) (hv : v = 0 ∨ v = 1) (h : Rf w O R m) (hs : -9223372036854775808 ≤ s ∧ s ≤ 9223372036854775807) :
    Calls Try.prog 71 #[.pointer (some ⟨R, 0, none⟩), .int .i64 s, .int .i64 k, .int .i64 v] w fun e w' => e = .returned (.int .i64 (loseE m s k)) ∧ RMut w O R (loseD m s k v) w' := by
  have HM := Lib.hid (rmade_any h)
  have hI := rin_any s k h hs
  have HR := Lib.hid h
  by_cases hin : inM m s k = true
  · obtain ⟨a, b, rfl, rfl, hb, hab⟩ := inM_bd hin
    rw [hin] at hI
    have HI := Lib.hid hI
    have hN := rhas_all a b h hab
    by_cases hno : allM m a b = true
    · rw [hno] at hN
      have HN := Lib.hid hN
      have HS := Lib.hid (rset_any a b v hv h hab)
      have he : loseE m a b = 0 := by unfold loseE; rw [if_pos hin, show ((a : Int)).toNat = a from by omega, show ((b : Int)).toNat = b from by omega, if_pos hno]
      have HD := Lib.hid (show loseD m a b v = setM m a b v from by unfold loseD; rw [if_pos he]; rfl)
      have HE := Lib.hid he
      clear h hI hin hN hno he hs hv
      go_enter Try.func71, Try.ntmps71
      go_wp2_with fail
      refine HM.out.mono ?_; rintro e _ ⟨rfl, rfl⟩
      go_wp2_with fail
      refine HI.out.mono ?_; rintro e _ ⟨rfl, rfl⟩
      go_wp2_with fail
      refine HN.out.mono ?_; rintro e _ ⟨rfl, rfl⟩
      go_wp2_with fail
      refine HS.out.mono ?_; rintro e w1 ⟨rfl, hM⟩
      have HMM := Lib.hid hM
      clear hM
      go_wp2_with fail
      go_ret
      exact ⟨ret_int HE.out.symm, by rw [HD.out]; exact HMM.out⟩
    · rw [show allM m a b = false by simpa using hno] at hN
      have HN := Lib.hid hN
      have he : loseE m a b = 7 := by unfold loseE; rw [if_pos hin, show ((a : Int)).toNat = a from by omega, show ((b : Int)).toNat = b from by omega, if_neg hno]
      have HD := Lib.hid (loseD_of (m := m) (s := a) (k := b) (v := v) (by rw [he]; omega))
      have HE := Lib.hid he
      clear h hI hin hN hno he hs hv
      go_enter Try.func71, Try.ntmps71
      go_wp2_with fail
      refine HM.out.mono ?_; rintro e _ ⟨rfl, rfl⟩
      go_wp2_with fail
      refine HI.out.mono ?_; rintro e _ ⟨rfl, rfl⟩
      go_wp2_with fail
      refine HN.out.mono ?_; rintro e _ ⟨rfl, rfl⟩
      go_wp2_with fail
      go_ret
      exact ⟨ret_int HE.out.symm, by rw [HD.out]; exact RMut.same HR.out (Below.refl _ _)⟩
  · have hin' : inM m s k = false := by simpa using hin
    rw [hin'] at hI
    have HI := Lib.hid hI
    have he := loseE_in hin'
    have HD := Lib.hid (loseD_of (m := m) (s := s) (k := k) (v := v) (by rw [he]; omega))
    have HE := Lib.hid he
    clear h hI hin hin' he hs hv
    go_enter Try.func71, Try.ntmps71
    go_wp2_with fail
    refine HM.out.mono ?_; rintro e _ ⟨rfl, rfl⟩
    go_wp2_with fail
    refine HI.out.mono ?_; rintro e _ ⟨rfl, rfl⟩
    go_wp2_with fail
    go_ret
    exact ⟨ret_int HE.out.symm, by rw [HD.out]; exact RMut.same HR.out (Below.refl _ _)⟩

theorem rUnmap_any {O : Nat → Prop} {R : Nat} {m : Mo} {w : World} (s k : Int) (h : Rf w O R m) (hs : -9223372036854775808 ≤ s ∧ s ≤ 9223372036854775807) :
    Calls Try.prog 42 #[.pointer (some ⟨R, 0, none⟩), .int .i64 s, .int .i64 k] w fun e w' => e = .returned (.int .i64 (loseE m s k)) ∧ RMut w O R (loseD m s k 0) w' := by
  have HL := Lib.hid (rlose_any s k 0 (.inl rfl) h hs)
  clear h hs
  go_enter Try.func42, Try.ntmps42
  go_wp2_with fail
  refine HL.out.mono ?_; rintro e w1 ⟨rfl, hM⟩
  have HM := Lib.hid hM
  clear hM
  go_wp2_with fail
  go_ret
  exact ⟨rfl, HM.out⟩
theorem rRelease_any {O : Nat → Prop} {R : Nat} {m : Mo} {w : World} (s k : Int) (h : Rf w O R m) (hs : -9223372036854775808 ≤ s ∧ s ≤ 9223372036854775807) :
    Calls Try.prog 43 #[.pointer (some ⟨R, 0, none⟩), .int .i64 s, .int .i64 k] w fun e w' => e = .returned (.int .i64 (loseE m s k)) ∧ RMut w O R (loseD m s k 1) w' := by
  have HL := Lib.hid (rlose_any s k 1 (.inr rfl) h hs)
  clear h hs
  go_enter Try.func43, Try.ntmps43
  go_wp2_with fail
  refine HL.out.mono ?_; rintro e w1 ⟨rfl, hM⟩
  have HM := Lib.hid hM
  clear hM
  go_wp2_with fail
  go_ret
  exact ⟨rfl, HM.out⟩

set_option maxHeartbeats 800000 in
theorem rcan_any {O : Nat → Prop} {R : Nat} {m : Mo} {w : World} (a k : Int) (h : Rf w O R m) (ha : -9223372036854775808 ≤ a ∧ a ≤ 9223372036854775807) (h1 : 0 ≤ k) (h2 : k ≤ 32768) :
    Calls Try.prog 72 #[.pointer (some ⟨R, 0, none⟩), .int .i64 a, .int .i64 k] w fun e w' => e = .returned (.bool (accM m a k)) ∧ w = w' := by
  obtain ⟨S, H, cs, ch, h⟩ := h
  have c0 := h.c0
  have c1 := h.c1
  have hn := h.wf.n1
  have hn2 := h.wf.n2
  have HS := Lib.hid h.s
  clear h
  obtain ⟨n, hnn⟩ : ∃ n, n = m.n := ⟨_, rfl⟩
  rw [← hnn] at c0 c1 hn hn2
  have HN := Lib.hid hnn
  clear hnn
  by_cases hk0 : k = 0
  · subst hk0
    have HA := Lib.hid (show accM m a 0 = true from decide_eq_true (.inl rfl))
    go_enter Try.func72, Try.ntmps72
    go_wp2
    go_ret
    exact ⟨ret_bool HA.out.symm, rfl⟩
  · have hk1 : 1 ≤ k := by omega
    have z0 : (k == 0) = false := by simp; omega
    clear hk0
    by_cases hbad : a < 0 ∨ a % 8 ≠ 0 ∨ 32 * (n : Int) - a / 8 < k
    · have HA := Lib.hid (accM_false (m := m) (a := a) (k := k) hk1 (by have := HN.out; omega))
      by_cases g1 : a < 0
      · clear hbad
        go_enter Try.func72, Try.ntmps72
        go_wp2
        go_ret
        exact ⟨ret_bool HA.out.symm, rfl⟩
      · by_cases g2 : a % 8 = 0
        · obtain ⟨q, rfl⟩ : ∃ q : Nat, a = 8 * q := ⟨(a / 8).toNat, by omega⟩
          have g3 : 32 * (n : Int) - q < k := by omega
          clear hbad g1 g2
          go_enter Try.func72, Try.ntmps72
          go_wp2
          all_goals (go_ret; exact ⟨ret_bool HA.out.symm, rfl⟩)
        · clear hbad
          have g2' : (a % 8 != 0) = true := by simpa using g2
          have g2'' : (a % 8 == 0) = false := by simpa using g2
          clear g2
          go_enter Try.func72, Try.ntmps72
          go_wp2
          all_goals (go_ret; exact ⟨ret_bool HA.out.symm, rfl⟩)
    · obtain ⟨q, rfl⟩ : ∃ q : Nat, a = 8 * q := ⟨(a / 8).toNat, by omega⟩
      obtain ⟨L, rfl⟩ : ∃ L : Nat, k = L := ⟨k.toNat, by omega⟩
      have hqL : q + L ≤ 32 * n := by omega
      clear hbad
      go_enter Try.func72, Try.ntmps72
      go_wp2_with fail
      go_loop [7] (fun i => ∃ t : Nat, t ≤ L ∧ i = .int .i64 t ∧ (∀ j : Nat, j < t → m.st ((q + j) / 32) ≠ 0)) (fun i => L - (intOf i).toNat)
      case atStart => exact ⟨0, by omega, rfl, fun _ h => absurd h (by omega)⟩
      case round =>
        obtain ⟨t, ht, rfl, hall⟩ := hrel
        have HA := Lib.hid hall
        clear hall
        by_cases hlt : t < L
        · have g0 := HS.out.cell ((q + t) / 32) (by have := HN.out; omega)
          by_cases hz : m.st ((q + t) / 32) = 0
          · rw [hz] at g0
            have HZ := Lib.hid hz
            have HF := Lib.hid (show accM m (8 * (q : Int)) (L : Int) = false from decide_eq_false (by
              rintro (h0 | ⟨_, _, _, _, h5⟩)
              · omega
              · have := h5 t (by omega)
                rw [show ((8 * (q : Int)) / 8).toNat = q from by omega] at this
                exact this hz))
            clear hz
            go_wp2_with fail
            go_ret
            exact ⟨ret_bool HF.out.symm, rfl⟩
          · have HZ := Lib.hid hz
            generalize m.st ((q + t) / 32) = V at g0 hz
            have z1 : (V == 0) = false := by simpa using hz
            have z2 : (V != 0) = true := by simpa using hz
            clear hz
            go_wp2_with fail
            go_round
            case rel => exact ⟨t + 1, by omega, by go_num, fun j hj => (by rcases Nat.lt_or_ge j t with hjk | hjk; exact HA.out j hjk; rw [show j = t from by omega]; exact HZ.out)⟩
            case measure => simp [intOf]; omega
        · obtain rfl : t = L := by omega
          have HT := Lib.hid (show accM m (8 * (q : Int)) (t : Int) = true from decide_eq_true (.inr ⟨by omega, by omega, by have := HN.out; omega, by have := HN.out; omega, fun j hj => by
            rw [show ((8 * (q : Int)) / 8).toNat = q from by omega]
            exact HA.out j (by omega)⟩))
          go_wp2_with fail
          go_ret
          exact ⟨ret_bool HT.out.symm, rfl⟩

end Go.Proofs.Ytejjendklemebaa
