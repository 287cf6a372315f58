/- The document's own heap: Give, TakeRun, IsFree, Free. -/
import Derived.Test.YtnmejilpifmlnaaDoorGb
namespace Go.Proofs.YtnmejilpifmlnaaDoor
open Go.RowKit

theorem rGive_any {O : Nat → Prop} {B : Nat} {m : Mo} {w : World} (s k : Int) (h : Rf w O B m) (hs : InR s) :
    Calls Tryd.prog 36 #[.pointer (some ⟨B, 0, none⟩), .int .i64 s, .int .i64 k] w fun e w' => e = .returned (.int .i64 (givE m s k)) ∧ RMut w O B (givD m s k) w' := by
  have HM := Lib.hid (rmade_any h)
  have HI := Lib.hid (rin_any s k h hs)
  have HH := Lib.hid h
  cases hin : inM m s k with
  | false =>
    obtain ⟨hE, hD⟩ := givE_out hin
    rw [hin] at HI
    rw [hE, hD]
    clear h hin hE hD
    go_enter Tryd.func36, Tryd.ntmps36
    go_wp2_with (first | (go_at_call 35; refine HM.out.mono ?_; rintro e _ ⟨rfl, rfl⟩) | (go_at_call 57; refine HI.out.mono ?_; rintro e _ ⟨rfl, rfl⟩))
    go_ret
    exact ⟨rfl, RMut.same HH.out (Below.refl _ _)⟩
  | true =>
    have hb := of_decide_eq_true hin
    rw [hin] at HI
    obtain ⟨s, rfl⟩ : ∃ t : Nat, s = t := ⟨s.toNat, by omega⟩
    obtain ⟨k, rfl⟩ : ∃ t : Nat, k = t := ⟨k.toNat, by omega⟩
    have HA := Lib.hid (rall_any s k false h (by omega))
    have HS := Lib.hid (rset_any s k true h (by omega))
    have hE : givE m s k = if sameM m s k false = true then 0 else 9 := by unfold givE; rw [if_pos hin]; rfl
    have hD : givD m s k = if givE m s k = 0 then ⟨m.n, setF m.F s (s + k) true⟩ else m := rfl
    rw [hD, hE]
    clear h hin hb hE hD
    cases hsm : sameM m s k false with
    | false =>
      rw [hsm] at HA
      go_enter Tryd.func36, Tryd.ntmps36
      go_wp2_with (first | (go_at_call 35; refine HM.out.mono ?_; rintro e _ ⟨rfl, rfl⟩) | (go_at_call 57; refine HI.out.mono ?_; rintro e _ ⟨rfl, rfl⟩) | (go_at_call 58; refine HA.out.mono ?_; rintro e _ ⟨rfl, rfl⟩))
      go_ret
      exact ⟨rfl, RMut.same HH.out (Below.refl _ _)⟩
    | true =>
      rw [hsm] at HA
      go_enter Tryd.func36, Tryd.ntmps36
      go_wp2_with (first | (go_at_call 35; refine HM.out.mono ?_; rintro e _ ⟨rfl, rfl⟩) | (go_at_call 57; refine HI.out.mono ?_; rintro e _ ⟨rfl, rfl⟩) | (go_at_call 58; refine HA.out.mono ?_; rintro e _ ⟨rfl, rfl⟩) | (go_at_call 59; refine HS.out.mono ?_; rintro e w1 ⟨rfl, hM⟩; have HM1 := Lib.hid hM; clear hM))
      go_ret
      exact ⟨rfl, HM1.out⟩

theorem rTakeRun_any {O : Nat → Prop} {B : Nat} {m : Mo} {w : World} (s k : Int) (h : Rf w O B m) (hs : InR s) :
    Calls Tryd.prog 39 #[.pointer (some ⟨B, 0, none⟩), .int .i64 s, .int .i64 k] w fun e w' => e = .returned (.int .i64 (trE m s k)) ∧ RMut w O B (trD m s k) w' := by
  have HM := Lib.hid (rmade_any h)
  have HI := Lib.hid (rin_any s k h hs)
  have HH := Lib.hid h
  cases hin : inM m s k with
  | false =>
    have hE : trE m s k = 1 := by unfold trE; rw [hin]; rfl
    have hD : trD m s k = m := by unfold trD; rw [hE, if_neg (by decide)]
    rw [hin] at HI
    rw [hE, hD]
    clear h hin hE hD
    go_enter Tryd.func39, Tryd.ntmps39
    go_wp2_with (first | (go_at_call 35; refine HM.out.mono ?_; rintro e _ ⟨rfl, rfl⟩) | (go_at_call 57; refine HI.out.mono ?_; rintro e _ ⟨rfl, rfl⟩))
    go_ret
    exact ⟨rfl, RMut.same HH.out (Below.refl _ _)⟩
  | true =>
    have hb := of_decide_eq_true hin
    rw [hin] at HI
    obtain ⟨s, rfl⟩ : ∃ t : Nat, s = t := ⟨s.toNat, by omega⟩
    obtain ⟨k, rfl⟩ : ∃ t : Nat, k = t := ⟨k.toNat, by omega⟩
    have HA := Lib.hid (rall_any s k true h (by omega))
    have HS := Lib.hid (rset_any s k false h (by omega))
    have hE : trE m s k = if sameM m s k true = true then 0 else 4 := by unfold trE; rw [if_pos hin]; rfl
    have hD : trD m s k = if trE m s k = 0 then ⟨m.n, setF m.F s (s + k) false⟩ else m := rfl
    rw [hD, hE]
    clear h hin hb hE hD
    cases hsm : sameM m s k true with
    | false =>
      rw [hsm] at HA
      go_enter Tryd.func39, Tryd.ntmps39
      go_wp2_with (first | (go_at_call 35; refine HM.out.mono ?_; rintro e _ ⟨rfl, rfl⟩) | (go_at_call 57; refine HI.out.mono ?_; rintro e _ ⟨rfl, rfl⟩) | (go_at_call 58; refine HA.out.mono ?_; rintro e _ ⟨rfl, rfl⟩))
      go_ret
      exact ⟨rfl, RMut.same HH.out (Below.refl _ _)⟩
    | true =>
      rw [hsm] at HA
      go_enter Tryd.func39, Tryd.ntmps39
      go_wp2_with (first | (go_at_call 35; refine HM.out.mono ?_; rintro e _ ⟨rfl, rfl⟩) | (go_at_call 57; refine HI.out.mono ?_; rintro e _ ⟨rfl, rfl⟩) | (go_at_call 58; refine HA.out.mono ?_; rintro e _ ⟨rfl, rfl⟩) | (go_at_call 59; refine HS.out.mono ?_; rintro e w1 ⟨rfl, hM⟩; have HM1 := Lib.hid hM; clear hM))
      go_ret
      exact ⟨rfl, HM1.out⟩

set_option maxHeartbeats 1000000 in
theorem rIsFree_any {O : Nat → Prop} {B : Nat} {m : Mo} {w : World} (p : Int) (h : Rf w O B m) : Calls Tryd.prog 21 #[.pointer (some ⟨B, 0, none⟩), .int .i64 p] w fun e w' => e = .returned (.bool (frV m p)) ∧ w = w' := by
  have HM := Lib.hid (rmade_any h)
  have hf := h.choose_spec.choose_spec.wf.f
  obtain ⟨A, cap, h⟩ := h
  have c0 := h.b.cell 0 (by omega)
  have hn2 := h.wf.n2
  by_cases h0 : 0 ≤ p
  · obtain ⟨p, rfl⟩ : ∃ t : Nat, p = t := ⟨p.toNat, by omega⟩
    have hv : frV m (p : Int) = m.F p := by
      unfold frV
      cases h : m.F p <;> simp [h]
    rw [hv]
    by_cases hp : p < m.n
    · have ca := h.a.cell p hp
      generalize m.F p = f at ca
      generalize m.n = n at *
      clear h hf hv
      go_enter Tryd.func21, Tryd.ntmps21
      go_wp2_with (go_at_call 35; refine HM.out.mono ?_; rintro e _ ⟨rfl, rfl⟩)
      go_ret
      exact ⟨rfl, rfl⟩
    · have hfp : m.F p = false := by
        cases hx : m.F p
        · rfl
        · exact absurd (hf p hx) hp
      rw [hfp]
      generalize m.n = n at *
      clear h hf hv hfp
      go_enter Tryd.func21, Tryd.ntmps21
      go_wp2_with (go_at_call 35; refine HM.out.mono ?_; rintro e _ ⟨rfl, rfl⟩)
      go_ret
      exact ⟨rfl, rfl⟩
  · have hv : frV m p = false := decide_eq_false (fun h => h0 h.1)
    rw [hv]
    clear h hf hv c0
    go_enter Tryd.func21, Tryd.ntmps21
    go_wp2_with (go_at_call 35; refine HM.out.mono ?_; rintro e _ ⟨rfl, rfl⟩)
    go_ret
    exact ⟨rfl, rfl⟩

end Go.Proofs.YtnmejilpifmlnaaDoor
