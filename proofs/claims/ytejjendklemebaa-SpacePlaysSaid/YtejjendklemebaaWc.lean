/- Package space: Map, Unmap, Release, Write, Fill, Copy. -/
import Derived.Test.YtejjendklemebaaWb
namespace Go.Proofs.Ytejjendklemebaa
open Go.RowKit

theorem store_any {O : Nat → Prop} {B : Nat} {m : Mo} {w : World} (i : Nat) (v : Int) (h : Sp w O B m) (hi : i < 32 * m.n) (hs : m.st (i / 32) ≠ 0) :
    Calls Try.prog 64 #[.pointer (some ⟨B, 0, none⟩), .int .i64 (8 * i), .int .i64 v] w fun e w' => e = .returned (.tuple #[]) ∧ Mut w O B (putM m i v) w' := by
  by_cases h2 : m.st (i / 32) = 2
  · exact store_old i v h hi h2
  · exact store_new i v h hi hs h2

theorem mapE_in {m : Mo} {s k : Int} (h : inM m s k = false) : mapE m s k = 1 := by unfold mapE; rw [h]; rfl
theorem loseE_in {m : Mo} {s k : Int} (h : inM m s k = false) : loseE m s k = 1 := by unfold loseE; rw [h]; rfl
theorem mapD_of {m : Mo} {s k : Int} (h : mapE m s k ≠ 0) : mapD m s k = m := if_neg h
theorem loseD_of {m : Mo} {s k v : Int} (h : loseE m s k ≠ 0) : loseD m s k v = m := if_neg h

set_option maxHeartbeats 800000 in
theorem Map_any {O : Nat → Prop} {B : Nat} {m : Mo} {w : World} (s k : Int) (h : Sp w O B m) (hs : -9223372036854775808 ≤ s ∧ s ≤ 9223372036854775807) :
    Calls Try.prog 34 #[.pointer (some ⟨B, 0, none⟩), .int .i64 s, .int .i64 k] w fun e w' => e = .returned (.int .i64 (mapE m s k)) ∧ Mut w O B (mapD m s k) w' := by
  have HM := Lib.hid (made_any h)
  have hI := inside_any s k h hs
  cases hin : inM m s k
  · rw [hin] at hI
    rw [mapD_of (by rw [mapE_in hin]; omega), mapE_in hin]
    have HI := Lib.hid hI
    have HS := Lib.hid h
    clear h hin hI
    go_enter Try.func34, Try.ntmps34
    go_wp2_with (first
      | (go_at_call 38; refine HM.out.mono ?_; rintro e w1 ⟨rfl, rfl⟩)
      | (go_at_call 57; refine HI.out.mono ?_; rintro e w1 ⟨rfl, rfl⟩))
    go_ret
    exact ⟨rfl, Mut.same HS.out (Below.refl _ _)⟩
  · rw [hin] at hI
    have HI := Lib.hid hI
    obtain ⟨a, b, rfl, rfl, hb1, hb2⟩ := inM_bd hin
    obtain ⟨A, cap, pt, hA⟩ := h
    have c0 := hA.c0
    have hn2 := hA.wf.n2
    have hcp := hA.cp
    have hcf := containsFunc_any hA a b (cap - a) (by omega)
    have hSp : Sp w O B m := ⟨A, cap, pt, hA⟩
    have HS := Lib.hid hSp
    clear hSp
    cases hnn : noneM m a b
    · have he : mapE m a b = 5 := by unfold mapE; rw [hin, if_pos rfl, Int.toNat_natCast, Int.toNat_natCast, hnn]; rfl
      rw [mapD_of (by omega), he]
      rw [hnn] at hcf
      have HC := Lib.hid hcf
      clear hA hin hI hcf hnn he hs
      go_enter Try.func34, Try.ntmps34
      go_wp2_with (first
        | (go_at_call 38; refine HM.out.mono ?_; rintro e w1 ⟨rfl, rfl⟩)
        | (go_at_call 57; refine HI.out.mono ?_; rintro e w1 ⟨rfl, rfl⟩)
        | (go_at_call 66; rw [show a + b - a = b from by omega]; refine HC.out.mono ?_; rintro e w1 ⟨rfl, hb1⟩))
      go_ret
      exact ⟨rfl, Mut.same HS.out hb1⟩
    · have he : mapE m a b = 0 := by unfold mapE; rw [hin, if_pos rfl, Int.toNat_natCast, Int.toNat_natCast, hnn]; rfl
      have hd : mapD m a b = setM m a b 1 := by unfold mapD; rw [if_pos he, Int.toNat_natCast, Int.toNat_natCast]
      rw [he, hd]
      rw [hnn] at hcf
      have HC := Lib.hid hcf
      clear hA hin hI hcf hnn he hs hd
      go_enter Try.func34, Try.ntmps34
      go_wp2_with (first
        | (go_at_call 38; refine HM.out.mono ?_; rintro e w1 ⟨rfl, rfl⟩)
        | (go_at_call 57; refine HI.out.mono ?_; rintro e w1 ⟨rfl, rfl⟩)
        | (go_at_call 66; rw [show a + b - a = b from by omega]; refine HC.out.mono ?_; rintro e w1 ⟨rfl, hb1⟩)
        | (go_at_call 67; refine (renew_any a b true 1 rfl (HS.out.below hb1) hb2).mono ?_; rintro e w2 ⟨rfl, hM2⟩))
      go_ret
      exact ⟨rfl, Mut.after hb1 hM2⟩

set_option maxHeartbeats 800000 in
theorem lose_any {O : Nat → Prop} {B : Nat} {m : Mo} {w : World} (s k : Int) (b' : Bool) (v : Int) (hv : v = if b' = true then 1 else 0) (h : Sp w O B m) (hs : -9223372036854775808 ≤ s ∧ s ≤ 9223372036854775807) :
    Calls Try.prog 65 #[.pointer (some ⟨B, 0, none⟩), .int .i64 s, .int .i64 k, .agg #[.bool b', .pointer none]] w fun e w' => e = .returned (.int .i64 (loseE m s k)) ∧ Mut w O B (loseD m s k v) w' := by
  obtain ⟨W0, hW⟩ : ∃ W0, W0 = w.alloc (.cells #[.bool b', .pointer none] 72) := ⟨_, rfl⟩
  have hb0 : Below w.heap.size w W0 := by rw [hW]; exact bnew _ _
  have q0 : W0.cell? ⟨w.heap.size, 0, none⟩ = some (.bool b') := by rw [hW]; go_simp
  have q1 : W0.cell? ⟨w.heap.size, 1, none⟩ = some (.pointer none) := by rw [hW]; go_simp
  have hz0 : w.heap.size < W0.heap.size := by rw [hW]; simp
  have h0 := h.below hb0
  have HB0 := Lib.hid hb0
  have HM := Lib.hid (made_any h0)
  have hI := inside_any s k h0 hs
  have HV := Lib.hid hv
  clear h hb0 hv
  cases hin : inM m s k
  · rw [hin] at hI
    rw [loseD_of (by rw [loseE_in hin]; omega), loseE_in hin]
    have HI := Lib.hid hI
    have HS := Lib.hid h0
    clear h0 hin hI
    go_enter Try.func65, Try.ntmps65
    go_wp2_with fail
    rw [← hW]
    clear hW
    go_wp2_with (first
      | (go_at_call 38; refine HM.out.mono ?_; rintro e w1 ⟨rfl, rfl⟩)
      | (go_at_call 57; refine HI.out.mono ?_; rintro e w1 ⟨rfl, rfl⟩))
    go_ret
    exact ⟨rfl, Mut.after HB0.out (Mut.same HS.out (Below.refl _ _))⟩
  · rw [hin] at hI
    have HI := Lib.hid hI
    obtain ⟨a, b, rfl, rfl, hb1, hb2⟩ := inM_bd hin
    obtain ⟨A, cap, pt, hA⟩ := h0
    have c0 := hA.c0
    have hn2 := hA.wf.n2
    have hcp := hA.cp
    have hcf := allMapped_any hA a b (cap - a) (by omega)
    have hSp : Sp W0 O B m := ⟨A, cap, pt, hA⟩
    have HS := Lib.hid hSp
    clear hSp
    cases hnn : allM m a b
    · have he : loseE m a b = 7 := by unfold loseE; rw [hin, if_pos rfl, Int.toNat_natCast, Int.toNat_natCast, hnn]; rfl
      rw [loseD_of (by omega), he]
      rw [hnn] at hcf
      have HC := Lib.hid hcf
      clear hA hin hI hcf hnn he hs
      go_enter Try.func65, Try.ntmps65
      go_wp2_with fail
      rw [← hW]
      clear hW
      go_wp2_with (first
        | (go_at_call 38; refine HM.out.mono ?_; rintro e w1 ⟨rfl, rfl⟩)
        | (go_at_call 57; refine HI.out.mono ?_; rintro e w1 ⟨rfl, rfl⟩)
        | (go_at_call 75; rw [show a + b - a = b from by omega]; refine HC.out.mono ?_; rintro e w1 ⟨rfl, hb1⟩))
      go_ret
      exact ⟨rfl, Mut.after HB0.out (Mut.same HS.out hb1)⟩
    · have he : loseE m a b = 0 := by unfold loseE; rw [hin, if_pos rfl, Int.toNat_natCast, Int.toNat_natCast, hnn]; rfl
      have hd : loseD m a b v = setM m a b v := by unfold loseD; rw [if_pos he, Int.toNat_natCast, Int.toNat_natCast]
      rw [he, hd]
      rw [hnn] at hcf
      have HC := Lib.hid hcf
      clear hA hin hI hcf hnn he hs hd
      go_enter Try.func65, Try.ntmps65
      go_wp2_with fail
      rw [← hW]
      clear hW
      go_wp2_with (first
        | (go_at_call 38; refine HM.out.mono ?_; rintro e w1 ⟨rfl, rfl⟩)
        | (go_at_call 57; refine HI.out.mono ?_; rintro e w1 ⟨rfl, rfl⟩)
        | (go_at_call 75; rw [show a + b - a = b from by omega]; refine HC.out.mono ?_; rintro e w1 ⟨rfl, hb1⟩; have r0 := (hb1.cell (p := ⟨w.heap.size, 0, none⟩) hz0).trans q0; have r1 := (hb1.cell (p := ⟨w.heap.size, 1, none⟩) hz0).trans q1)
        | (go_at_call 67; refine (renew_any a b b' v HV.out (HS.out.below hb1) hb2).mono ?_; rintro e w2 ⟨rfl, hM2⟩))
      go_ret
      exact ⟨rfl, Mut.after HB0.out (Mut.after hb1 hM2)⟩

set_option maxHeartbeats 400000 in
theorem Unmap_any {O : Nat → Prop} {B : Nat} {m : Mo} {w : World} (s k : Int) (h : Sp w O B m) (hs : -9223372036854775808 ≤ s ∧ s ≤ 9223372036854775807) :
    Calls Try.prog 33 #[.pointer (some ⟨B, 0, none⟩), .int .i64 s, .int .i64 k] w fun e w' => e = .returned (.int .i64 (loseE m s k)) ∧ Mut w O B (loseD m s k 0) w' := by
  have HL := Lib.hid (lose_any s k false 0 rfl h hs)
  clear h hs
  go_enter Try.func33, Try.ntmps33
  go_wp2_with (go_at_call 65; refine HL.out.mono ?_; rintro e w1 ⟨rfl, hM⟩)
  go_ret
  exact ⟨rfl, hM⟩
set_option maxHeartbeats 400000 in
theorem Release_any {O : Nat → Prop} {B : Nat} {m : Mo} {w : World} (s k : Int) (h : Sp w O B m) (hs : -9223372036854775808 ≤ s ∧ s ≤ 9223372036854775807) :
    Calls Try.prog 35 #[.pointer (some ⟨B, 0, none⟩), .int .i64 s, .int .i64 k] w fun e w' => e = .returned (.int .i64 (loseE m s k)) ∧ Mut w O B (loseD m s k 1) w' := by
  have HL := Lib.hid (lose_any s k true 1 rfl h hs)
  clear h hs
  go_enter Try.func35, Try.ntmps35
  go_wp2_with (go_at_call 65; refine HL.out.mono ?_; rintro e w1 ⟨rfl, hM⟩)
  go_ret
  exact ⟨rfl, hM⟩

end Go.Proofs.Ytejjendklemebaa
