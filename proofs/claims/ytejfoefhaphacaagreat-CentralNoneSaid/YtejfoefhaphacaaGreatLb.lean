/- Package span: Index, objectAt, IsTaken, Objects, Run, Class. -/
import Derived.Test.YtejfoefhaphacaaGreatLa
namespace Go.Proofs.YtejfoefhaphacaaGreat
open Go.RowKit

theorem idx_no {m : Mo} {a : Int} (h : a < (adr m 0 : Int)) : idO m a = none := by
  unfold idO
  unfold adr at h
  rw [if_neg (by omega)]
theorem idx_end {m : Mo} {a : Int} (h : ¬ (a - (adr m 0 : Int)) / m.z < m.n) : idO m a = none := by
  unfold idO
  unfold adr at h
  rw [Nat.zero_mul, Nat.add_zero] at h
  rw [if_neg (fun hh => h hh.2)]
theorem idx_at {m : Mo} {a : Int} (h0 : ¬ a < (adr m 0 : Int)) (h : (a - (adr m 0 : Int)) / m.z < m.n) : idO m a = some ((a - (adr m 0 : Int)) / m.z).toNat := by
  unfold idO
  unfold adr at h h0 ⊢
  rw [Nat.zero_mul, Nat.add_zero] at h h0 ⊢
  rw [if_pos ⟨by omega, h⟩]

section
variable {m : Mo} {a : Int} {k : Nat}
theorem ixV_none (h : idO m a = none) : ixV (some m) a = 0 := by simp only [ixV, h]
theorem ixE_none (h : idO m a = none) : ixE (some m) a = 8 := by simp only [ixE, h]
theorem ixV_some (h : idO m a = some k) : ixV (some m) a = k := by simp only [ixV, h]
theorem ixE_some (h : idO m a = some k) : ixE (some m) a = 0 := by simp only [ixE, h]
theorem isV_none (h : obO m a = none) : isV (some m) a = false := by simp only [isV, h]
theorem isE_none (h : obO m a = none) : isE (some m) a = 8 := by simp only [isE, h]
theorem isV_some (h : obO m a = some k) : isV (some m) a = m.f k := by simp only [isV, h]
theorem isE_some (h : obO m a = some k) : isE (some m) a = 0 := by simp only [isE, h]
end

set_option maxHeartbeats 1000000 in
theorem Index_any {O : Nat → Prop} {v : Value} {om : Option Mo} {w : World} (h : Ob false w O v om) (a : Int) (ha : InR a) :
    Calls Tryz.prog 67 #[v, .int .i64 a] w fun e w' => e = .returned (.tuple #[.int .i64 (ixV om a), .int .i64 (ixE om a)]) ∧ Below w.heap.size w w' := by
  cases om with
  | none =>
    have HM := Lib.hid (made_no h.1)
    clear h
    go_enter Tryz.func67, Tryz.ntmps67
    go_wp2_with (go_at_call 54; refine HM.out.mono ?_; rintro e w1 ⟨rfl, rfl⟩)
    go_ret2
    exact ⟨rfl, Below.refl _ _⟩
  | some m =>
    obtain ⟨B, A, c, rfl, h⟩ := h
    have HM := Lib.hid (made_any h)
    have HA := Lib.hid (addr_any h 0 (by omega))
    have hz := h.wf.z1
    have hz2 := h.wf.z2
    have hn2 := h.wf.n2
    have hb0 := (adr_bd h.wf (i := 0) (by omega)).1
    have c1 : w.cell? ⟨B, 1, none⟩ = some (.int .i64 m.z) := h.cells.2.1
    have c4 : w.cell? ⟨B, 4, none⟩ = some (.slice (some ⟨A, 0, none⟩) m.n c) := h.cells.2.2.2.2
    have HW := Lib.hid h.wf
    clear h
    obtain ⟨a1, a2⟩ := ha
    by_cases h1 : a < (adr m 0 : Int)
    · rw [ixV_none (idx_no h1), ixE_none (idx_no h1)]
      generalize adr m 0 = S at *
      go_enter Tryz.func67, Tryz.ntmps67
      go_wp2_with (first | (go_at_call 54; refine HM.out.mono ?_; rintro e w1 ⟨rfl, rfl⟩) | (go_at_call 84; refine HA.out.mono ?_; rintro e w1 ⟨rfl, nq, rfl⟩))
      go_ret2
      exact ⟨rfl, belowN (Below.refl _ _) _⟩
    · have hq0 : 0 ≤ (a - (adr m 0 : Int)) / m.z := Int.ediv_nonneg (by omega) (by omega)
      have hq1 : (a - (adr m 0 : Int)) / m.z ≤ a - (adr m 0 : Int) := Int.ediv_le_self _ (by omega)
      have hzz : ((m.z : Int) == 0) = false := by simp; omega
      obtain ⟨v1, v2⟩ := w64 (a - (adr m 0 : Int)) (by omega)
      obtain ⟨v3, v4⟩ := w64 ((a - (adr m 0 : Int)) / m.z) (by omega)
      have v5 : (a - (adr m 0 : Int)).tdiv m.z = (a - (adr m 0 : Int)) / m.z := Int.tdiv_eq_ediv_of_nonneg (by omega)
      by_cases h2 : (a - (adr m 0 : Int)) / m.z < m.n
      · have hx := idx_at h1 h2
        rw [ixV_some hx, ixE_some hx, Int.toNat_of_nonneg hq0]
        clear hx
        generalize adr m 0 = S at *
        go_enter Tryz.func67, Tryz.ntmps67
        go_wp2_with (first | (go_at_call 54; refine HM.out.mono ?_; rintro e w1 ⟨rfl, rfl⟩) | (go_at_call 84; refine HA.out.mono ?_; rintro e w1 ⟨rfl, nq, rfl⟩))
        go_ret2
        exact ⟨rfl, belowN (Below.refl _ _) _⟩
      · have hx := idx_end h2
        rw [ixV_none hx, ixE_none hx]
        clear hx
        generalize adr m 0 = S at *
        go_enter Tryz.func67, Tryz.ntmps67
        go_wp2_with (first | (go_at_call 54; refine HM.out.mono ?_; rintro e w1 ⟨rfl, rfl⟩) | (go_at_call 84; refine HA.out.mono ?_; rintro e w1 ⟨rfl, nq, rfl⟩))
        go_ret2
        exact ⟨rfl, belowN (Below.refl _ _) _⟩

def obV : Option Mo → Int → Int
  | none, _ => 0
  | some m, a => match obO m a with
    | some k => k
    | none => 0
theorem obV_none {m : Mo} {a : Int} (h : obO m a = none) : obV (some m) a = 0 := by simp only [obV, h]
theorem obV_some {m : Mo} {a : Int} {k : Nat} (h : obO m a = some k) : obV (some m) a = k := by simp only [obV, h]

set_option maxHeartbeats 1000000 in
theorem objectAt_any {O : Nat → Prop} {v : Value} {om : Option Mo} {w : World} (h : Ob false w O v om) (a : Int) (ha : InR a) :
    Calls Tryz.prog 86 #[v, .int .i64 a] w fun e w' => e = .returned (.tuple #[.int .i64 (obV om a), .int .i64 (isE om a)]) ∧ Below w.heap.size w w' := by
  have HI := Lib.hid (Index_any h a ha)
  cases om with
  | none =>
    clear h
    go_enter Tryz.func86, Tryz.ntmps86
    go_wp2_with (go_at_call 67; refine HI.out.mono ?_; rintro e w1 ⟨rfl, hb1⟩; have HB1 := Lib.hid hb1; clear hb1)
    go_ret2
    exact ⟨rfl, HB1.out⟩
  | some m =>
    obtain ⟨B, A, c, rfl, h⟩ := h
    have hwf := h.wf
    cases e : idO m a with
    | none =>
      rw [ixV_none e, ixE_none e] at HI
      have ho : obO m a = none := by unfold obO; rw [e]
      rw [obV_none ho, isE_none ho]
      clear h hwf e ho ha
      go_enter Tryz.func86, Tryz.ntmps86
      go_wp2_with (go_at_call 67; refine HI.out.mono ?_; rintro e w1 ⟨rfl, hb1⟩; have HB1 := Lib.hid hb1; clear hb1)
      go_ret2
      exact ⟨rfl, HB1.out⟩
    | some k =>
      rw [ixV_some e, ixE_some e] at HI
      obtain ⟨hk, h1, h2⟩ := idO_get hwf e
      have HA := Lib.hid (fun (w1 : World) (hb : Below w.heap.size w w1) => addr_any (h.below hb) k (by omega))
      by_cases hq : a = (adr m k : Int)
      · have ho := obO_some hwf hk hq
        rw [obV_some ho, isE_some ho]
        clear h hwf e ho ha hk h1 h2
        generalize adr m k = P at *
        subst hq
        have hpp : ((P : Int) != (P : Int)) = false := by simp
        go_enter Tryz.func86, Tryz.ntmps86
        go_wp2_with (first | (go_at_call 67; refine HI.out.mono ?_; rintro e w1 ⟨rfl, hb1⟩; have HB1 := Lib.hid hb1; clear hb1) | (go_at_call 84; refine (HA.out _ HB1.out).mono ?_; rintro e w2 ⟨rfl, nq, rfl⟩))
        go_ret2
        exact ⟨rfl, belowN HB1.out _⟩
      · have ho : obO m a = none := obO_none hwf fun j hj hx => hq (by
          have := idO_some hwf hj (a := a) (by omega) (by have := hwf.z1; omega)
          rw [e] at this
          cases this
          exact hx)
        rw [obV_none ho, isE_none ho]
        have hpp : (a != (adr m k : Int)) = true := by simpa using hq
        clear h hwf e ho ha hk h1 h2 hq
        generalize adr m k = P at *
        go_enter Tryz.func86, Tryz.ntmps86
        go_wp2_with (first | (go_at_call 67; refine HI.out.mono ?_; rintro e w1 ⟨rfl, hb1⟩; have HB1 := Lib.hid hb1; clear hb1) | (go_at_call 84; refine (HA.out _ HB1.out).mono ?_; rintro e w2 ⟨rfl, nq, rfl⟩))
        go_ret2
        exact ⟨rfl, belowN HB1.out _⟩

set_option maxHeartbeats 1000000 in
theorem IsTaken_any {O : Nat → Prop} {v : Value} {om : Option Mo} {w : World} (h : Ob false w O v om) (a : Int) (ha : InR a) :
    Calls Tryz.prog 70 #[v, .int .i64 a] w fun e w' => e = .returned (.tuple #[.bool (isV om a), .int .i64 (isE om a)]) ∧ Below w.heap.size w w' := by
  have HI := Lib.hid (objectAt_any h a ha)
  cases om with
  | none =>
    clear h
    rw [show isE none a = 5 from rfl] at HI ⊢
    go_enter Tryz.func70, Tryz.ntmps70
    go_wp2_with (go_at_call 86; refine HI.out.mono ?_; rintro e w1 ⟨rfl, hb1⟩; have HB1 := Lib.hid hb1; clear hb1)
    go_ret2
    exact ⟨rfl, HB1.out⟩
  | some m =>
    obtain ⟨B, A, c, rfl, h⟩ := h
    have hwf := h.wf
    cases e : obO m a with
    | none =>
      rw [obV_none e, isE_none e] at HI
      rw [isV_none e, isE_none e]
      clear h hwf e ha
      go_enter Tryz.func70, Tryz.ntmps70
      go_wp2_with (go_at_call 86; refine HI.out.mono ?_; rintro e w1 ⟨rfl, hb1⟩; have HB1 := Lib.hid hb1; clear hb1)
      go_ret2
      exact ⟨rfl, HB1.out⟩
    | some k =>
      rw [obV_some e, isE_some e] at HI
      rw [isV_some e, isE_some e]
      obtain ⟨hk, h1⟩ := obO_get hwf e
      have hc4 := fun (w1 : World) (hb : Below w.heap.size w w1) => (show w1.cell? ⟨B, 4, none⟩ = some (.slice (some ⟨A, 0, none⟩) m.n c) from (h.below hb).cells.2.2.2.2)
      have hck := fun (w1 : World) (hb : Below w.heap.size w w1) => (h.below hb).a.cell k hk
      have HC4 := Lib.hid hc4
      have HCK := Lib.hid hck
      have hkn := hwf.n2
      clear h hwf e ha h1 hc4 hck
      cases hf : m.f k with
      | true =>
        rw [hf] at HCK
        have hu := fun w1 hb => (show w1.cell? ⟨A, k, none⟩ = some (.int .u8 1) from HCK.out w1 hb)
        have HU := Lib.hid hu
        clear hf hu
        go_enter Tryz.func70, Tryz.ntmps70
        go_wp2_with (go_at_call 86; refine HI.out.mono ?_; rintro e w1 ⟨rfl, hb1⟩; have HB1 := Lib.hid hb1; have c4 := HC4.out _ hb1; have ck := HU.out _ hb1; clear hb1)
        go_ret2
        exact ⟨rfl, HB1.out⟩
      | false =>
        rw [hf] at HCK
        have hu := fun w1 hb => (show w1.cell? ⟨A, k, none⟩ = some (.int .u8 0) from HCK.out w1 hb)
        have HU := Lib.hid hu
        clear hf hu
        go_enter Tryz.func70, Tryz.ntmps70
        go_wp2_with (go_at_call 86; refine HI.out.mono ?_; rintro e w1 ⟨rfl, hb1⟩; have HB1 := Lib.hid hb1; have c4 := HC4.out _ hb1; have ck := HU.out _ hb1; clear hb1)
        go_ret2
        exact ⟨rfl, HB1.out⟩

set_option maxHeartbeats 1000000 in
theorem Objects_any {O : Nat → Prop} {v : Value} {om : Option Mo} {w : World} (h : Ob false w O v om) :
    Calls Tryz.prog 74 #[v] w fun e w' => e = .returned (.int .i64 (numO om)) ∧ w = w' := by
  cases om with
  | none =>
    have HM := Lib.hid (made_no h.1)
    clear h
    go_enter Tryz.func74, Tryz.ntmps74
    go_wp2_with (go_at_call 54; refine HM.out.mono ?_; rintro e w1 ⟨rfl, rfl⟩)
    go_ret
    exact ⟨rfl, rfl⟩
  | some m =>
    obtain ⟨B, A, c, rfl, h⟩ := h
    have HM := Lib.hid (made_any h)
    have c4 : w.cell? ⟨B, 4, none⟩ = some (.slice (some ⟨A, 0, none⟩) m.n c) := h.cells.2.2.2.2
    clear h
    go_enter Tryz.func74, Tryz.ntmps74
    go_wp2_with (go_at_call 54; refine HM.out.mono ?_; rintro e w1 ⟨rfl, rfl⟩)
    go_ret
    exact ⟨rfl, rfl⟩

/-- A run, a class, as they are returned. -/
def runV : Option Mo → Value
  | none => .agg #[.int .i64 0, .int .i64 0]
  | some m => .agg #[.int .i64 m.s, .int .i64 m.g]
def clsV : Option Mo → Value
  | none => .agg #[.int .i64 0, .int .i64 0, .int .i64 0]
  | some m => .agg #[.int .i64 m.z, .int .i64 m.g, .int .i64 m.t]

end Go.Proofs.YtejfoefhaphacaaGreat
