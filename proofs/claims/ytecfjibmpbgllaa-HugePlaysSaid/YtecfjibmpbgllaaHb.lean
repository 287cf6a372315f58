/- Both trackers: play. -/
import Derived.Test.YtecfjibmpbgllaaGh
import Derived.Test.YtecfjibmpbgllaaHa
import Derived.Test.YtecfjibmpbgllaaMf
namespace Go.Proofs.Ytecfjibmpbgllaa
open Go.RowKit

set_option maxHeartbeats 1000000 in
theorem rPlan_bad {O : Nat → Prop} {B : Nat} {m : Mo} {w : World} (W : Int) (hW : W < 0) (h : Rf w O B m) :
    Calls Try.prog 47 #[.pointer (some ⟨B, 0, none⟩), .int .i64 W] w fun e w' => e = .returned (.tuple #[.slice none 0 0, .int .i64 1]) ∧ w = w' := by
  have HM := Lib.hid (rmade_any h)
  clear h
  have hd : decide (W < 0) = true := decide_eq_true hW
  go_enter Try.func47, Try.ntmps47
  go_wp2_with fail
  refine HM.out.mono ?_
  rintro e _ ⟨rfl, rfl⟩
  go_wp2_with fail
  go_ret2
  exact ⟨rfl, rfl⟩

/-- A tracker and the document's, in the same state. -/
structure BoT (w : World) (O1 O2 : Nat → Prop) (B C : Nat) (m : Mo) : Prop where
  s : Tk w O1 B m
  t : Rf w O2 C m
  d : ∀ k, O1 k → O2 k → False
/-- What a call on both leaves. -/
def PlT (w : World) (O1 O2 : Nat → Prop) (B C : Nat) (m : Mo) (w' : World) : Prop :=
  ∃ P1 P2 : Nat → Prop, BoT w' P1 P2 B C m ∧ Keep (fun k => O1 k ∨ O2 k) w w' ∧ (∀ k, P1 k → O1 k ∨ w.heap.size ≤ k) ∧ (∀ k, P2 k → O2 k ∨ w.heap.size ≤ k)
theorem BoT.below {w w' : World} {O1 O2 : Nat → Prop} {B C : Nat} {m : Mo} (h : BoT w O1 O2 B C m) (hb : Below w.heap.size w w') : BoT w' O1 O2 B C m := ⟨h.s.below hb, h.t.below hb, h.d⟩
theorem PlT.same {w w' : World} {O1 O2 : Nat → Prop} {B C : Nat} {m : Mo} (h : BoT w O1 O2 B C m) (hb : Below w.heap.size w w') : PlT w O1 O2 B C m w' :=
  ⟨O1, O2, h.below hb, Keep.of hb, fun _ hk => .inl hk, fun _ hk => .inl hk⟩
theorem PlT.two {w W w1 w2 : World} {O1 O2 : Nat → Prop} {B C : Nat} {m m' : Mo} (h : BoT w O1 O2 B C m) (hb : Below w.heap.size w W) (h1 : Mut W O1 B m' w1) (h2 : RMut w1 O2 C m' w2) : PlT w O1 O2 B C m' w2 := by
  have s0 := hb.size
  have s1 := h1.2.size
  have l1 := h.s.lt
  have l2 := h.t.lt
  refine ⟨Ext O1 W w1, Ext O2 w1 w2, ⟨h1.1.keep h2.2 (fun k a b => ?_), h2.1, fun k a b => ?_⟩, ((Keep.of hb).trans (h1.2.mono fun _ _ hk => .inl (.inl hk))).trans (h2.2.mono fun _ _ hk => .inl (.inr hk)), fun k a => ?_, fun k a => ?_⟩
  · rcases a with a | a
    · exact h.d k a b
    · have := l2 k b; omega
  · rcases a with a | a
    · rcases b with b | b
      · exact h.d k a b
      · have := l1 k a; omega
    · rcases b with b | b
      · have := l2 k b; omega
      · omega
  · rcases a with a | a
    · exact .inl a
    · exact .inr (by omega)
  · rcases a with a | a
    · exact .inl a
    · exact .inr (by omega)

set_option maxRecDepth 100000 in
set_option maxHeartbeats 4000000 in
theorem play_any {w : World} {O1 O2 : Nat → Prop} {B C : Nat} {m : Mo} (k a b : Int) (h : BoT w O1 O2 B C m) (ha : InR a) :
    Calls Try.prog 18 #[.pointer (some ⟨B, 0, none⟩), .pointer (some ⟨C, 0, none⟩), .agg #[.int .i64 k, .int .i64 a, .int .i64 b]] w fun e w' => e = .returned (.bool true) ∧ PlT w O1 O2 B C (doM m ⟨k, a, b⟩) w' := by
  obtain ⟨W0, hW, hb0, hz, c0, c1, c2⟩ := new3 w (.int .i64 k) (.int .i64 a) (.int .i64 b) 33
  have HH := Lib.hid h
  have HB := Lib.hid hb0
  have HZ := Lib.hid hz
  have HS0 := Lib.hid (h.below hb0)
  have hl1 := h.s.lt
  have hl2 := h.t.lt
  have HCK := Lib.hid (fun (W w1 : World) (hb : Below W0.heap.size W0 W) (hk : Keep O1 W w1) => show w1.heap[w.heap.size]? = W0.heap[w.heap.size]? from
    (hk.block _ (Nat.lt_of_lt_of_le hz hb.size) (fun hx => by have := hl1 _ hx; omega)).trans (hb.block _ hz))
  have HCK2 := Lib.hid (fun (W w1 w2 : World) (hb : Below W0.heap.size W0 W) (hk : Keep O1 W w1) (hk2 : Keep O2 w1 w2) => show w2.heap[w.heap.size]? = W0.heap[w.heap.size]? from
    (hk2.block _ (Nat.lt_of_lt_of_le hz (Nat.le_trans hb.size hk.size)) (fun hx => by have := hl2 _ hx; omega)).trans (HCK.out W w1 hb hk))
  have HPL := Lib.hid (plan_len h.s.wf (w := a))
  have hm2 := h.s.wf.h2
  have HM2 := Lib.hid hm2
  clear h hb0 hz hl1 hl2 hm2
  have hk : k = 0 ∨ k = 1 ∨ k = 2 ∨ k = 3 ∨ k = 4 ∨ k = 5 ∨ ¬ (k = 0 ∨ k = 1 ∨ k = 2 ∨ k = 3 ∨ k = 4 ∨ k = 5) := by omega
  rcases hk with rfl | rfl | rfl | rfl | rfl | rfl | hk
  · have HA := Lib.hid (fun W (hb : Below W0.heap.size W0 W) => Add_any a (HS0.out.s.below hb))
    have HR := Lib.hid (fun (W w1 : World) (m' : Mo) (hb : Below W0.heap.size W0 W) (hM : Mut W O1 B m' w1) => rAdd_any a ((HS0.out.t.below hb).keep hM.2 (fun k a b => HS0.out.d k b a)))
    rw [show doM m ⟨0, a, b⟩ = turnD m a 0 3 from rfl]
    generalize turnD m a 0 3 = m' at *
    generalize turnE m a 0 = te at *
    clear ha
    go_enter Try.func18, Try.ntmps18
    go_wp2_with fail
    go_region_held3 (fun w' => w'.cell? ⟨w.heap.size, 1, none⟩ = some (.int .i64 a) ∧ w'.cell? ⟨w.heap.size, 2, none⟩ = some (.int .i64 b)) (first | exact ⟨c1, c2⟩ | exact ⟨(World.cell?_of_block (a := ⟨w.heap.size, 1, none⟩) (HCK.out _ _ (belowN (Below.refl _ _) _) hM1.2)).trans c1, (World.cell?_of_block (a := ⟨w.heap.size, 2, none⟩) (HCK.out _ _ (belowN (Below.refl _ _) _) hM1.2)).trans c2⟩ | exact ⟨(World.cell?_of_block (a := ⟨w.heap.size, 1, none⟩) (HCK2.out _ _ _ (belowN (Below.refl _ _) _) hM1.2 hM2.2)).trans c1, (World.cell?_of_block (a := ⟨w.heap.size, 2, none⟩) (HCK2.out _ _ _ (belowN (Below.refl _ _) _) hM1.2 hM2.2)).trans c2⟩)
      (first
      | (go_at_call 35; refine (HA.out _ (belowN (Below.refl _ _) _)).mono ?_; rintro e w1 ⟨rfl, hM1⟩)
      | (go_at_call 42; refine (HR.out _ _ _ (belowN (Below.refl _ _) _) hM1).mono ?_; rintro e w2 ⟨rfl, hM2⟩))
    go_wp2_with fail
    have HF := Lib.hid (PlT.two HH.out (belowN HB.out _) hM1 hM2)
    clear hM1 hM2
    go_ret
    exact ⟨ret_bool (by simp), HF.out⟩
  · have HA := Lib.hid (fun W (hb : Below W0.heap.size W0 W) => Remove_any a (HS0.out.s.below hb))
    have HR := Lib.hid (fun (W w1 : World) (m' : Mo) (hb : Below W0.heap.size W0 W) (hM : Mut W O1 B m' w1) => rRemove_any a ((HS0.out.t.below hb).keep hM.2 (fun k a b => HS0.out.d k b a)))
    rw [show doM m ⟨1, a, b⟩ = turnD m a 1 0 from rfl]
    generalize turnD m a 1 0 = m' at *
    generalize turnE m a 1 = te at *
    clear ha
    go_enter Try.func18, Try.ntmps18
    go_wp2_with fail
    go_region_held3 (fun w' => w'.cell? ⟨w.heap.size, 1, none⟩ = some (.int .i64 a) ∧ w'.cell? ⟨w.heap.size, 2, none⟩ = some (.int .i64 b)) (first | exact ⟨c1, c2⟩ | exact ⟨(World.cell?_of_block (a := ⟨w.heap.size, 1, none⟩) (HCK.out _ _ (belowN (Below.refl _ _) _) hM1.2)).trans c1, (World.cell?_of_block (a := ⟨w.heap.size, 2, none⟩) (HCK.out _ _ (belowN (Below.refl _ _) _) hM1.2)).trans c2⟩ | exact ⟨(World.cell?_of_block (a := ⟨w.heap.size, 1, none⟩) (HCK2.out _ _ _ (belowN (Below.refl _ _) _) hM1.2 hM2.2)).trans c1, (World.cell?_of_block (a := ⟨w.heap.size, 2, none⟩) (HCK2.out _ _ _ (belowN (Below.refl _ _) _) hM1.2 hM2.2)).trans c2⟩)
      (first
      | (go_at_call 38; refine (HA.out _ (belowN (Below.refl _ _) _)).mono ?_; rintro e w1 ⟨rfl, hM1⟩)
      | (go_at_call 43; refine (HR.out _ _ _ (belowN (Below.refl _ _) _) hM1).mono ?_; rintro e w2 ⟨rfl, hM2⟩))
    go_wp2_with fail
    have HF := Lib.hid (PlT.two HH.out (belowN HB.out _) hM1 hM2)
    clear hM1 hM2
    go_ret
    exact ⟨ret_bool (by simp), HF.out⟩
  · have HA := Lib.hid (fun W (hb : Below W0.heap.size W0 W) => Use_any a b (HS0.out.s.below hb) ha)
    have HR := Lib.hid (fun (W w1 : World) (m' : Mo) (hb : Below W0.heap.size W0 W) (hM : Mut W O1 B m' w1) => rUse_any a b ((HS0.out.t.below hb).keep hM.2 (fun k a b => HS0.out.d k b a)))
    rw [show doM m ⟨2, a, b⟩ = chD m a b pU 1 from rfl]
    generalize chD m a b pU 1 = m' at *
    generalize chE m a b pU = te at *
    clear ha
    go_enter Try.func18, Try.ntmps18
    go_wp2_with fail
    go_region_held3 (fun w' => w'.cell? ⟨w.heap.size, 1, none⟩ = some (.int .i64 a) ∧ w'.cell? ⟨w.heap.size, 2, none⟩ = some (.int .i64 b)) (first | exact ⟨c1, c2⟩ | exact ⟨(World.cell?_of_block (a := ⟨w.heap.size, 1, none⟩) (HCK.out _ _ (belowN (Below.refl _ _) _) hM1.2)).trans c1, (World.cell?_of_block (a := ⟨w.heap.size, 2, none⟩) (HCK.out _ _ (belowN (Below.refl _ _) _) hM1.2)).trans c2⟩ | exact ⟨(World.cell?_of_block (a := ⟨w.heap.size, 1, none⟩) (HCK2.out _ _ _ (belowN (Below.refl _ _) _) hM1.2 hM2.2)).trans c1, (World.cell?_of_block (a := ⟨w.heap.size, 2, none⟩) (HCK2.out _ _ _ (belowN (Below.refl _ _) _) hM1.2 hM2.2)).trans c2⟩)
      (first
      | (go_at_call 33; refine (HA.out _ (belowN (Below.refl _ _) _)).mono ?_; rintro e w1 ⟨rfl, hM1⟩)
      | (go_at_call 44; refine (HR.out _ _ _ (belowN (Below.refl _ _) _) hM1).mono ?_; rintro e w2 ⟨rfl, hM2⟩))
    go_wp2_with fail
    have HF := Lib.hid (PlT.two HH.out (belowN HB.out _) hM1 hM2)
    clear hM1 hM2
    go_ret
    exact ⟨ret_bool (by simp), HF.out⟩
  · have HA := Lib.hid (fun W (hb : Below W0.heap.size W0 W) => Unuse_any a b (HS0.out.s.below hb) ha)
    have HR := Lib.hid (fun (W w1 : World) (m' : Mo) (hb : Below W0.heap.size W0 W) (hM : Mut W O1 B m' w1) => rUnuse_any a b ((HS0.out.t.below hb).keep hM.2 (fun k a b => HS0.out.d k b a)))
    rw [show doM m ⟨3, a, b⟩ = chD m a b pN 2 from rfl]
    generalize chD m a b pN 2 = m' at *
    generalize chE m a b pN = te at *
    clear ha
    go_enter Try.func18, Try.ntmps18
    go_wp2_with fail
    go_region_held3 (fun w' => w'.cell? ⟨w.heap.size, 1, none⟩ = some (.int .i64 a) ∧ w'.cell? ⟨w.heap.size, 2, none⟩ = some (.int .i64 b)) (first | exact ⟨c1, c2⟩ | exact ⟨(World.cell?_of_block (a := ⟨w.heap.size, 1, none⟩) (HCK.out _ _ (belowN (Below.refl _ _) _) hM1.2)).trans c1, (World.cell?_of_block (a := ⟨w.heap.size, 2, none⟩) (HCK.out _ _ (belowN (Below.refl _ _) _) hM1.2)).trans c2⟩ | exact ⟨(World.cell?_of_block (a := ⟨w.heap.size, 1, none⟩) (HCK2.out _ _ _ (belowN (Below.refl _ _) _) hM1.2 hM2.2)).trans c1, (World.cell?_of_block (a := ⟨w.heap.size, 2, none⟩) (HCK2.out _ _ _ (belowN (Below.refl _ _) _) hM1.2 hM2.2)).trans c2⟩)
      (first
      | (go_at_call 32; refine (HA.out _ (belowN (Below.refl _ _) _)).mono ?_; rintro e w1 ⟨rfl, hM1⟩)
      | (go_at_call 45; refine (HR.out _ _ _ (belowN (Below.refl _ _) _) hM1).mono ?_; rintro e w2 ⟨rfl, hM2⟩))
    go_wp2_with fail
    have HF := Lib.hid (PlT.two HH.out (belowN HB.out _) hM1 hM2)
    clear hM1 hM2
    go_ret
    exact ⟨ret_bool (by simp), HF.out⟩
  · have HA := Lib.hid (fun W (hb : Below W0.heap.size W0 W) => Release_any a b (HS0.out.s.below hb) ha)
    have HR := Lib.hid (fun (W w1 : World) (m' : Mo) (hb : Below W0.heap.size W0 W) (hM : Mut W O1 B m' w1) => rRelease_any a b ((HS0.out.t.below hb).keep hM.2 (fun k a b => HS0.out.d k b a)))
    rw [show doM m ⟨4, a, b⟩ = chD m a b pR 3 from rfl]
    generalize chD m a b pR 3 = m' at *
    generalize chE m a b pR = te at *
    clear ha
    go_enter Try.func18, Try.ntmps18
    go_wp2_with fail
    go_region_held3 (fun w' => w'.cell? ⟨w.heap.size, 1, none⟩ = some (.int .i64 a) ∧ w'.cell? ⟨w.heap.size, 2, none⟩ = some (.int .i64 b)) (first | exact ⟨c1, c2⟩ | exact ⟨(World.cell?_of_block (a := ⟨w.heap.size, 1, none⟩) (HCK.out _ _ (belowN (Below.refl _ _) _) hM1.2)).trans c1, (World.cell?_of_block (a := ⟨w.heap.size, 2, none⟩) (HCK.out _ _ (belowN (Below.refl _ _) _) hM1.2)).trans c2⟩ | exact ⟨(World.cell?_of_block (a := ⟨w.heap.size, 1, none⟩) (HCK2.out _ _ _ (belowN (Below.refl _ _) _) hM1.2 hM2.2)).trans c1, (World.cell?_of_block (a := ⟨w.heap.size, 2, none⟩) (HCK2.out _ _ _ (belowN (Below.refl _ _) _) hM1.2 hM2.2)).trans c2⟩)
      (first
      | (go_at_call 31; refine (HA.out _ (belowN (Below.refl _ _) _)).mono ?_; rintro e w1 ⟨rfl, hM1⟩)
      | (go_at_call 46; refine (HR.out _ _ _ (belowN (Below.refl _ _) _) hM1).mono ?_; rintro e w2 ⟨rfl, hM2⟩))
    go_wp2_with fail
    have HF := Lib.hid (PlT.two HH.out (belowN HB.out _) hM1 hM2)
    clear hM1 hM2
    go_ret
    exact ⟨ret_bool (by simp), HF.out⟩
  · rw [show doM m ⟨5, a, b⟩ = m from rfl]
    by_cases hneg : a < 0
    · have HA := Lib.hid (Plan_bad a HS0.out.s hneg)
      have HR := Lib.hid (fun (w1 : World) (hb : Below W0.heap.size W0 w1) => rPlan_bad a hneg (HS0.out.t.below hb))
      have HC := Lib.hid (And.intro c1 c2)
      clear hneg ha
      go_enter Try.func18, Try.ntmps18
      go_wp2_with fail
      refine HA.out.mono ?_
      rintro e w1 ⟨rfl, hb1⟩
      have d1 := (hb1.cell (p := ⟨w.heap.size, 1, none⟩) HZ.out).trans HC.out.1
      have HB1 := Lib.hid hb1
      clear hb1
      go_wp2_with fail
      refine (HR.out _ HB1.out).mono ?_
      rintro e _ ⟨rfl, rfl⟩
      go_wp2_with fail
      refine (Runs_nil _).mono ?_
      rintro e _ ⟨rfl, rfl⟩
      go_wp2_with fail
      go_ret
      exact ⟨rfl, PlT.same HH.out (btr HB.out HB1.out (Nat.le_refl _))⟩
    · have HA := Lib.hid (Plan_go a HS0.out.s (by omega))
      have HR := Lib.hid (fun (w1 : World) (hb : Below W0.heap.size W0 w1) => rPlan_any a (by omega) (HS0.out.t.below hb))
      have HC := Lib.hid (And.intro c1 c2)
      clear hneg ha
      generalize planM m a = P at *
      go_enter Try.func18, Try.ntmps18
      go_wp2_with fail
      refine HA.out.mono ?_
      rintro e w1 ⟨A1, n1, rfl, hR1, hb1⟩
      have d1 := (hb1.cell (p := ⟨w.heap.size, 1, none⟩) HZ.out).trans HC.out.1
      have HR1 := Lib.hid hR1
      have HB1 := Lib.hid hb1
      clear hb1 hR1
      go_wp2_with fail
      refine (HR.out _ HB1.out).mono ?_
      rintro e w2 ⟨A2, n2, rfl, hR2, hb2⟩
      have HQ := Lib.hid (RunsEq_any A1 A2 n1 n2 _ _ P w2 (by have := HPL.out; have := HM2.out; omega) (HR1.out.below hb2) hR2)
      have HB2 := Lib.hid (btr HB1.out hb2 (Nat.le_refl _))
      clear hb2 hR2
      go_wp2_with fail
      refine HQ.out.mono ?_
      rintro e w3 ⟨rfl, hb3⟩
      have HB3 := Lib.hid (btr HB2.out hb3 (Nat.le_refl _))
      clear hb3
      go_wp2_with fail
      go_ret
      exact ⟨rfl, PlT.same HH.out (btr HB.out HB3.out (Nat.le_refl _))⟩
  · rw [show doM m ⟨k, a, b⟩ = m from by unfold doM; dsimp only; repeat rw [if_neg (by omega)]]
    have k0 : (k == 0) = false := by simp; omega
    have k1 : (k == 1) = false := by simp; omega
    have k2 : (k == 2) = false := by simp; omega
    have k3 : (k == 3) = false := by simp; omega
    have k4 : (k == 4) = false := by simp; omega
    have k5 : (k == 5) = false := by simp; omega
    clear hk ha
    go_enter Try.func18, Try.ntmps18
    go_wp2_with fail
    go_ret
    exact ⟨rfl, PlT.same HH.out HB.out⟩

end Go.Proofs.Ytecfjibmpbgllaa
