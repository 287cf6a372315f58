/- Both heaps: play. -/
import Derived.Test.YtnmejilpifmlnaaDoorGf
import Derived.Test.YtnmejilpifmlnaaDoorGg
import Derived.Test.YtnmejilpifmlnaaDoorGh
namespace Go.Proofs.YtnmejilpifmlnaaDoor
open Go.RowKit

/-- A heap and the document's, in the same state. -/
structure BoH (w : World) (O1 O2 : Nat → Prop) (B C : Nat) (m : Mo) : Prop where
  s : Hp w O1 B m
  t : Rf w O2 C m
  d : ∀ k, O1 k → O2 k → False
  g : ¬ O2 1
/-- What a call on both leaves. -/
def PlH (w : World) (O1 O2 : Nat → Prop) (B C : Nat) (m : Mo) (w' : World) : Prop := BoH w' O1 O2 B C m ∧ Keep (fun k => O1 k ∨ O2 k) w w'
theorem BoH.below {w w' : World} {O1 O2 : Nat → Prop} {B C : Nat} {m : Mo} (h : BoH w O1 O2 B C m) (hb : Below w.heap.size w w') : BoH w' O1 O2 B C m := ⟨h.s.below hb, h.t.below hb, h.d, h.g⟩
theorem PlH.same {w w' : World} {O1 O2 : Nat → Prop} {B C : Nat} {m : Mo} (h : BoH w O1 O2 B C m) (hb : Below w.heap.size w w') : PlH w O1 O2 B C m w' := ⟨h.below hb, Keep.of hb⟩
theorem PlH.two {w W w1 w2 : World} {O1 O2 : Nat → Prop} {B C : Nat} {m m' : Mo} (h : BoH w O1 O2 B C m) (hb : Below w.heap.size w W) (h1 : Mut W O1 B m' w1) (h2 : RMut w1 O2 C m' w2) : PlH w O1 O2 B C m' w2 := by
  have k1 : Keep (fun k => O1 k ∨ O2 k) w W := Keep.of hb
  have k2 : Keep (fun k => O1 k ∨ O2 k) W w1 := ⟨h1.2.os, h1.2.tape, h1.2.output, h1.2.size, fun k hk hn => h1.2.block k hk (fun ho => hn (Or.inl ho))⟩
  have k3 : Keep (fun k => O1 k ∨ O2 k) w1 w2 := ⟨h2.2.os, h2.2.tape, h2.2.output, h2.2.size, fun k hk hn => h2.2.block k hk (fun ho => hn (Or.inr ho))⟩
  exact ⟨⟨h1.1.keep h2.2 h.d h.g, h2.1, h.d, h.g⟩, (k1.trans k2).trans k3⟩

set_option maxRecDepth 100000 in
set_option maxHeartbeats 4000000 in
theorem play_any {w : World} {O1 O2 : Nat → Prop} {B C : Nat} {m : Mo} (k a b : Int) (h : BoH w O1 O2 B C m) (ha : InR a) :
    Calls Tryd.prog 18 #[.pointer (some ⟨B, 0, none⟩), .pointer (some ⟨C, 0, none⟩), .agg #[.int .i64 k, .int .i64 a, .int .i64 b]] w fun e w' => e = .returned (.bool true) ∧ PlH w O1 O2 B C (doM m ⟨k, a, b⟩) w' := by
  obtain ⟨W0, hW, hb0, hz, c0, c1, c2⟩ := new3 w (.int .i64 k) (.int .i64 a) (.int .i64 b) 33
  have HH := Lib.hid h
  have HB := Lib.hid hb0
  have HZ := Lib.hid hz
  have HS0 := Lib.hid (h.below hb0)
  have hl1 := h.s.lt
  have hl2 := h.t.choose_spec.choose_spec.lt
  have HCK := Lib.hid (fun (W w1 : World) (hb : Below W0.heap.size W0 W) (hk : Keep O1 W w1) => show w1.heap[w.heap.size]? = W0.heap[w.heap.size]? from
    (hk.block _ (Nat.lt_of_lt_of_le hz hb.size) (fun hx => by have := hl1 _ hx; omega)).trans (hb.block _ hz))
  have HCK2 := Lib.hid (fun (W w1 w2 : World) (hb : Below W0.heap.size W0 W) (hk : Keep O1 W w1) (hk2 : Keep O2 w1 w2) => show w2.heap[w.heap.size]? = W0.heap[w.heap.size]? from
    (hk2.block _ (Nat.lt_of_lt_of_le hz (Nat.le_trans hb.size hk.size)) (fun hx => by have := hl2 _ hx; omega)).trans (HCK.out W w1 hb hk))
  clear h hb0 hz hl1 hl2
  have hk : k = 0 ∨ k = 1 ∨ k = 2 ∨ ¬ (k = 0 ∨ k = 1 ∨ k = 2) := by omega
  rcases hk with rfl | rfl | rfl | hk
  · have HA := Lib.hid (fun W (hb : Below W0.heap.size W0 W) => Give_any a b (HS0.out.s.below hb) ha)
    have HR := Lib.hid (fun (W w1 : World) (m' : Mo) (hb : Below W0.heap.size W0 W) (hM : Mut W O1 B m' w1) => rGive_any a b ((HS0.out.t.below hb).keep hM.2 (fun k a b => HS0.out.d k b a)) ha)
    rw [show doM m ⟨0, a, b⟩ = givD m a b from rfl]
    generalize givD m a b = m' at *
    generalize givE m a b = te at *
    clear ha
    go_enter Tryd.func18, Tryd.ntmps18
    go_wp2_with fail
    go_region_held3 (fun w' => w'.cell? ⟨w.heap.size, 1, none⟩ = some (.int .i64 a) ∧ w'.cell? ⟨w.heap.size, 2, none⟩ = some (.int .i64 b)) (first | exact ⟨c1, c2⟩ | exact ⟨(World.cell?_of_block (a := ⟨w.heap.size, 1, none⟩) (HCK.out _ _ (belowN (Below.refl _ _) _) hM1.2)).trans c1, (World.cell?_of_block (a := ⟨w.heap.size, 2, none⟩) (HCK.out _ _ (belowN (Below.refl _ _) _) hM1.2)).trans c2⟩ | exact ⟨(World.cell?_of_block (a := ⟨w.heap.size, 1, none⟩) (HCK2.out _ _ _ (belowN (Below.refl _ _) _) hM1.2 hM2.2)).trans c1, (World.cell?_of_block (a := ⟨w.heap.size, 2, none⟩) (HCK2.out _ _ _ (belowN (Below.refl _ _) _) hM1.2 hM2.2)).trans c2⟩)
      (first
      | (go_at_call 29; refine (HA.out _ (belowN (Below.refl _ _) _)).mono ?_; rintro e w1 ⟨rfl, hM1⟩)
      | (go_at_call 36; refine (HR.out _ _ _ (belowN (Below.refl _ _) _) hM1).mono ?_; rintro e w2 ⟨rfl, hM2⟩))
    go_wp2_with fail
    have HF := Lib.hid (PlH.two HH.out (belowN HB.out _) hM1 hM2)
    clear hM1 hM2
    go_ret
    exact ⟨ret_bool (by simp), HF.out⟩
  · have HA := Lib.hid (Take_any a b HS0.out.s)
    have HR := Lib.hid (fun (w1 : World) (m' : Mo) (hM : Mut W0 O1 B m' w1) => rTake_any a b (HS0.out.t.keep hM.2 (fun k a b => HS0.out.d k b a)))
    have HC := Lib.hid (And.intro c1 c2)
    unfold TakePost at HA
    unfold rTakePost at HR
    rw [show doM m ⟨1, a, b⟩ = tkD m a b from rfl]
    generalize tkD m a b = m' at *
    generalize tkE m a b = te at *
    generalize tkV m a b = tv at *
    clear ha
    go_enter Tryd.func18, Tryd.ntmps18
    go_wp2_with fail
    refine HA.out.mono ?_
    rintro e w1 ⟨rfl, hM1⟩
    have d1 := (World.cell?_of_block (a := ⟨w.heap.size, 1, none⟩) (HCK.out _ _ (Below.refl _ _) hM1.2)).trans HC.out.1
    have d2 := (World.cell?_of_block (a := ⟨w.heap.size, 2, none⟩) (HCK.out _ _ (Below.refl _ _) hM1.2)).trans HC.out.2
    have HM1 := Lib.hid hM1
    clear hM1
    go_wp2_with fail
    refine (HR.out _ _ HM1.out).mono ?_
    rintro e w2 ⟨rfl, hM2⟩
    have HF := Lib.hid (PlH.two HH.out HB.out HM1.out hM2)
    clear hM2 d1 d2
    go_wp2_with fail
    go_ret
    exact ⟨ret_bool (by simp), HF.out⟩
  · have HA := Lib.hid (fun W (hb : Below W0.heap.size W0 W) => TakeRun_any a b (HS0.out.s.below hb) ha)
    have HR := Lib.hid (fun (W w1 : World) (m' : Mo) (hb : Below W0.heap.size W0 W) (hM : Mut W O1 B m' w1) => rTakeRun_any a b ((HS0.out.t.below hb).keep hM.2 (fun k a b => HS0.out.d k b a)) ha)
    rw [show doM m ⟨2, a, b⟩ = trD m a b from rfl]
    generalize trD m a b = m' at *
    generalize trE m a b = te at *
    clear ha
    go_enter Tryd.func18, Tryd.ntmps18
    go_wp2_with fail
    go_region_held3 (fun w' => w'.cell? ⟨w.heap.size, 1, none⟩ = some (.int .i64 a) ∧ w'.cell? ⟨w.heap.size, 2, none⟩ = some (.int .i64 b)) (first | exact ⟨c1, c2⟩ | exact ⟨(World.cell?_of_block (a := ⟨w.heap.size, 1, none⟩) (HCK.out _ _ (belowN (Below.refl _ _) _) hM1.2)).trans c1, (World.cell?_of_block (a := ⟨w.heap.size, 2, none⟩) (HCK.out _ _ (belowN (Below.refl _ _) _) hM1.2)).trans c2⟩ | exact ⟨(World.cell?_of_block (a := ⟨w.heap.size, 1, none⟩) (HCK2.out _ _ _ (belowN (Below.refl _ _) _) hM1.2 hM2.2)).trans c1, (World.cell?_of_block (a := ⟨w.heap.size, 2, none⟩) (HCK2.out _ _ _ (belowN (Below.refl _ _) _) hM1.2 hM2.2)).trans c2⟩)
      (first
      | (go_at_call 38; refine (HA.out _ (belowN (Below.refl _ _) _)).mono ?_; rintro e w1 ⟨rfl, hM1⟩)
      | (go_at_call 39; refine (HR.out _ _ _ (belowN (Below.refl _ _) _) hM1).mono ?_; rintro e w2 ⟨rfl, hM2⟩))
    go_wp2_with fail
    have HF := Lib.hid (PlH.two HH.out (belowN HB.out _) hM1 hM2)
    clear hM1 hM2
    go_ret
    exact ⟨ret_bool (by simp), HF.out⟩
  · rw [show doM m ⟨k, a, b⟩ = m from by unfold doM; dsimp only; repeat rw [if_neg (by omega)]]
    have k0 : (k == 0) = false := by simp; omega
    have k1 : (k == 1) = false := by simp; omega
    have k2 : (k == 2) = false := by simp; omega
    clear hk ha
    go_enter Tryd.func18, Tryd.ntmps18
    go_wp2_with fail
    go_ret
    exact ⟨rfl, PlH.same HH.out HB.out⟩

end Go.Proofs.YtnmejilpifmlnaaDoor
