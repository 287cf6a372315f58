/- Both maps, side by side: one call. -/
import Derived.Test.YtdjfeibcbmelcaaRa
import Derived.Deep.RegionHeld3
namespace Go.Proofs.Ytdjfeibcbmelcaa
open Go.RowKit

/-- What a call on both maps leaves. -/
structure Pl (w : World) (O1 O2 : Nat → Prop) (B R : Nat) (M : Nat → Int) (w' : World) : Prop where
  t : Tr w' (Ext O1 w w') B M
  r : Rf w' O2 R M
  k : Keep (fun k => O1 k ∨ O2 k) w w'
theorem Pl.mk0 {w W w1 w2 : World} {O1 O2 : Nat → Prop} {B R : Nat} {M : Nat → Int} (hb : Below w.heap.size w W) (hd : ∀ k, O1 k → O2 k → False) (hl2 : ∀ k, O2 k → k < w.heap.size) (h1 : Mut W O1 B M w1) (h2 : Rut w1 O2 R M w2) : Pl w O1 O2 B R M w2 := by
  have s0 := hb.size
  have s1 := h1.2.size
  have s2 := h2.2.size
  refine ⟨(h1.1.keep h2.2 (fun k a b => ?_)).mono (fun k hk => ?_) (fun k hk => ?_), h2.1, ((Keep.of hb).trans (h1.2.mono fun k _ hk => .inl (.inl hk))).trans (h2.2.mono fun k _ hk => .inl (.inr hk))⟩
  · rcases a with a | a
    · exact hd k a b
    · have := hl2 k b; omega
  · rcases hk with hk | hk
    · exact .inl hk
    · exact .inr (by omega)
  · rcases hk with hk | hk
    · have := h1.1.lt k (.inl hk); omega
    · exact hk.2
theorem Pl.same {w w' : World} {O1 O2 : Nat → Prop} {B R : Nat} {M : Nat → Int} (h1 : Tr w O1 B M) (h2 : Rf w O2 R M) (hb : Below w.heap.size w w') : Pl w O1 O2 B R M w' :=
  ⟨(Mut.same h1 hb).1, h2.below hb, Keep.of hb⟩
theorem Pl.trans {w w1 w2 : World} {O1 O2 : Nat → Prop} {B R : Nat} {M1 M2 : Nat → Int} (h : Pl w O1 O2 B R M1 w1) (k : Pl w1 (Ext O1 w w1) O2 B R M2 w2) : Pl w O1 O2 B R M2 w2 :=
  ⟨by rw [← ext_ext h.k.size k.k.size]; exact k.t, k.r, h.k.trans (k.k.mono fun i _ hi => by
    rcases hi with (hi | hi) | hi
    · exact .inl (.inl hi)
    · exact .inr hi
    · exact .inl (.inr hi))⟩
theorem Pl.dis {w w' : World} {O1 O2 : Nat → Prop} {B R : Nat} {M : Nat → Int} (hd : ∀ k, O1 k → O2 k → False) (hl2 : ∀ k, O2 k → k < w.heap.size) (_ : Pl w O1 O2 B R M w') : ∀ k, Ext O1 w w' k → O2 k → False := fun k a b => by
  rcases a with a | a
  · exact hd k a b
  · have := hl2 k b; omega

set_option maxRecDepth 100000 in
set_option maxHeartbeats 4000000 in
theorem play_any {w : World} {O1 O2 : Nat → Prop} {B R : Nat} {M : Nat → Int} (k a b c : Int) (h1 : Tr w O1 B M) (h2 : Rf w O2 R M) (hd : ∀ k, O1 k → O2 k → False) (ha : InR a) :
    Calls Try.prog 18 #[.pointer (some ⟨B, 0, none⟩), .pointer (some ⟨R, 0, none⟩), .agg #[.int .i64 k, .int .i64 a, .int .i64 b, .int .i64 c]] w fun e w' => e = .returned (.bool true) ∧ Pl w O1 O2 B R (doM M ⟨k, a, b, c⟩) w' := by
  obtain ⟨W0, hW, hb0, hz, c0, c1, c2, c3⟩ := new4 w (.int .i64 k) (.int .i64 a) (.int .i64 b) (.int .i64 c) 30
  have HP := Lib.hid (Pl.same h1 h2 hb0)
  have hs := h1.below hb0
  have hr := h2.below hb0
  have HD := Lib.hid hd
  have HBW := Lib.hid hb0
  have HO1 := Lib.hid h1.lt
  have HO2 := Lib.hid h2.lt
  have HRR := Lib.hid hr
  have HZ := Lib.hid hz
  clear h1 h2 hd hz hb0
  have hk : k = 0 ∨ k = 1 ∨ ¬ (k = 0 ∨ k = 1) := by omega
  rcases hk with rfl | rfl | hk
  · have HA := Lib.hid (fun W (hb : Below W0.heap.size W0 W) => Set_any a b c (hs.below hb) ha)
    have HB := Lib.hid (fun W (hr : Rf W O2 R M) => rset_any a b c hr)
    have HM := Lib.hid (show doM M ⟨0, a, b, c⟩ = setD M a b c from rfl)
    generalize setE a b c = E at HA HB
    generalize setD M a b c = M' at HA HB HM
    have HX := Lib.hid (fun W w1 (hb : Below W0.heap.size W0 W) (hk : Keep O1 W w1) => show w1.heap[w.heap.size]? = W0.heap[w.heap.size]? from
      (hk.block _ (Nat.lt_of_lt_of_le HZ.out hb.size) (fun hx => by have := HO1.out _ hx; omega)).trans (hb.block _ HZ.out))
    have HY := Lib.hid (fun W w1 w2 (hb : Below W0.heap.size W0 W) (hk : Keep O1 W w1) (hk2 : Keep O2 w1 w2) => show w2.heap[w.heap.size]? = W0.heap[w.heap.size]? from
      (hk2.block _ (Nat.lt_of_lt_of_le HZ.out (Nat.le_trans hb.size hk.size)) (fun hx => by have := HO2.out _ hx; omega)).trans (HX.out W w1 hb hk))
    clear hs hr
    go_enter Try.func18, Try.ntmps18
    go_wp2_with fail
    go_region_held3 (fun w' => w'.cell? ⟨w.heap.size, 1, none⟩ = some (.int .i64 a) ∧ w'.cell? ⟨w.heap.size, 2, none⟩ = some (.int .i64 b) ∧ w'.cell? ⟨w.heap.size, 3, none⟩ = some (.int .i64 c)) (first | exact ⟨c1, c2, c3⟩ | exact ⟨(World.cell?_of_block (a := ⟨w.heap.size, 1, none⟩) (HX.out _ _ (belowN (Below.refl _ _) _) hM1.2)).trans c1, (World.cell?_of_block (a := ⟨w.heap.size, 2, none⟩) (HX.out _ _ (belowN (Below.refl _ _) _) hM1.2)).trans c2, (World.cell?_of_block (a := ⟨w.heap.size, 3, none⟩) (HX.out _ _ (belowN (Below.refl _ _) _) hM1.2)).trans c3⟩ | exact ⟨(World.cell?_of_block (a := ⟨w.heap.size, 1, none⟩) (HY.out _ _ _ (belowN (Below.refl _ _) _) hM1.2 hM2.2)).trans c1, (World.cell?_of_block (a := ⟨w.heap.size, 2, none⟩) (HY.out _ _ _ (belowN (Below.refl _ _) _) hM1.2 hM2.2)).trans c2, (World.cell?_of_block (a := ⟨w.heap.size, 3, none⟩) (HY.out _ _ _ (belowN (Below.refl _ _) _) hM1.2 hM2.2)).trans c3⟩)
      (first
      | (go_at_call 30; refine (HA.out _ (belowN (Below.refl _ _) _)).mono ?_; rintro e w1 ⟨rfl, hM1⟩)
      | (go_at_call 37; refine (HB.out _ ((HRR.out.below (belowN (Below.refl _ _) _)).keep hM1.2 (fun k h1 h2 => HD.out k h2 h1))).mono ?_; rintro e w2 ⟨rfl, hM2⟩))
    go_wp2_with fail
    have HF := Lib.hid (Pl.mk0 (belowN HBW.out _) HD.out HO2.out hM1 hM2)
    clear hM1 hM2
    go_ret
    exact ⟨rfl, by rw [HM.out]; exact HF.out⟩
  · have HA := Lib.hid (fun W (hb : Below W0.heap.size W0 W) => Clear_any a b (hs.below hb) ha)
    have HB := Lib.hid (fun W (hr : Rf W O2 R M) => rclear_any a b hr)
    have HM := Lib.hid (show doM M ⟨1, a, b, c⟩ = clrD M a b from rfl)
    generalize clrE a b = E at HA HB
    generalize clrD M a b = M' at HA HB HM
    have HX := Lib.hid (fun W w1 (hb : Below W0.heap.size W0 W) (hk : Keep O1 W w1) => show w1.heap[w.heap.size]? = W0.heap[w.heap.size]? from
      (hk.block _ (Nat.lt_of_lt_of_le HZ.out hb.size) (fun hx => by have := HO1.out _ hx; omega)).trans (hb.block _ HZ.out))
    have HY := Lib.hid (fun W w1 w2 (hb : Below W0.heap.size W0 W) (hk : Keep O1 W w1) (hk2 : Keep O2 w1 w2) => show w2.heap[w.heap.size]? = W0.heap[w.heap.size]? from
      (hk2.block _ (Nat.lt_of_lt_of_le HZ.out (Nat.le_trans hb.size hk.size)) (fun hx => by have := HO2.out _ hx; omega)).trans (HX.out W w1 hb hk))
    clear hs hr
    go_enter Try.func18, Try.ntmps18
    go_wp2_with fail
    go_region_held3 (fun w' => w'.cell? ⟨w.heap.size, 1, none⟩ = some (.int .i64 a) ∧ w'.cell? ⟨w.heap.size, 2, none⟩ = some (.int .i64 b)) (first | exact ⟨c1, c2⟩ | exact ⟨(World.cell?_of_block (a := ⟨w.heap.size, 1, none⟩) (HX.out _ _ (belowN (Below.refl _ _) _) hM1.2)).trans c1, (World.cell?_of_block (a := ⟨w.heap.size, 2, none⟩) (HX.out _ _ (belowN (Below.refl _ _) _) hM1.2)).trans c2⟩ | exact ⟨(World.cell?_of_block (a := ⟨w.heap.size, 1, none⟩) (HY.out _ _ _ (belowN (Below.refl _ _) _) hM1.2 hM2.2)).trans c1, (World.cell?_of_block (a := ⟨w.heap.size, 2, none⟩) (HY.out _ _ _ (belowN (Below.refl _ _) _) hM1.2 hM2.2)).trans c2⟩)
      (first
      | (go_at_call 32; refine (HA.out _ (belowN (Below.refl _ _) _)).mono ?_; rintro e w1 ⟨rfl, hM1⟩)
      | (go_at_call 38; refine (HB.out _ ((HRR.out.below (belowN (Below.refl _ _) _)).keep hM1.2 (fun k h1 h2 => HD.out k h2 h1))).mono ?_; rintro e w2 ⟨rfl, hM2⟩))
    go_wp2_with fail
    have HF := Lib.hid (Pl.mk0 (belowN HBW.out _) HD.out HO2.out hM1 hM2)
    clear hM1 hM2
    go_ret
    exact ⟨rfl, by rw [HM.out]; exact HF.out⟩
  · have HM := Lib.hid (show doM M ⟨k, a, b, c⟩ = M by
      unfold doM; dsimp only
      rw [if_neg (by omega), if_neg (by omega)])
    have k0 : (k == 0) = false := by simp; omega
    have k1 : (k == 1) = false := by simp; omega
    clear hk hs hr
    go_enter Try.func18, Try.ntmps18
    go_wp2_with fail
    go_ret
    exact ⟨rfl, by rw [HM.out]; exact HP.out⟩
theorem play_at {w : World} {O1 O2 : Nat → Prop} {B R : Nat} {M : Nat → Int} (x : Ac) (h1 : Tr w O1 B M) (h2 : Rf w O2 R M) (hd : ∀ k, O1 k → O2 k → False) (hr : AcR x) :
    Calls Try.prog 18 #[.pointer (some ⟨B, 0, none⟩), .pointer (some ⟨R, 0, none⟩), .agg #[.int .i64 x.k, .int .i64 x.a, .int .i64 x.b, .int .i64 x.c]] w fun e w' => e = .returned (.bool true) ∧ Pl w O1 O2 B R (doM M x) w' := play_any x.k x.a x.b x.c h1 h2 hd hr.a

end Go.Proofs.Ytdjfeibcbmelcaa
