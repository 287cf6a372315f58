/- Both spaces, side by side: one call. -/
import Derived.Test.YtejjendklemebaaGi
import Derived.Test.YtejjendklemebaaNb
namespace Go.Proofs.Ytejjendklemebaa
open Go.RowKit

/-- Both spaces in memory that was made since w0, apart from one another, in the same state. -/
def Pr (w0 w : World) (B R : Nat) (m : Mo) : Prop := ∃ O1 O2 : Nat → Prop, Sp w O1 B m ∧ Rf w O2 R m ∧ (∀ k, O1 k → O2 k → False) ∧ (∀ k, O1 k → w0.heap.size ≤ k) ∧ (∀ k, O2 k → w0.heap.size ≤ k) ∧ Below w0.heap.size w0 w
theorem Pr.then {w0 w w' : World} {B R : Nat} {m : Mo} (h : Pr w0 w B R m) (hb : Below w.heap.size w w') : Pr w0 w' B R m := by
  obtain ⟨O1, O2, h1, h2, h3, h4, h5, h6⟩ := h
  exact ⟨O1, O2, h1.below hb, h2.below hb, h3, h4, h5, btr h6 hb (Nat.le_refl _)⟩
theorem Pr.bel {w0 w : World} {B R : Nat} {m : Mo} (h : Pr w0 w B R m) : Below w0.heap.size w0 w := h.choose_spec.choose_spec.2.2.2.2.2
theorem Pr.wf {w0 w : World} {B R : Nat} {m : Mo} (h : Pr w0 w B R m) : WF m := h.choose_spec.choose_spec.1.wf
theorem Pr.next {w0 W w1 w2 : World} {O1 O2 : Nat → Prop} {B R : Nat} {m : Mo} (hb : Below w0.heap.size w0 W) (l1 : ∀ k, O1 k → w0.heap.size ≤ k) (l2 : ∀ k, O2 k → w0.heap.size ≤ k) (hd : ∀ k, O1 k → O2 k → False) (hl : ∀ k, O2 k → k < W.heap.size)
    (h1 : Mut W O1 B m w1) (h2 : RMut w1 O2 R m w2) : Pr w0 w2 B R m := by
  have s0 := hb.size
  have s1 := h1.2.size
  refine ⟨_, _, h1.1.keep h2.2 (fun k hk hk2 => ?_), h2.1, fun k hk hk2 => ?_, fun k hk => ?_, fun k hk => ?_, ?_⟩
  · rcases hk with hk | hk
    · exact hd k hk hk2
    · have := hl k hk2; omega
  · rcases hk with hk | hk
    · rcases hk2 with hk2 | hk2
      · exact hd k hk hk2
      · have := h1.1.lt k (.inl hk); omega
    · rcases hk2 with hk2 | hk2
      · have := hl k hk2; omega
      · omega
  · rcases hk with hk | hk
    · exact l1 k hk
    · omega
  · rcases hk with hk | hk
    · exact l2 k hk
    · omega
  · exact (hb.trans (h1.2.below s0 l1)).trans (h2.2.below (by omega) l2)

def PlayPost (w0 : World) (B R : Nat) (m : Mo) (e : Ending) (w' : World) : Prop := e = .returned (.bool true) ∧ Pr w0 w' B R m

set_option maxRecDepth 100000 in
set_option maxHeartbeats 4000000 in
theorem play_any {w0 w : World} {B R : Nat} {m : Mo} (k a b c : Int) (h : Pr w0 w B R m) (ha : InR a) (hb : InR b) :
    Calls Try.prog 17 #[.pointer (some ⟨B, 0, none⟩), .pointer (some ⟨R, 0, none⟩), .agg #[.int .i64 k, .int .i64 a, .int .i64 b, .int .i64 c]] w (PlayPost w0 B R (doM m ⟨k, a, b, c⟩)) := by
  obtain ⟨W0, hW, hb0, hz, c0, c1, c2, c3⟩ := new4 w (.int .i64 k) (.int .i64 a) (.int .i64 b) (.int .i64 c) 30
  have hp := h.then hb0
  obtain ⟨O1, O2, h1, h2, h3, h4, h5, h6⟩ := h
  have hs := h1.below hb0
  have hr := h2.below hb0
  have HP := Lib.hid hp
  have HD := Lib.hid h3
  have HL1 := Lib.hid h4
  have HL2 := Lib.hid h5
  have HBW := Lib.hid (btr h6 hb0 (Nat.le_refl _))
  have HO1 := Lib.hid h1.lt
  have HO2 := Lib.hid h2.lt
  have HRR := Lib.hid hr
  have HZ := Lib.hid hz
  have HSZ := Lib.hid hb0.size
  have HC := Lib.hid (And.intro c1 (And.intro c2 c3))
  clear hp h1 h2 h3 h4 h5 h6 hz hb0
  have hk : k = 0 ∨ k = 1 ∨ k = 2 ∨ k = 3 ∨ k = 4 ∨ k = 5 ∨ k = 6 ∨ k = 7 ∨ ¬ (k = 0 ∨ k = 1 ∨ k = 2 ∨ k = 3 ∨ k = 4 ∨ k = 5 ∨ k = 6 ∨ k = 7) := by omega
  rcases hk with rfl | rfl | rfl | rfl | rfl | rfl | rfl | rfl | hk
  · have HA := Lib.hid (fun W (hb : Below W0.heap.size W0 W) => Map_any a b (hs.below hb) ha)
    have HB := Lib.hid (fun W (hr : Rf W O2 R m) => rMap_any a b hr ha)
    have HM := Lib.hid (show doM m ⟨0, a, b, c⟩ = mapD m a b from rfl)
    generalize mapE m a b = E at HA HB
    generalize mapD m a b = M at HA HB HM
    have HX := Lib.hid (fun W w1 (hb : Below W0.heap.size W0 W) (hk : Keep O1 W w1) => show w1.heap[w.heap.size]? = W0.heap[w.heap.size]? from
      (hk.block _ (Nat.lt_of_lt_of_le HZ.out hb.size) (fun hx => by have := HO1.out _ hx; omega)).trans (hb.block _ HZ.out))
    have HY := Lib.hid (fun W w1 w2 (hb : Below W0.heap.size W0 W) (hk : Keep O1 W w1) (hk2 : Keep O2 w1 w2) => show w2.heap[w.heap.size]? = W0.heap[w.heap.size]? from
      (hk2.block _ (Nat.lt_of_lt_of_le HZ.out (Nat.le_trans hb.size hk.size)) (fun hx => by have := HO2.out _ hx; omega)).trans (HX.out W w1 hb hk))
    clear hs hr
    go_enter Try.func17, Try.ntmps17
    go_wp2_with fail
    go_region_held3 (fun w' => w'.cell? ⟨w.heap.size, 1, none⟩ = some (.int .i64 a) ∧ w'.cell? ⟨w.heap.size, 2, none⟩ = some (.int .i64 b)) (first | exact ⟨c1, c2⟩ | exact ⟨(World.cell?_of_block (a := ⟨w.heap.size, 1, none⟩) (HX.out _ _ (belowN (Below.refl _ _) _) hM1.2)).trans c1, (World.cell?_of_block (a := ⟨w.heap.size, 2, none⟩) (HX.out _ _ (belowN (Below.refl _ _) _) hM1.2)).trans c2⟩ | exact ⟨(World.cell?_of_block (a := ⟨w.heap.size, 1, none⟩) (HY.out _ _ _ (belowN (Below.refl _ _) _) hM1.2 hM2.2)).trans c1, (World.cell?_of_block (a := ⟨w.heap.size, 2, none⟩) (HY.out _ _ _ (belowN (Below.refl _ _) _) hM1.2 hM2.2)).trans c2⟩)
      (first
      | (go_at_call 34; refine (HA.out _ (belowN (Below.refl _ _) _)).mono ?_; rintro e w1 ⟨rfl, hM1⟩)
      | (go_at_call 41; refine (HB.out _ ((HRR.out.below (belowN (Below.refl _ _) _)).keep hM1.2 (fun k h1 h2 => HD.out k h2 h1))).mono ?_; rintro e w2 ⟨rfl, hM2⟩))
    go_wp2_with fail
    have HF := Lib.hid (Pr.next (belowN HBW.out _) HL1.out HL2.out HD.out (fun k hk => Nat.lt_of_lt_of_le (HO2.out k hk) HSZ.out) hM1 hM2)
    clear hM1 hM2
    go_ret
    exact ⟨rfl, by rw [HM.out]; exact HF.out⟩
  · have HA := Lib.hid (fun W (hb : Below W0.heap.size W0 W) => Unmap_any a b (hs.below hb) ha)
    have HB := Lib.hid (fun W (hr : Rf W O2 R m) => rUnmap_any a b hr ha)
    have HM := Lib.hid (show doM m ⟨1, a, b, c⟩ = loseD m a b 0 from rfl)
    generalize loseE m a b = E at HA HB
    generalize loseD m a b 0 = M at HA HB HM
    have HX := Lib.hid (fun W w1 (hb : Below W0.heap.size W0 W) (hk : Keep O1 W w1) => show w1.heap[w.heap.size]? = W0.heap[w.heap.size]? from
      (hk.block _ (Nat.lt_of_lt_of_le HZ.out hb.size) (fun hx => by have := HO1.out _ hx; omega)).trans (hb.block _ HZ.out))
    have HY := Lib.hid (fun W w1 w2 (hb : Below W0.heap.size W0 W) (hk : Keep O1 W w1) (hk2 : Keep O2 w1 w2) => show w2.heap[w.heap.size]? = W0.heap[w.heap.size]? from
      (hk2.block _ (Nat.lt_of_lt_of_le HZ.out (Nat.le_trans hb.size hk.size)) (fun hx => by have := HO2.out _ hx; omega)).trans (HX.out W w1 hb hk))
    clear hs hr
    go_enter Try.func17, Try.ntmps17
    go_wp2_with fail
    go_region_held3 (fun w' => w'.cell? ⟨w.heap.size, 1, none⟩ = some (.int .i64 a) ∧ w'.cell? ⟨w.heap.size, 2, none⟩ = some (.int .i64 b)) (first | exact ⟨c1, c2⟩ | exact ⟨(World.cell?_of_block (a := ⟨w.heap.size, 1, none⟩) (HX.out _ _ (belowN (Below.refl _ _) _) hM1.2)).trans c1, (World.cell?_of_block (a := ⟨w.heap.size, 2, none⟩) (HX.out _ _ (belowN (Below.refl _ _) _) hM1.2)).trans c2⟩ | exact ⟨(World.cell?_of_block (a := ⟨w.heap.size, 1, none⟩) (HY.out _ _ _ (belowN (Below.refl _ _) _) hM1.2 hM2.2)).trans c1, (World.cell?_of_block (a := ⟨w.heap.size, 2, none⟩) (HY.out _ _ _ (belowN (Below.refl _ _) _) hM1.2 hM2.2)).trans c2⟩)
      (first
      | (go_at_call 33; refine (HA.out _ (belowN (Below.refl _ _) _)).mono ?_; rintro e w1 ⟨rfl, hM1⟩)
      | (go_at_call 42; refine (HB.out _ ((HRR.out.below (belowN (Below.refl _ _) _)).keep hM1.2 (fun k h1 h2 => HD.out k h2 h1))).mono ?_; rintro e w2 ⟨rfl, hM2⟩))
    go_wp2_with fail
    have HF := Lib.hid (Pr.next (belowN HBW.out _) HL1.out HL2.out HD.out (fun k hk => Nat.lt_of_lt_of_le (HO2.out k hk) HSZ.out) hM1 hM2)
    clear hM1 hM2
    go_ret
    exact ⟨rfl, by rw [HM.out]; exact HF.out⟩
  · have HA := Lib.hid (fun W (hb : Below W0.heap.size W0 W) => Release_any a b (hs.below hb) ha)
    have HB := Lib.hid (fun W (hr : Rf W O2 R m) => rRelease_any a b hr ha)
    have HM := Lib.hid (show doM m ⟨2, a, b, c⟩ = loseD m a b 1 from rfl)
    generalize loseE m a b = E at HA HB
    generalize loseD m a b 1 = M at HA HB HM
    have HX := Lib.hid (fun W w1 (hb : Below W0.heap.size W0 W) (hk : Keep O1 W w1) => show w1.heap[w.heap.size]? = W0.heap[w.heap.size]? from
      (hk.block _ (Nat.lt_of_lt_of_le HZ.out hb.size) (fun hx => by have := HO1.out _ hx; omega)).trans (hb.block _ HZ.out))
    have HY := Lib.hid (fun W w1 w2 (hb : Below W0.heap.size W0 W) (hk : Keep O1 W w1) (hk2 : Keep O2 w1 w2) => show w2.heap[w.heap.size]? = W0.heap[w.heap.size]? from
      (hk2.block _ (Nat.lt_of_lt_of_le HZ.out (Nat.le_trans hb.size hk.size)) (fun hx => by have := HO2.out _ hx; omega)).trans (HX.out W w1 hb hk))
    clear hs hr
    go_enter Try.func17, Try.ntmps17
    go_wp2_with fail
    go_region_held3 (fun w' => w'.cell? ⟨w.heap.size, 1, none⟩ = some (.int .i64 a) ∧ w'.cell? ⟨w.heap.size, 2, none⟩ = some (.int .i64 b)) (first | exact ⟨c1, c2⟩ | exact ⟨(World.cell?_of_block (a := ⟨w.heap.size, 1, none⟩) (HX.out _ _ (belowN (Below.refl _ _) _) hM1.2)).trans c1, (World.cell?_of_block (a := ⟨w.heap.size, 2, none⟩) (HX.out _ _ (belowN (Below.refl _ _) _) hM1.2)).trans c2⟩ | exact ⟨(World.cell?_of_block (a := ⟨w.heap.size, 1, none⟩) (HY.out _ _ _ (belowN (Below.refl _ _) _) hM1.2 hM2.2)).trans c1, (World.cell?_of_block (a := ⟨w.heap.size, 2, none⟩) (HY.out _ _ _ (belowN (Below.refl _ _) _) hM1.2 hM2.2)).trans c2⟩)
      (first
      | (go_at_call 35; refine (HA.out _ (belowN (Below.refl _ _) _)).mono ?_; rintro e w1 ⟨rfl, hM1⟩)
      | (go_at_call 43; refine (HB.out _ ((HRR.out.below (belowN (Below.refl _ _) _)).keep hM1.2 (fun k h1 h2 => HD.out k h2 h1))).mono ?_; rintro e w2 ⟨rfl, hM2⟩))
    go_wp2_with fail
    have HF := Lib.hid (Pr.next (belowN HBW.out _) HL1.out HL2.out HD.out (fun k hk => Nat.lt_of_lt_of_le (HO2.out k hk) HSZ.out) hM1 hM2)
    clear hM1 hM2
    go_ret
    exact ⟨rfl, by rw [HM.out]; exact HF.out⟩
  · have HA := Lib.hid (Read_any a hs ha)
    have HB := Lib.hid (fun W (hr : Rf W O2 R m) => rRead_any a hr ha)
    have HM := Lib.hid (show doM m ⟨3, a, b, c⟩ = m from rfl)
    generalize rdV m a = V at HA HB
    generalize rdE m a = E at HA HB
    clear hs hr
    go_enter Try.func17, Try.ntmps17
    go_wp2_with fail
    refine HA.out.mono ?_
    rintro e w1 ⟨rfl, hb1⟩
    have d1 := (hb1.cell (p := ⟨w.heap.size, 1, none⟩) HZ.out).trans HC.out.1
    have HB1 := Lib.hid hb1
    clear hb1
    go_wp2_with fail
    refine (HB.out _ (HRR.out.below HB1.out)).mono ?_
    rintro e _ ⟨rfl, rfl⟩
    go_wp2_with fail
    go_ret
    exact ⟨rfl, by rw [HM.out]; exact HP.out.then HB1.out⟩
  · have HA := Lib.hid (fun W (hb : Below W0.heap.size W0 W) => Write_any a b (hs.below hb) ha)
    have HB := Lib.hid (fun W (hr : Rf W O2 R m) => rWrite_any a b hr ha)
    have HM := Lib.hid (show doM m ⟨4, a, b, c⟩ = fillD m a 1 b from rfl)
    generalize chkE m 1 a = E at HA HB
    generalize fillD m a 1 b = M at HA HB HM
    have HX := Lib.hid (fun W w1 (hb : Below W0.heap.size W0 W) (hk : Keep O1 W w1) => show w1.heap[w.heap.size]? = W0.heap[w.heap.size]? from
      (hk.block _ (Nat.lt_of_lt_of_le HZ.out hb.size) (fun hx => by have := HO1.out _ hx; omega)).trans (hb.block _ HZ.out))
    have HY := Lib.hid (fun W w1 w2 (hb : Below W0.heap.size W0 W) (hk : Keep O1 W w1) (hk2 : Keep O2 w1 w2) => show w2.heap[w.heap.size]? = W0.heap[w.heap.size]? from
      (hk2.block _ (Nat.lt_of_lt_of_le HZ.out (Nat.le_trans hb.size hk.size)) (fun hx => by have := HO2.out _ hx; omega)).trans (HX.out W w1 hb hk))
    clear hs hr
    go_enter Try.func17, Try.ntmps17
    go_wp2_with fail
    go_region_held3 (fun w' => w'.cell? ⟨w.heap.size, 1, none⟩ = some (.int .i64 a) ∧ w'.cell? ⟨w.heap.size, 2, none⟩ = some (.int .i64 b)) (first | exact ⟨c1, c2⟩ | exact ⟨(World.cell?_of_block (a := ⟨w.heap.size, 1, none⟩) (HX.out _ _ (belowN (Below.refl _ _) _) hM1.2)).trans c1, (World.cell?_of_block (a := ⟨w.heap.size, 2, none⟩) (HX.out _ _ (belowN (Below.refl _ _) _) hM1.2)).trans c2⟩ | exact ⟨(World.cell?_of_block (a := ⟨w.heap.size, 1, none⟩) (HY.out _ _ _ (belowN (Below.refl _ _) _) hM1.2 hM2.2)).trans c1, (World.cell?_of_block (a := ⟨w.heap.size, 2, none⟩) (HY.out _ _ _ (belowN (Below.refl _ _) _) hM1.2 hM2.2)).trans c2⟩)
      (first
      | (go_at_call 22; refine (HA.out _ (belowN (Below.refl _ _) _)).mono ?_; rintro e w1 ⟨rfl, hM1⟩)
      | (go_at_call 45; refine (HB.out _ ((HRR.out.below (belowN (Below.refl _ _) _)).keep hM1.2 (fun k h1 h2 => HD.out k h2 h1))).mono ?_; rintro e w2 ⟨rfl, hM2⟩))
    go_wp2_with fail
    have HF := Lib.hid (Pr.next (belowN HBW.out _) HL1.out HL2.out HD.out (fun k hk => Nat.lt_of_lt_of_le (HO2.out k hk) HSZ.out) hM1 hM2)
    clear hM1 hM2
    go_ret
    exact ⟨rfl, by rw [HM.out]; exact HF.out⟩
  · have HM := Lib.hid (show doM m ⟨5, a, b, c⟩ = m from rfl)
    by_cases he : chkE m b a = 0
    · have HA := Lib.hid (Words_any a b hs ha he)
      have HB := Lib.hid (fun W (hr : Rf W O2 R m) => rWords_any a b hr ha he)
      have hbd := chkE_zero he
      have hbn : b.toNat ≤ 32768 := by omega
      generalize b.toNat = bn at hbn HA HB
      generalize hf : (fun j => m.hd ((a / 8).toNat + j)) = f at HB
      have hf' : ∀ j, m.hd ((a / 8).toNat + j) = f j := fun j => by rw [← hf]
      have HFF := Lib.hid hf'
      clear hs hr he hbd hf hf'
      go_enter Try.func17, Try.ntmps17
      go_wp2_with fail
      refine HA.out.mono ?_
      rintro e w1 ⟨Z, rfl, hZ0, hcl, hb1⟩
      have hcl' : Cl w1 Z bn (fun j => .int .i64 (f j)) := hcl.congr fun j _ => by rw [HFF.out]
      have HCL := Lib.hid (IntsAt.of_cl hcl')
      have d1 := (hb1.cell (p := ⟨w.heap.size, 1, none⟩) HZ.out).trans HC.out.1
      have d2 := (hb1.cell (p := ⟨w.heap.size, 2, none⟩) HZ.out).trans HC.out.2.1
      have HB1 := Lib.hid hb1
      clear hb1 hcl hcl'
      go_wp2_with fail
      refine (HB.out _ (HRR.out.below HB1.out)).mono ?_
      rintro e w2 ⟨A, c', rfl, hI, _, hb2⟩
      have HII := Lib.hid hI
      have HB2 := Lib.hid hb2
      clear hI hb2
      go_wp2_with fail
      refine (Ints_any _ _ _ _ bn f _ hbn (HCL.out.below HB2.out) HII.out).mono ?_
      rintro e w3 ⟨rfl, hb3⟩
      have HB3 := Lib.hid hb3
      clear hb3
      go_wp2_with fail
      go_ret
      exact ⟨rfl, by rw [HM.out]; exact HP.out.then (btr (btr HB1.out HB2.out (Nat.le_refl _)) HB3.out (Nat.le_refl _))⟩
    · have HA := Lib.hid (Words_bad a b hs ha he)
      have HB := Lib.hid (fun W (hr : Rf W O2 R m) => rWords_bad a b hr ha he)
      generalize chkE m b a = E at HA HB
      clear hs hr he
      go_enter Try.func17, Try.ntmps17
      go_wp2_with fail
      refine HA.out.mono ?_
      rintro e w1 ⟨rfl, hb1⟩
      have d1 := (hb1.cell (p := ⟨w.heap.size, 1, none⟩) HZ.out).trans HC.out.1
      have d2 := (hb1.cell (p := ⟨w.heap.size, 2, none⟩) HZ.out).trans HC.out.2.1
      have HB1 := Lib.hid hb1
      clear hb1
      go_wp2_with fail
      refine (HB.out _ (HRR.out.below HB1.out)).mono ?_
      rintro e _ ⟨rfl, rfl⟩
      go_wp2_with fail
      refine (Ints_nil _).mono ?_
      rintro e _ ⟨rfl, rfl⟩
      go_wp2_with fail
      go_ret
      exact ⟨rfl, by rw [HM.out]; exact HP.out.then HB1.out⟩
  · have HA := Lib.hid (fun W (hb : Below W0.heap.size W0 W) => Fill_any a b c (hs.below hb) ha)
    have HB := Lib.hid (fun W (hr : Rf W O2 R m) => rFill_any a b c hr ha)
    have HM := Lib.hid (show doM m ⟨6, a, b, c⟩ = fillD m a b c from rfl)
    generalize chkE m b a = E at HA HB
    generalize fillD m a b c = M at HA HB HM
    have HX := Lib.hid (fun W w1 (hb : Below W0.heap.size W0 W) (hk : Keep O1 W w1) => show w1.heap[w.heap.size]? = W0.heap[w.heap.size]? from
      (hk.block _ (Nat.lt_of_lt_of_le HZ.out hb.size) (fun hx => by have := HO1.out _ hx; omega)).trans (hb.block _ HZ.out))
    have HY := Lib.hid (fun W w1 w2 (hb : Below W0.heap.size W0 W) (hk : Keep O1 W w1) (hk2 : Keep O2 w1 w2) => show w2.heap[w.heap.size]? = W0.heap[w.heap.size]? from
      (hk2.block _ (Nat.lt_of_lt_of_le HZ.out (Nat.le_trans hb.size hk.size)) (fun hx => by have := HO2.out _ hx; omega)).trans (HX.out W w1 hb hk))
    clear hs hr
    go_enter Try.func17, Try.ntmps17
    go_wp2_with fail
    go_region_held3 (fun w' => w'.cell? ⟨w.heap.size, 1, none⟩ = some (.int .i64 a) ∧ w'.cell? ⟨w.heap.size, 2, none⟩ = some (.int .i64 b) ∧ w'.cell? ⟨w.heap.size, 3, none⟩ = some (.int .i64 c)) (first | exact ⟨c1, c2, c3⟩ | exact ⟨(World.cell?_of_block (a := ⟨w.heap.size, 1, none⟩) (HX.out _ _ (belowN (Below.refl _ _) _) hM1.2)).trans c1, (World.cell?_of_block (a := ⟨w.heap.size, 2, none⟩) (HX.out _ _ (belowN (Below.refl _ _) _) hM1.2)).trans c2, (World.cell?_of_block (a := ⟨w.heap.size, 3, none⟩) (HX.out _ _ (belowN (Below.refl _ _) _) hM1.2)).trans c3⟩ | exact ⟨(World.cell?_of_block (a := ⟨w.heap.size, 1, none⟩) (HY.out _ _ _ (belowN (Below.refl _ _) _) hM1.2 hM2.2)).trans c1, (World.cell?_of_block (a := ⟨w.heap.size, 2, none⟩) (HY.out _ _ _ (belowN (Below.refl _ _) _) hM1.2 hM2.2)).trans c2, (World.cell?_of_block (a := ⟨w.heap.size, 3, none⟩) (HY.out _ _ _ (belowN (Below.refl _ _) _) hM1.2 hM2.2)).trans c3⟩)
      (first
      | (go_at_call 31; refine (HA.out _ (belowN (Below.refl _ _) _)).mono ?_; rintro e w1 ⟨rfl, hM1⟩)
      | (go_at_call 48; refine (HB.out _ ((HRR.out.below (belowN (Below.refl _ _) _)).keep hM1.2 (fun k h1 h2 => HD.out k h2 h1))).mono ?_; rintro e w2 ⟨rfl, hM2⟩))
    go_wp2_with fail
    have HF := Lib.hid (Pr.next (belowN HBW.out _) HL1.out HL2.out HD.out (fun k hk => Nat.lt_of_lt_of_le (HO2.out k hk) HSZ.out) hM1 hM2)
    clear hM1 hM2
    go_ret
    exact ⟨rfl, by rw [HM.out]; exact HF.out⟩
  · have HBR := Lib.hid hb
    have HA := Lib.hid (fun W (hb : Below W0.heap.size W0 W) => Copy_any a b c (hs.below hb) ha HBR.out)
    have HB := Lib.hid (fun W (hr : Rf W O2 R m) => rCopy_any a b c hr ha HBR.out)
    have HM := Lib.hid (show doM m ⟨7, a, b, c⟩ = copyD m a b c from rfl)
    generalize chk2E m c a b = E at HA HB
    generalize copyD m a b c = M at HA HB HM
    have HX := Lib.hid (fun W w1 (hb : Below W0.heap.size W0 W) (hk : Keep O1 W w1) => show w1.heap[w.heap.size]? = W0.heap[w.heap.size]? from
      (hk.block _ (Nat.lt_of_lt_of_le HZ.out hb.size) (fun hx => by have := HO1.out _ hx; omega)).trans (hb.block _ HZ.out))
    have HY := Lib.hid (fun W w1 w2 (hb : Below W0.heap.size W0 W) (hk : Keep O1 W w1) (hk2 : Keep O2 w1 w2) => show w2.heap[w.heap.size]? = W0.heap[w.heap.size]? from
      (hk2.block _ (Nat.lt_of_lt_of_le HZ.out (Nat.le_trans hb.size hk.size)) (fun hx => by have := HO2.out _ hx; omega)).trans (HX.out W w1 hb hk))
    clear hs hr
    go_enter Try.func17, Try.ntmps17
    go_wp2_with fail
    go_region_held3 (fun w' => w'.cell? ⟨w.heap.size, 1, none⟩ = some (.int .i64 a) ∧ w'.cell? ⟨w.heap.size, 2, none⟩ = some (.int .i64 b) ∧ w'.cell? ⟨w.heap.size, 3, none⟩ = some (.int .i64 c)) (first | exact ⟨c1, c2, c3⟩ | exact ⟨(World.cell?_of_block (a := ⟨w.heap.size, 1, none⟩) (HX.out _ _ (belowN (Below.refl _ _) _) hM1.2)).trans c1, (World.cell?_of_block (a := ⟨w.heap.size, 2, none⟩) (HX.out _ _ (belowN (Below.refl _ _) _) hM1.2)).trans c2, (World.cell?_of_block (a := ⟨w.heap.size, 3, none⟩) (HX.out _ _ (belowN (Below.refl _ _) _) hM1.2)).trans c3⟩ | exact ⟨(World.cell?_of_block (a := ⟨w.heap.size, 1, none⟩) (HY.out _ _ _ (belowN (Below.refl _ _) _) hM1.2 hM2.2)).trans c1, (World.cell?_of_block (a := ⟨w.heap.size, 2, none⟩) (HY.out _ _ _ (belowN (Below.refl _ _) _) hM1.2 hM2.2)).trans c2, (World.cell?_of_block (a := ⟨w.heap.size, 3, none⟩) (HY.out _ _ _ (belowN (Below.refl _ _) _) hM1.2 hM2.2)).trans c3⟩)
      (first
      | (go_at_call 32; refine (HA.out _ (belowN (Below.refl _ _) _)).mono ?_; rintro e w1 ⟨rfl, hM1⟩)
      | (go_at_call 49; refine (HB.out _ ((HRR.out.below (belowN (Below.refl _ _) _)).keep hM1.2 (fun k h1 h2 => HD.out k h2 h1))).mono ?_; rintro e w2 ⟨rfl, hM2⟩))
    go_wp2_with fail
    have HF := Lib.hid (Pr.next (belowN HBW.out _) HL1.out HL2.out HD.out (fun k hk => Nat.lt_of_lt_of_le (HO2.out k hk) HSZ.out) hM1 hM2)
    clear hM1 hM2
    go_ret
    exact ⟨rfl, by rw [HM.out]; exact HF.out⟩
  · have HM := Lib.hid (show doM m ⟨k, a, b, c⟩ = m by
      unfold doM; dsimp only
      rw [if_neg (by omega), if_neg (by omega), if_neg (by omega), if_neg (by omega), if_neg (by omega), if_neg (by omega)])
    have k0 : (k == 0) = false := by simp; omega
    have k1 : (k == 1) = false := by simp; omega
    have k2 : (k == 2) = false := by simp; omega
    have k3 : (k == 3) = false := by simp; omega
    have k4 : (k == 4) = false := by simp; omega
    have k5 : (k == 5) = false := by simp; omega
    have k6 : (k == 6) = false := by simp; omega
    have k7 : (k == 7) = false := by simp; omega
    clear hk hs hr
    go_enter Try.func17, Try.ntmps17
    go_wp2_with fail
    go_ret
    exact ⟨rfl, by rw [HM.out]; exact HP.out⟩

end Go.Proofs.Ytejjendklemebaa
