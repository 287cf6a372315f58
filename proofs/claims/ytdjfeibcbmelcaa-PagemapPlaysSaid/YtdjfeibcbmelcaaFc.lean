/- The statements' helper: the examples of the chapter hold. -/
import Derived.Test.YtdjfeibcbmelcaaFb
namespace Go.Proofs.Ytdjfeibcbmelcaa
open Go.RowKit

def m1 : Nat → Int := setD noM 6 4 5
def m2 : Nat → Int := clrD m1 8 2
def m3 : Nat → Int := setD m2 7 1 6
theorem ex1 : setE 6 4 5 = 0 := by decide +kernel
theorem ex2 : getV m1 9 = 5 := by decide +kernel
theorem ex3 : midsN m1 = 1 := by decide +kernel
theorem ex4 : leavesN m1 = 2 := by decide +kernel
theorem ex5 : datM (marksM m1) = [(6, 4, 5)] := by decide +kernel
theorem ex6 : clrE 8 2 = 0 := by decide +kernel
theorem ex7 : midsN m2 = 1 := by decide +kernel
theorem ex8 : leavesN m2 = 1 := by decide +kernel
theorem ex9 : nextV m2 0 = (6, 5, 0) := by decide +kernel
theorem ex10 : nextV m2 8 = (0, 0, 4) := by decide +kernel
theorem ex11 : setE 7 1 6 = 0 := by decide +kernel
theorem ex12 : datM (marksM m3) = [(6, 1, 5), (7, 1, 6)] := by decide +kernel
theorem ex5' : marksM m1 = [⟨6, 4, 5⟩] := datM_inj ex5
theorem ex12' : marksM m3 = [⟨6, 1, 5⟩, ⟨7, 1, 6⟩] := datM_inj ex12

theorem mks_one (w W : World) (m : Mk) (hW : W = w.alloc (.cells #[.int .i64 m.s, .int .i64 m.n, .int .i64 m.v] 50)) : MksAt W 0 (some ⟨w.heap.size, 0, none⟩) [m] := fun i x hi => by
  obtain rfl : i = 0 := by have := (List.getElem?_eq_some_iff.1 hi).1; simp at this; omega
  obtain rfl : m = x := by simpa using hi
  subst hW
  exact ⟨_, rfl, Nat.zero_le _, by simp, by go_simp, by go_simp, by go_simp⟩
theorem mks_two (w W : World) (m k : Mk) (hW : W = w.alloc (.cells #[.int .i64 m.s, .int .i64 m.n, .int .i64 m.v, .int .i64 k.s, .int .i64 k.n, .int .i64 k.v] 50)) : MksAt W 0 (some ⟨w.heap.size, 0, none⟩) [m, k] := fun i x hi => by
  have hi2 : i = 0 ∨ i = 1 := by have := (List.getElem?_eq_some_iff.1 hi).1; simp at this; omega
  subst hW
  rcases hi2 with rfl | rfl
  · obtain rfl : m = x := by simpa using hi
    exact ⟨_, rfl, Nat.zero_le _, by simp, by go_simp, by go_simp, by go_simp⟩
  · obtain rfl : k = x := by simpa using hi
    exact ⟨_, rfl, Nat.zero_le _, by simp, by go_simp, by go_simp, by go_simp⟩

set_option maxRecDepth 100000 in
set_option maxHeartbeats 2000000 in
theorem alive_any (w : World) : Calls Try.prog 13 #[] w fun e w' => e = .returned (.bool true) ∧ Below w.heap.size w w' := by
  go_enter Try.func13, Try.ntmps13
  go_wp2_with fail
  refine (New_any w).mono ?_
  rintro e w1 ⟨B, rfl, hb1, hs1⟩
  have HB1 := Lib.hid hb1
  have HS1 := Lib.hid hs1
  clear hs1 hb1
  go_wp2_with fail
  have hs := Set_any 6 4 5 HS1.out ⟨by omega, by omega⟩
  rw [ex1] at hs
  refine hs.mono ?_
  rintro e w2 ⟨rfl, h⟩
  have M1 := Lib.hid (show Mut w1 (Nw w w1) B m1 w2 from h)
  clear h hs
  go_wp2_with fail
  have hs := Get_any 9 M1.out.1 ⟨by omega, by omega⟩
  rw [ex2] at hs
  refine hs.mono ?_
  rintro e _ ⟨rfl, rfl⟩
  clear hs
  go_wp2_with fail
  have hs := Nodes_any M1.out.1
  rw [ex3, ex4] at hs
  refine hs.mono ?_
  rintro e w3 ⟨rfl, hb3⟩
  have HB3 := Lib.hid hb3
  clear hs hb3
  go_wp2_with fail
  have hs := Marks_any (M1.out.1.below HB3.out)
  rw [ex5'] at hs
  refine hs.mono ?_
  rintro e w4 ⟨A4, c4, rfl, hm4, hb4⟩
  have HB4 := Lib.hid hb4
  have HM4 := Lib.hid hm4
  have HB24 := Lib.hid (btr HB3.out hb4 (Nat.le_refl _))
  clear hs hb4 hm4
  have S4 := Lib.hid (M1.out.1.below HB24.out)
  have HO2 := Lib.hid (show ∀ k, Ext (Nw w w1) w1 w2 k → k < w2.heap.size from M1.out.1.lt)
  go_wp2_with fail
  have hs := Clear_any 8 2 S4.out ⟨by omega, by omega⟩
  rw [ex6] at hs
  refine hs.mono ?_
  rintro e w5 ⟨rfl, h⟩
  have M2 := Lib.hid (show Mut w4 (Ext (Nw w w1) w1 w2) B m2 w5 from h)
  clear h hs
  go_wp2_with fail
  have hs := Nodes_any M2.out.1
  rw [ex7, ex8] at hs
  refine hs.mono ?_
  rintro e w6 ⟨rfl, hb6⟩
  have M3 := Lib.hid (M2.out.then hb6)
  clear hs hb6 M2
  go_wp2_with fail
  have hs := Next_any 0 M3.out.1 ⟨by omega, by omega⟩
  rw [show (0 : Int).toNat = 0 from rfl, ex9] at hs
  refine hs.mono ?_
  rintro e w7 ⟨rfl, hb7⟩
  have M4 := Lib.hid (M3.out.then hb7)
  clear hs hb7 M3
  unfold three
  go_wp2_with fail
  have hs := Next_any 8 M4.out.1 ⟨by omega, by omega⟩
  rw [show (8 : Int).toNat = 8 from rfl, ex10] at hs
  refine hs.mono ?_
  rintro e w8 ⟨rfl, hb8⟩
  have M5 := Lib.hid (M4.out.then hb8)
  clear hs hb8 M4
  unfold three
  go_wp2_with fail
  have hs := Set_any 7 1 6 M5.out.1 ⟨by omega, by omega⟩
  rw [ex11] at hs
  refine hs.mono ?_
  rintro e w9 ⟨rfl, h⟩
  have M6 := Lib.hid (show Mut w4 (Ext (Nw w w1) w1 w2) B m3 w9 from M5.out.trans h)
  clear h hs M5
  have L4 := Lib.hid (HM4.out.keep M6.out.2 (fun k hk ho => by have := HO2.out k ho; have := HB3.out.size; omega))
  have BW := Lib.hid (show Below w.heap.size w w9 from by
    have b2 := M1.out.bel HB1.out (fun k hk => hk.1)
    have b4 := b2.trans (HB24.out.mono b2.size)
    exact b4.trans (M6.out.2.below b4.size (fun k hk => by
      have := HB1.out.size
      rcases hk with hk | hk
      · exact hk.1
      · have := hk.1; omega)))
  obtain ⟨Wa, hWa⟩ : ∃ Wa, w9.alloc (.cells #[.int .i64 6, .int .i64 4, .int .i64 5] 50) = Wa := ⟨_, rfl⟩
  have hba : Below w9.heap.size w9 Wa := by rw [← hWa]; exact bnew _ _
  have ha := mks_one w9 Wa ⟨6, 4, 5⟩ hWa.symm
  have HE := Lib.hid (eq26_any A4 (some ⟨w9.heap.size, 0, none⟩) c4 1 _ _ _ _ Wa (by simp) (L4.out.below hba) ha)
  rw [eqM_self] at HE
  have HBA := Lib.hid hba
  clear hba ha
  go_wp2_with fail
  refine HE.out.mono ?_
  rintro e w10 ⟨rfl, hb10⟩
  have B9 := Lib.hid (btr HBA.out hb10 (Nat.le_refl _))
  clear hb10 hWa
  go_wp2_with fail
  have hs := Marks_any (M6.out.1.below B9.out)
  rw [ex12'] at hs
  refine hs.mono ?_
  rintro e w11 ⟨A11, c11, rfl, hm11, hb11⟩
  have HM11 := Lib.hid hm11
  have B11 := Lib.hid (btr B9.out hb11 (Nat.le_refl _))
  clear hs hm11 hb11
  obtain ⟨Wb, hWb⟩ : ∃ Wb, w11.alloc (.cells #[.int .i64 6, .int .i64 1, .int .i64 5, .int .i64 7, .int .i64 1, .int .i64 6] 50) = Wb := ⟨_, rfl⟩
  have hbb : Below w11.heap.size w11 Wb := by rw [← hWb]; exact bnew _ _
  have hb := mks_two w11 Wb ⟨6, 1, 5⟩ ⟨7, 1, 6⟩ hWb.symm
  have HE2 := Lib.hid (eq26_any A11 (some ⟨w11.heap.size, 0, none⟩) c11 2 _ _ _ _ Wb (by simp) (HM11.out.below hbb) hb)
  rw [eqM_self] at HE2
  have HBB := Lib.hid hbb
  clear hbb hb
  go_wp2_with fail
  refine HE2.out.mono ?_
  rintro e w12 ⟨rfl, hb12⟩
  have B12 := Lib.hid (btr B11.out (btr HBB.out hb12 (Nat.le_refl _)) (Nat.le_refl _))
  clear hb12 hWb
  go_wp2_with fail
  go_ret
  exact ⟨rfl, BW.out.trans (B12.out.mono BW.out.size)⟩

end Go.Proofs.Ytdjfeibcbmelcaa
