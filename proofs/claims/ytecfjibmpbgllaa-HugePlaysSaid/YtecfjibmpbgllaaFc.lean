/- The statements' helper: the examples of the chapter hold. -/
import Derived.Test.YtecfjibmpbgllaaFb
namespace Go.Proofs.Ytecfjibmpbgllaa
open Go.RowKit

def m1 : Mo := turnD (newM 2) 0 0 3
def m2 : Mo := turnD m1 1 0 3
def m3 : Mo := chD m2 0 4 pU 1
def m4 : Mo := chD m3 2 2 pN 2
def m5 : Mo := chD m4 16 16 pU 1
def m6 : Mo := chD m5 16 16 pN 2
def m7 : Mo := turnD m6 1 1 0
theorem ex1 : turnE (newM 2) 0 0 = 0 := by decide +kernel
theorem ex2 : turnE m1 1 0 = 0 := by decide +kernel
theorem ex3 : chE m2 0 4 pU = 0 := by decide +kernel
theorem ex4 : chE m3 2 2 pN = 0 := by decide +kernel
theorem ex5 : stV m4 2 = 2 := by decide +kernel
theorem ex6 : kinds m4.S 2 m4.h = [0] := by decide +kernel
theorem ex7 : kinds m4.S 1 m4.h = [1] := by decide +kernel
theorem ex8 : chE m4 16 16 pU = 0 := by decide +kernel
theorem ex9 : chE m5 16 16 pN = 0 := by decide +kernel
theorem ex10 : planM m6 1 = [(16, 16)] := by decide +kernel
theorem ex11 : planM m6 17 = [(16, 16), (2, 2)] := by decide +kernel
theorem ex12 : turnE m6 1 1 = 0 := by decide +kernel
theorem ex13 : turnE m7 0 1 = 5 := by decide +kernel

theorem nats_one (w W : World) (x : Nat) (hW : W = w.alloc (.cells #[.int .i64 x] 3)) : NatsAt W 0 (some ⟨w.heap.size, 0, none⟩) [x] := fun i y hi => by
  obtain rfl : i = 0 := by have := (List.getElem?_eq_some_iff.1 hi).1; simp at this; omega
  obtain rfl : x = y := by simpa using hi
  subst hW
  exact ⟨_, rfl, Nat.zero_le _, by simp, by go_simp⟩
theorem runs_one (w W : World) (a b : Nat) (hW : W = w.alloc (.cells #[.int .i64 a, .int .i64 b] 55)) : RunsAt W 0 (some ⟨w.heap.size, 0, none⟩) [(a, b)] := fun i x y hi => by
  obtain rfl : i = 0 := by have := (List.getElem?_eq_some_iff.1 hi).1; simp at this; omega
  obtain ⟨rfl, rfl⟩ : a = x ∧ b = y := by simpa using hi
  subst hW
  exact ⟨_, rfl, Nat.zero_le _, by simp, by go_simp, by go_simp⟩
theorem runs_two (w W : World) (a b c d : Nat) (hW : W = w.alloc (.cells #[.int .i64 a, .int .i64 b, .int .i64 c, .int .i64 d] 55)) : RunsAt W 0 (some ⟨w.heap.size, 0, none⟩) [(a, b), (c, d)] := fun i x y hi => by
  have hi2 : i = 0 ∨ i = 1 := by have := (List.getElem?_eq_some_iff.1 hi).1; simp at this; omega
  subst hW
  rcases hi2 with rfl | rfl
  · obtain ⟨rfl, rfl⟩ : a = x ∧ b = y := by simpa using hi
    exact ⟨_, rfl, Nat.zero_le _, by simp, by go_simp, by go_simp⟩
  · obtain ⟨rfl, rfl⟩ : c = x ∧ d = y := by simpa using hi
    exact ⟨_, rfl, Nat.zero_le _, by simp, by go_simp, by go_simp⟩

theorem inR_lit {x : Int} (h : -9223372036854775808 ≤ x ∧ x ≤ 9223372036854775807) : InR x := h

set_option maxRecDepth 100000 in
set_option maxHeartbeats 2000000 in
theorem alive_any (w : World) : Calls Try.prog 13 #[] w fun e w' => e = .returned (.bool true) ∧ Below w.heap.size w w' := by
  go_enter Try.func13, Try.ntmps13
  go_wp2_with fail
  refine (New_any 2 w (by omega) (by omega)).mono ?_
  rintro e w1 ⟨B, rfl, hb1, hs1⟩
  have HB1 := Lib.hid hb1
  have M0 := Lib.hid (show Mut w1 (Nw w w1) B (newM 2) w1 from Mut.same hs1 (Below.refl _ _))
  clear hs1 hb1
  go_wp2_with fail
  refine (Add_any 0 M0.out.1).mono ?_
  rintro e w2 ⟨rfl, h⟩
  have M1 := Lib.hid (show Mut w1 (Nw w w1) B m1 w2 from M0.out.trans h)
  clear h M0
  go_wp2_with fail
  refine (Add_any 1 M1.out.1).mono ?_
  rintro e w3 ⟨rfl, h⟩
  have M2 := Lib.hid (show Mut w1 (Nw w w1) B m2 w3 from M1.out.trans h)
  clear h M1
  go_wp2_with fail
  refine (Use_any 0 4 M2.out.1 ⟨by omega, by omega⟩).mono ?_
  rintro e w4 ⟨rfl, h⟩
  have M3 := Lib.hid (show Mut w1 (Nw w w1) B m3 w4 from M2.out.trans h)
  clear h M2
  go_wp2_with fail
  refine (Unuse_any 2 2 M3.out.1 ⟨by omega, by omega⟩).mono ?_
  rintro e w5 ⟨rfl, h⟩
  have M4 := Lib.hid (show Mut w1 (Nw w w1) B m4 w5 from M3.out.trans h)
  clear h M3
  rw [ex1, ex2, show chE m2 0 4 pU = 0 from ex3, show chE m3 2 2 pN = 0 from ex4]
  go_wp2_with fail
  have hs := State_any 2 M4.out.1 ⟨by omega, by omega⟩
  rw [ex5] at hs
  refine hs.mono ?_
  rintro e _ ⟨rfl, rfl⟩
  clear hs
  go_wp2_with fail
  have hs := Broken_any M4.out.1
  rw [ex6] at hs
  refine hs.mono ?_
  rintro e w6 ⟨A6, c6, rfl, hn6, hb6⟩
  have HB6 := Lib.hid hb6
  have HN6 := Lib.hid hn6
  clear hs hn6 hb6
  go_wp2_with fail
  have hs := Idle_any (M4.out.1.below HB6.out)
  rw [ex7] at hs
  refine hs.mono ?_
  rintro e w7 ⟨A7, c7, rfl, hn7, hb7⟩
  have HB7 := Lib.hid hb7
  have HN7 := Lib.hid hn7
  have HB57 := Lib.hid (btr HB6.out hb7 (Nat.le_refl _))
  clear hs hn7 hb7
  have HO5 := Lib.hid (show ∀ k, Ext (Nw w w1) w1 w5 k → k < w5.heap.size from M4.out.1.lt)
  have HW7 := Lib.hid (M4.out.1.below HB57.out)
  have M5 := Lib.hid (show Mut w7 (Ext (Nw w w1) w1 w5) B m4 w7 from ⟨HW7.out.mono (fun _ hk => .inl hk) (fun k hk => by rcases hk with hk | hk; exact HW7.out.lt k hk; exact hk.2), Keep.refl _ _⟩)
  have BW5 := Lib.hid (M4.out.bel HB1.out (fun k hk => hk.1))
  have OL5 := Lib.hid (show ∀ k, Ext (Nw w w1) w1 w5 k → w.heap.size ≤ k from fun k hk => by
    have := HB1.out.size
    rcases hk with hk | hk
    · exact hk.1
    · have := hk.1; omega)
  clear M4
  go_wp2_with fail
  have hs := Use_any 16 16 M5.out.1 ⟨by omega, by omega⟩
  rw [ex8] at hs
  refine hs.mono ?_
  rintro e w8 ⟨rfl, h⟩
  have M6 := Lib.hid (show Mut w7 (Ext (Nw w w1) w1 w5) B m5 w8 from M5.out.trans h)
  clear h hs M5
  go_wp2_with fail
  have hs := Unuse_any 16 16 M6.out.1 ⟨by omega, by omega⟩
  rw [ex9] at hs
  refine hs.mono ?_
  rintro e w9 ⟨rfl, h⟩
  have M7 := Lib.hid (show Mut w7 (Ext (Nw w w1) w1 w5) B m6 w9 from M6.out.trans h)
  clear h hs M6
  have L6 := Lib.hid (((HN6.out.below HB7.out).keep M7.out.2 (fun k hk ho => by have := HO5.out k ho; omega)))
  have L7 := Lib.hid (HN7.out.keep M7.out.2 (fun k hk ho => by have := HO5.out k ho; have := HB6.out.size; omega))
  go_wp2_with fail
  have hs := Plan_go 1 M7.out.1 (by omega)
  rw [ex10] at hs
  refine hs.mono ?_
  rintro e w10 ⟨A10, c10, rfl, hn10, hb10⟩
  have HB10 := Lib.hid hb10
  have HN10 := Lib.hid hn10
  clear hs hn10 hb10
  go_wp2_with fail
  have hs := Plan_go 17 (M7.out.1.below HB10.out) (by omega)
  rw [ex11] at hs
  refine hs.mono ?_
  rintro e w11 ⟨A11, c11, rfl, hn11, hb11⟩
  have HN11 := Lib.hid hn11
  have HB11 := Lib.hid (btr HB10.out hb11 (Nat.le_refl _))
  have L10 := Lib.hid (HN10.out.below hb11)
  clear hs hn11 hb11 HN10 HB10
  go_wp2_with fail
  have X11 := Lib.hid (Below.refl w11.heap.size w11)
  have hs := IntsEq_any A6 (some ⟨w11.heap.size, 0, none⟩) c6 1 _ _ [0] _ (by simp) (((L6.out.below HB11.out).below X11.out).below (bnew w11 (.cells #[.int .i64 0] 3))) (nats_one w11 _ 0 rfl)
  refine hs.mono ?_
  rintro e w12 ⟨rfl, hb⟩
  have X12 := Lib.hid (btr (X11.out.alloc X11.out.size (.cells #[.int .i64 0] 3)) hb (Nat.le_refl _))
  clear hs hb
  go_wp2_with fail
  have hs := IntsEq_any A7 (some ⟨w12.heap.size, 0, none⟩) c7 1 _ _ [1] _ (by simp) (((L7.out.below HB11.out).below X12.out).below (bnew w12 (.cells #[.int .i64 1] 3))) (nats_one w12 _ 1 rfl)
  refine hs.mono ?_
  rintro e w13 ⟨rfl, hb⟩
  have X13 := Lib.hid (btr (X12.out.alloc X12.out.size (.cells #[.int .i64 1] 3)) hb (Nat.le_refl _))
  clear hs hb
  go_wp2_with fail
  have hs := RunsEq_any A10 (some ⟨w13.heap.size, 0, none⟩) c10 1 _ _ [(16, 16)] _ (by simp) ((L10.out.below X13.out).below (bnew w13 (.cells #[.int .i64 16, .int .i64 16] 55))) (runs_one w13 _ 16 16 rfl)
  refine hs.mono ?_
  rintro e w14 ⟨rfl, hb⟩
  have X14 := Lib.hid (btr (X13.out.alloc X13.out.size (.cells #[.int .i64 16, .int .i64 16] 55)) hb (Nat.le_refl _))
  clear hs hb
  go_wp2_with fail
  have hs := RunsEq_any A11 (some ⟨w14.heap.size, 0, none⟩) c11 2 _ _ [(16, 16), (2, 2)] _ (by simp) ((HN11.out.below X14.out).below (bnew w14 (.cells #[.int .i64 16, .int .i64 16, .int .i64 2, .int .i64 2] 55))) (runs_two w14 _ 16 16 2 2 rfl)
  refine hs.mono ?_
  rintro e w15 ⟨rfl, hb⟩
  have X15 := Lib.hid (btr (X14.out.alloc X14.out.size (.cells #[.int .i64 16, .int .i64 16, .int .i64 2, .int .i64 2] 55)) hb (Nat.le_refl _))
  clear hs hb
  go_wp2_with fail
  have M15 := Lib.hid (show Mut w7 (Ext (Nw w w1) w1 w5) B m6 w15 from M7.out.then (HB11.out.trans (X15.out.mono HB11.out.size)))
  have hs := Remove_any 1 M15.out.1
  rw [ex12] at hs
  refine hs.mono ?_
  rintro e w16 ⟨rfl, h⟩
  have M16 := Lib.hid (show Mut w7 (Ext (Nw w w1) w1 w5) B m7 w16 from M15.out.trans h)
  clear h hs
  go_wp2_with fail
  have hs := Remove_any 0 M16.out.1
  rw [ex13] at hs
  refine hs.mono ?_
  rintro e w17 ⟨rfl, h⟩
  have M17 := Lib.hid (M16.out.trans h)
  clear h hs
  go_wp2_with fail
  go_ret
  exact ⟨rfl, M17.out.bel (BW5.out.trans (HB57.out.mono BW5.out.size)) OL5.out⟩

end Go.Proofs.Ytecfjibmpbgllaa
