/- The statements' helper: the examples of the chapter hold. -/
import Derived.Test.YtejfoefhaphacaaGreatFc
namespace Go.Proofs.YtejfoefhaphacaaGreat
open Go.RowKit Go.Shelf

def q0 : Option Ce := newC ⟨256, 1, 2⟩
def q1 : Option Ce := adD q0 16
def q2 : Option Ce := adD q1 18
def q3 : Option Ce := tkDr q2 1
def q4 : Option Ce := adD q3 17
def q5 : Option Ce := tkDr q4 2
def q6 : Option Ce := ptDr q5 [4096]
def q7 : Option Ce := ptDr q6 [4352, 4352]
def q8 : Option Ce := ptDr q7 [4353]
theorem qx0 : okC ⟨256, 1, 2⟩ = true := by decide +kernel
theorem qx1 : adE q0 16 = 0 := by decide +kernel
theorem qx2 : adE q1 18 = 0 := by decide +kernel
theorem qx3 : tkR q2 1 = [4096] := by decide +kernel
theorem qx3' : tkEr q2 1 = 0 := by decide +kernel
theorem qx4 : adE q3 17 = 0 := by decide +kernel
theorem qx5 : tkR q4 2 = [4352, 4608] := by decide +kernel
theorem qx5' : tkEr q4 2 = 0 := by decide +kernel
theorem qx6 : ptEr q5 [4096] = 0 := by decide +kernel
theorem qx6' : ptVr q5 [4096] = [(16, 1)] := by decide +kernel
theorem qx7 : ptEr q6 [4352, 4352] = 9 := by decide +kernel
theorem qx8 : ptEr q7 [4353] = 8 := by decide +kernel
theorem qx9 : runs q8 = [(17, 1), (18, 1)] := by decide +kernel
theorem zat1 (W : World) (a : Int) (ha : InR a) (t : TypeId) : ZAt (W.alloc (.cells #[.int .i64 a] t)) (W.alloc (.cells #[.int .i64 a] t)).heap.size (some ⟨W.heap.size, 0, none⟩) [a] := by
  intro i x hx
  cases i with
  | zero => simp at hx; subst hx; exact ⟨ha, _, _, rfl, by simp, by go_simp⟩
  | succ i => simp at hx
theorem zat2 (W : World) (a b : Int) (ha : InR a) (hb : InR b) (t : TypeId) : ZAt (W.alloc (.cells #[.int .i64 a, .int .i64 b] t)) (W.alloc (.cells #[.int .i64 a, .int .i64 b] t)).heap.size (some ⟨W.heap.size, 0, none⟩) [a, b] := by
  intro i x hx
  rcases i with _ | _ | i
  · simp at hx; subst hx; exact ⟨ha, _, _, rfl, by simp, by go_simp⟩
  · simp at hx; subst hx; exact ⟨hb, _, _, rfl, by simp, by go_simp⟩
  · simp at hx

theorem lat1 (W : World) (a : Nat) (t : TypeId) : LAt (W.alloc (.cells #[.int .i64 a] t)) (some ⟨W.heap.size, 0, none⟩) [a] := by
  intro i x hx
  cases i with
  | zero => simp at hx; subst hx; exact ⟨_, rfl, by simp, by go_simp⟩
  | succ i => simp at hx
theorem lat2 (W : World) (a b : Nat) (t : TypeId) : LAt (W.alloc (.cells #[.int .i64 a, .int .i64 b] t)) (some ⟨W.heap.size, 0, none⟩) [a, b] := by
  intro i x hx
  rcases i with _ | _ | i
  · simp at hx; subst hx; exact ⟨_, rfl, by simp, by go_simp⟩
  · simp at hx; subst hx; exact ⟨_, rfl, by simp, by go_simp⟩
  · simp at hx
theorem rat1 (W : World) (a b : Nat) (t : TypeId) : RsAt (W.alloc (.cells #[.int .i64 a, .int .i64 b] t)) (some ⟨W.heap.size, 0, none⟩) [(a, b)] := by
  intro i x y hx
  cases i with
  | zero => simp at hx; obtain ⟨rfl, rfl⟩ := hx; exact ⟨_, rfl, by simp, by go_simp, by go_simp⟩
  | succ i => simp at hx
theorem rat2 (W : World) (a b c d : Nat) (t : TypeId) : RsAt (W.alloc (.cells #[.int .i64 a, .int .i64 b, .int .i64 c, .int .i64 d] t)) (some ⟨W.heap.size, 0, none⟩) [(a, b), (c, d)] := by
  intro i x y hx
  rcases i with _ | _ | i
  · simp at hx; obtain ⟨rfl, rfl⟩ := hx; exact ⟨_, rfl, by simp, by go_simp, by go_simp⟩
  · simp at hx; obtain ⟨rfl, rfl⟩ := hx; exact ⟨_, rfl, by simp, by go_simp, by go_simp⟩
  · simp at hx

set_option maxRecDepth 100000 in
set_option maxHeartbeats 4000000 in
theorem alive_any (w : World) : Calls Tryz.prog 6 #[] w (Yes w) := by
  have HN := cNew_any 256 1 2
  rw [show newC ⟨256, 1, 2⟩ = q0 from rfl, show errV ⟨256, 1, 2⟩ = 0 from if_pos qx0] at HN
  have HN := Lib.hid HN
  go_enter Tryz.func6, Tryz.ntmps6
  go_wp2_with fail
  refine (HN.out _).mono ?_
  rintro e w1 ⟨v, rfl, hob, _, hb1⟩
  obtain ⟨B, rfl⟩ := lob_ptr hob
  have H1 := Lib.hid (Own2.of (show LOwn false w w1 _ q0 from ⟨hob, hb1⟩))
  clear hob hb1
  go_wp2_with fail
  have C1 := H1.out.add 16
  rw [qx1, show adD q0 16 = q1 from rfl] at C1
  refine C1.mono ?_
  rintro e w2 ⟨rfl, O2, ho, hs⟩
  have H2 := Lib.hid ho
  clear C1 ho hs
  go_wp2_with fail
  have C2 := H2.out.add 18
  rw [qx2, show adD q1 18 = q2 from rfl] at C2
  refine C2.mono ?_
  rintro e w3 ⟨rfl, O3, ho, hs⟩
  have H3 := Lib.hid ho
  clear C2 ho hs
  go_wp2_with fail
  have C3 := H3.out.take 1 ⟨by omega, by omega⟩
  rw [qx3, qx3', show tkDr q2 1 = q3 from rfl] at C3
  refine C3.mono ?_
  rintro e w4 ⟨P4, c4, rfl, O4, hl, _, ho, hs⟩
  have H4 := Lib.hid ho
  have M := Lib.hid hl
  clear hl
  clear C3 ho hs
  go_wp2_with fail
  have C4 := H4.out.add 17
  rw [qx4, show adD q3 17 = q4 from rfl] at C4
  refine C4.mono ?_
  rintro e w5 ⟨rfl, O5, ho, hs⟩
  have H5 := Lib.hid ho
  have M' := Lib.hid (M.out.step hs)
  clear M
  have M := M'
  clear M'
  clear C4 ho hs
  go_wp2_with fail
  have C5 := H5.out.take 2 ⟨by omega, by omega⟩
  rw [qx5, qx5', show tkDr q4 2 = q5 from rfl] at C5
  refine C5.mono ?_
  rintro e w6 ⟨P6, c6, rfl, O6, hl, _, ho, hs⟩
  have H6 := Lib.hid ho
  have M' := Lib.hid (M.out.step hs)
  clear M
  have M := M'
  clear M'
  have N := Lib.hid hl
  clear hl
  clear C5 ho hs
  go_wp2_with fail
  have hbq := bnew w6 (.cells #[.int .i64 4096] 3)
  have HQ := Lib.hid (H6.out.below hbq)
  have M' := Lib.hid (M.out.below hbq)
  clear M
  have M := M'
  clear M'
  have N' := Lib.hid (N.out.below hbq)
  clear N
  have N := N'
  clear N'
  have C6 := HQ.out.put (some ⟨w6.heap.size, 0, none⟩) 1 [4096] (by decide) (fun x hx _ ho => by injection hx with hx; subst hx; have := H6.out.ob.lt _ ho; simp at this) (zat1 _ _ ⟨by omega, by omega⟩ _)
  rw [qx6, qx6', show ptDr q5 [4096] = q6 from rfl] at C6
  clear hbq
  refine C6.mono ?_
  rintro e w7 ⟨P7, c7, rfl, O7, hl, _, ho, hs⟩
  have H7 := Lib.hid ho
  have M' := Lib.hid (M.out.step hs)
  clear M
  have M := M'
  clear M'
  have N' := Lib.hid (N.out.step hs)
  clear N
  have N := N'
  clear N'
  have R := Lib.hid hl
  clear hl
  clear C6 ho hs HQ
  go_wp2_with fail
  have hbq := bnew w7 (.cells #[.int .i64 4352, .int .i64 4352] 3)
  have HQ := Lib.hid (H7.out.below hbq)
  have M' := Lib.hid (M.out.below hbq)
  clear M
  have M := M'
  clear M'
  have N' := Lib.hid (N.out.below hbq)
  clear N
  have N := N'
  clear N'
  have R' := Lib.hid (R.out.below hbq)
  clear R
  have R := R'
  clear R'
  have C7 := HQ.out.put (some ⟨w7.heap.size, 0, none⟩) 2 [4352, 4352] (by decide) (fun x hx _ ho => by injection hx with hx; subst hx; have := H7.out.ob.lt _ ho; simp at this) (zat2 _ _ _ ⟨by omega, by omega⟩ ⟨by omega, by omega⟩ _)
  rw [qx7, show ptDr q6 [4352, 4352] = q7 from rfl] at C7
  clear hbq
  refine C7.mono ?_
  rintro e w8 ⟨P8, c8, rfl, O8, _, _, ho, hs⟩
  have H8 := Lib.hid ho
  have M' := Lib.hid (M.out.step hs)
  clear M
  have M := M'
  clear M'
  have N' := Lib.hid (N.out.step hs)
  clear N
  have N := N'
  clear N'
  have R' := Lib.hid (R.out.step hs)
  clear R
  have R := R'
  clear R'
  clear C7 ho hs HQ
  go_wp2_with fail
  have hbq := bnew w8 (.cells #[.int .i64 4353] 3)
  have HQ := Lib.hid (H8.out.below hbq)
  have M' := Lib.hid (M.out.below hbq)
  clear M
  have M := M'
  clear M'
  have N' := Lib.hid (N.out.below hbq)
  clear N
  have N := N'
  clear N'
  have R' := Lib.hid (R.out.below hbq)
  clear R
  have R := R'
  clear R'
  have C8 := HQ.out.put (some ⟨w8.heap.size, 0, none⟩) 1 [4353] (by decide) (fun x hx _ ho => by injection hx with hx; subst hx; have := H8.out.ob.lt _ ho; simp at this) (zat1 _ _ ⟨by omega, by omega⟩ _)
  rw [qx8, show ptDr q7 [4353] = q8 from rfl] at C8
  clear hbq
  refine C8.mono ?_
  rintro e w9 ⟨P9, c9, rfl, O9, _, _, ho, hs⟩
  have H9 := Lib.hid ho
  have M' := Lib.hid (M.out.step hs)
  clear M
  have M := M'
  clear M'
  have N' := Lib.hid (N.out.step hs)
  clear N
  have N := N'
  clear N'
  have R' := Lib.hid (R.out.step hs)
  clear R
  have R := R'
  clear R'
  clear C8 ho hs HQ
  go_wp2_with fail
  have I1 := Ints_any P4 (some ⟨w9.heap.size, 0, none⟩) c4 1 [4096] (w9.alloc (.cells #[.int .i64 4096] 3)) (by decide) (M.out.below (bnew _ _)).1 (lat1 _ _ _)
  refine I1.mono ?_
  rintro e w10 ⟨rfl, hb⟩
  have hb' := btr (bnew w9 (.cells #[.int .i64 4096] 3)) hb (Nat.le_refl _)
  have H10 := Lib.hid (H9.out.below hb')
  have N' := Lib.hid (N.out.below hb')
  have R' := Lib.hid (R.out.below hb')
  clear I1 hb hb' M N R
  go_wp2_with fail
  have I2 := Ints_any P6 (some ⟨w10.heap.size, 0, none⟩) c6 2 [4352, 4608] (w10.alloc (.cells #[.int .i64 4352, .int .i64 4608] 3)) (by decide) (N'.out.below (bnew _ _)).1 (lat2 _ _ _ _)
  refine I2.mono ?_
  rintro e w11 ⟨rfl, hb⟩
  have hb' := btr (bnew w10 (.cells #[.int .i64 4352, .int .i64 4608] 3)) hb (Nat.le_refl _)
  have H11 := Lib.hid (H10.out.below hb')
  have R2 := Lib.hid (R'.out.below hb')
  clear I2 hb hb' N' R'
  go_wp2_with fail
  have I3 := RunsEq_any P7 (some ⟨w11.heap.size, 0, none⟩) c7 1 [(16, 1)] (w11.alloc (.cells #[.int .i64 16, .int .i64 1] 55)) (by decide) (R2.out.below (bnew _ _)).1 (rat1 _ _ _ _)
  refine I3.mono ?_
  rintro e w12 ⟨rfl, hb⟩
  have hb' := btr (bnew w11 (.cells #[.int .i64 16, .int .i64 1] 55)) hb (Nat.le_refl _)
  have H12 := Lib.hid (H11.out.below hb')
  clear I3 hb hb' R2
  go_wp2_with fail
  have I4 := H12.out.spans
  rw [qx9] at I4
  refine I4.mono ?_
  rintro e w13 ⟨P13, c13, rfl, hr, ho, _⟩
  have H13 := Lib.hid ho
  have R3 := Lib.hid hr
  clear I4 hr ho
  go_wp2_with fail
  have I5 := RunsEq_any P13 (some ⟨w13.heap.size, 0, none⟩) c13 2 [(17, 1), (18, 1)] (w13.alloc (.cells #[.int .i64 17, .int .i64 1, .int .i64 18, .int .i64 1] 55)) (by decide) (R3.out.below (bnew _ _)).1 (rat2 _ _ _ _ _ _)
  refine I5.mono ?_
  rintro e w14 ⟨rfl, hb⟩
  have H14 := Lib.hid (H13.out.below (btr (bnew w13 (.cells #[.int .i64 17, .int .i64 1, .int .i64 18, .int .i64 1] 55)) hb (Nat.le_refl _)))
  clear I5 hb R3
  go_wp2_with fail
  go_ret
  exact ⟨rfl, H14.out.bel⟩

end Go.Proofs.YtejfoefhaphacaaGreat
