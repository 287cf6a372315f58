/- The statements' helper: the examples of the chapter hold. -/
import Derived.Test.YtaefhhkdfepgmaaFc
namespace Go.Proofs.Ytaefhhkdfepgmaa
open Go.RowKit Go.Lib

def q0 : Option Tc := newT 2 3
def q1 : Option Tc := insD q0 [8, 16]
def q2 : Option Tc := insD q1 [24, 32]
def q3 : Option Tc := rmD q2
def q4 : Option Tc := outD 0 q3
def q5 : Option Tc := outD 1 q4
theorem qe0 : newE 2 3 = 0 := by decide
theorem qv1 : insV q0 [8, 16] = true := by decide +kernel
theorem qe1 : insE q0 [8, 16] = 0 := by decide +kernel
theorem qv2 : insV q1 [24, 32] = true := by decide +kernel
theorem qe2 : insE q1 [24, 32] = 0 := by decide +kernel
theorem qv3 : rmV q2 = [24, 32] := by decide +kernel
theorem qe3 : rmE q2 = 0 := by decide +kernel
theorem ql3 : lenT q3 = 1 := by decide +kernel
theorem qw3 : lowT q3 = 0 := by decide +kernel
theorem qh3 : half q3 = 0 := by decide +kernel
theorem qo3 : outV 0 q3 = [] := by decide +kernel
theorem qw4 : lowT q4 = 1 := by decide +kernel
theorem qh4 : half q4 = 1 := by decide +kernel
theorem qo4 : outV 1 q4 = [[8, 16]] := by decide +kernel
theorem qv5 : insV q5 [8] = false := by decide +kernel
theorem qe5 : insE q5 [8] = 1 := by decide +kernel
theorem iat1 (W : World) (a : Int) (ha : InR a) (t : TypeId) : IAt (fun _ => True) (W.alloc (.cells #[.int .i64 a] t)) (some ⟨W.heap.size, 0, none⟩) [a] := by
  intro i x hx
  cases i with
  | zero => simp at hx; subst hx; exact ⟨_, _, rfl, by simp, trivial, by go_simp, ha⟩
  | succ i => simp at hx
theorem iat2 (W : World) (a b : Int) (ha : InR a) (hb : InR b) (t : TypeId) : IAt (fun _ => True) (W.alloc (.cells #[.int .i64 a, .int .i64 b] t)) (some ⟨W.heap.size, 0, none⟩) [a, b] := by
  intro i x hx
  rcases i with _ | _ | i
  · simp at hx; subst hx; exact ⟨_, _, rfl, by simp, trivial, by go_simp, ha⟩
  · simp at hx; subst hx; exact ⟨_, _, rfl, by simp, trivial, by go_simp, hb⟩
  · simp at hx
theorem lat1 (W : World) (l : List Int) (n c g : Nat) (hn : n = l.length) (t : TypeId) (h : IAt (fun _ => True) W (some ⟨g, 0, none⟩) l) : LAt (fun _ => True) (W.alloc (.cells #[.slice (some ⟨g, 0, none⟩) n c] t)) (some ⟨W.heap.size, 0, none⟩) [l] := by
  intro i x hx
  cases i with
  | zero => simp at hx; subst hx; subst hn; exact ⟨_, 0, _, c, rfl, by simp, trivial, by go_simp, h.below (bnew _ _)⟩
  | succ i => simp at hx
theorem inR (a : Int) (h : -1000 ≤ a ∧ a ≤ 100000) : InR a := ⟨by omega, by omega⟩

set_option maxRecDepth 100000 in
set_option maxHeartbeats 8000000 in
theorem alive_any (w : World) : Calls Try.prog 10 #[] w (Yes w) := by
  have HN := cNew_any 2 3 w
  rw [show newT 2 3 = q0 from rfl, qe0] at HN
  have HN := Lib.hid HN
  go_enter Try.func10, Try.ntmps10
  go_wp2_with fail
  refine HN.out.mono ?_
  rintro e w1 ⟨v, rfl, hob, _, hb1⟩
  obtain ⟨B, hB⟩ := (show TOb false w1 (Nw w w1) (.pointer v) (some ⟨2, 3, 0, []⟩) from hob).ptr
  cases hB
  have H1 := Lib.hid (Own.new hob hb1)
  clear hob hb1 HN
  go_wp2_with fail
  have hbq := bnew w1 (.cells #[.int .i64 8, .int .i64 16] 3)
  have HQ := Lib.hid (H1.out.below hbq)
  clear hbq
  have C2 := cInsert_any HQ.out.ob (some ⟨w1.heap.size, 0, none⟩) 2 [8, 16] (by decide) (iat2 w1 8 16 (inR _ (by omega)) (inR _ (by omega)) 3)
  unfold InsP at C2
  rw [qv1, qe1, show insD q0 [8, 16] = q1 from rfl] at C2
  refine C2.mono ?_
  rintro e w2 ⟨rfl, hM, _⟩
  have H2 := Lib.hid (HQ.out.mut hM (fun _ h => h))
  clear hM C2 HQ H1
  go_wp2_with fail
  have hbq := bnew w2 (.cells #[.int .i64 24, .int .i64 32] 3)
  have HQ := Lib.hid (H2.out.below hbq)
  clear hbq
  have C2 := cInsert_any HQ.out.ob (some ⟨w2.heap.size, 0, none⟩) 2 [24, 32] (by decide) (iat2 w2 24 32 (inR _ (by omega)) (inR _ (by omega)) 3)
  unfold InsP at C2
  rw [qv2, qe2, show insD q1 [24, 32] = q2 from rfl] at C2
  refine C2.mono ?_
  rintro e w3 ⟨rfl, hM, _⟩
  have H3 := Lib.hid (HQ.out.mut hM (fun _ h => h))
  clear hM C2 HQ H2
  go_wp2_with fail
  have C3 := cRemove_any H3.out.ob
  unfold RmP at C3
  rw [qv3, qe3, show rmD q2 = q3 from rfl] at C3
  refine C3.mono ?_
  rintro e w4 ⟨A4, c4, rfl, hi, hM⟩
  have I4 := Lib.hid hi
  have H4 := Lib.hid (H3.out.mut hM H3.out.ob.isB)
  clear hM C3 hi H3
  go_wp2_with fail
  have C4 := cLen_any H4.out.ob
  rw [ql3] at C4
  refine C4.mono ?_
  rintro e _ ⟨rfl, rfl⟩
  clear C4
  go_wp2_with fail
  have C5 := cLow_any H4.out.ob
  rw [qw3] at C5
  refine C5.mono ?_
  rintro e _ ⟨rfl, rfl⟩
  clear C5
  go_wp2_with fail
  have C6 := cTick_any H4.out.ob
  unfold OutP at C6
  rw [qh3, qo3, show outD 0 q3 = q4 from rfl] at C6
  refine C6.mono ?_
  rintro e w5 ⟨A5, c5, rfl, h5, h6, hM⟩
  clear h5 h6
  have I5 := Lib.hid (I4.out.keep hM.2 (fun k h1 h2 => h1.2 h2))
  have H5 := Lib.hid (H4.out.mut hM H4.out.ob.isB)
  clear hM C6 H4 I4
  go_wp2_with fail
  have C7 := cLow_any H5.out.ob
  rw [qw4] at C7
  refine C7.mono ?_
  rintro e _ ⟨rfl, rfl⟩
  clear C7
  go_wp2_with fail
  have C8 := cTick_any H5.out.ob
  unfold OutP at C8
  rw [qh4, qo4, show outD 1 q4 = q5 from rfl] at C8
  refine C8.mono ?_
  rintro e w6 ⟨A6, c6, rfl, h6, hl, hM⟩
  clear h6
  have I6 := Lib.hid (I5.out.keep hM.2 (fun k h1 h2 => h1.2 h2))
  have L6 := Lib.hid hl
  have H6 := Lib.hid (H5.out.mut hM H5.out.ob.isB)
  clear hM hl C8 H5 I5
  go_wp2_with fail
  have hbq := bnew w6 (.cells #[.int .i64 8] 3)
  have HQ := Lib.hid (H6.out.below hbq)
  have I7 := Lib.hid (I6.out.below hbq)
  have L7 := Lib.hid (L6.out.below hbq)
  clear hbq I6 L6 H6
  have C9 := cInsert_any HQ.out.ob (some ⟨w6.heap.size, 0, none⟩) 1 [8] (by decide) (iat1 w6 8 (inR _ (by omega)) 3)
  unfold InsP at C9
  rw [qv5, qe5] at C9
  refine C9.mono ?_
  rintro e w7 ⟨rfl, hM, hb⟩
  have I8 := Lib.hid (I7.out.below (hb rfl))
  have L8 := Lib.hid (L7.out.below (hb rfl))
  have H7 := Lib.hid (HQ.out.below (hb rfl))
  clear hM hb C9 HQ I7 L7
  go_wp2_with fail
  have I9 := Ints_any A4 (some ⟨w7.heap.size, 0, none⟩) c4 2 [24, 32] (w7.alloc (.cells #[.int .i64 24, .int .i64 32] 3)) (by decide) (I8.out.below (bnew _ _)) (iat2 w7 24 32 (inR _ (by omega)) (inR _ (by omega)) 3)
  refine I9.mono ?_
  rintro e w8 ⟨rfl, hb⟩
  have hb' := btr (bnew w7 (.cells #[.int .i64 24, .int .i64 32] 3)) hb (Nat.le_refl _)
  have H8 := Lib.hid (H7.out.below hb')
  have L9 := Lib.hid (L8.out.below hb')
  clear I9 hb hb' I8 L8 H7
  go_wp2_with fail
  have S1 := rSame_any A6 (some ⟨w8.heap.size + 1, 0, none⟩) c6 1 [[8, 16]] ((w8.alloc (.cells #[.int .i64 8, .int .i64 16] 3)).alloc (.cells #[.slice (some ⟨w8.heap.size, 0, none⟩) 2 2] 32)) (by decide) (by decide)
    ((L9.out.below (bnew _ _)).below (bnew _ _)) (by
      have := lat1 (w8.alloc (.cells #[.int .i64 8, .int .i64 16] 3)) [8, 16] 2 2 w8.heap.size rfl 32 (iat2 w8 8 16 (inR _ (by omega)) (inR _ (by omega)) 3)
      rwa [World.size_alloc] at this)
  refine S1.mono ?_
  rintro e w9 ⟨rfl, hb⟩
  have HF := Lib.hid (btr H8.out.bel (btr ((bnew w8 (.cells #[.int .i64 8, .int .i64 16] 3)).alloc (by simp) (.cells #[.slice (some ⟨w8.heap.size, 0, none⟩) 2 2] 32)) hb (Nat.le_refl _)) (Nat.le_refl _))
  clear S1 hb L9 H8
  go_wp2_with fail
  go_ret
  exact ⟨rfl, HF.out⟩
end Go.Proofs.Ytaefhhkdfepgmaa
