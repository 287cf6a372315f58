/- The statements' helper: the examples of the chapter hold. -/
import Derived.Test.YticcjelaenhigaaFc
namespace Go.Proofs.Yticcjelaenhigaa
open Go.RowKit Go.Lib

def tb1 : List Cs := [⟨8, 1, 4⟩]
def q0 : Option Tc := newT tb1 100
def q1 : Option Tc := tkD q0 0
def q2 : Option Tc := flD q1 0 [8, 16]
def q3 : Option Tc := tkD q2 0
def q4 : Option Tc := ptD q3 0 24
def q5 : Option Tc := ptD q4 0 32
theorem qe0 : newE tb1 100 = 0 := by decide +kernel
theorem qs0 : q0 = some ⟨100, [⟨8, 4, 1, 0, []⟩]⟩ := by rfl
theorem qv1 : tkV q0 0 = 0 := by decide +kernel
theorem qe1 : tkE q0 0 = 4 := by decide +kernel
theorem ql1 : limT q1 0 = 2 := by decide +kernel
theorem qw1 : wtV q1 0 = 2 := by decide +kernel
theorem qr1 : errK q1 0 = 0 := by decide +kernel
theorem qe2 : flE q1 0 [8, 16] = 0 := by decide +kernel
theorem qv3 : tkV q2 0 = 8 := by decide +kernel
theorem qe3 : tkE q2 0 = 0 := by decide +kernel
theorem qv4 : ptV q3 0 24 = [] := by decide +kernel
theorem qe4 : ptE q3 0 = 0 := by decide +kernel
theorem qv5 : ptV q4 0 32 = [16, 24, 32] := by decide +kernel
theorem qe5 : ptE q4 0 = 0 := by decide +kernel
theorem ql5 : limT q5 0 = 3 := by decide +kernel
theorem qd5 : batV drainV q5 = [] := by decide +kernel
theorem iatL (W : World) (l : List Int) (hl : ∀ a ∈ l, InR a) : IAt (fun g => g = W.heap.size) (W.alloc (.cells (cZ l).toArray 3)) (some ⟨W.heap.size, 0, none⟩) l := by
  intro i a hi
  refine ⟨_, 0, rfl, by simp, rfl, ?_, hl a (List.mem_of_getElem? hi)⟩
  rw [Nat.zero_add]
  exact cell_block (heap_alloc_new W _) (by rw [List.getElem?_toArray]; exact cZ_at hi)
theorem inR (a : Int) (h : -1000 ≤ a ∧ a ≤ 100000) : InR a := ⟨by omega, by omega⟩
theorem inRs {l : List Int} (h : ∀ a ∈ l, -1000 ≤ a ∧ a ≤ 100000) : ∀ a ∈ l, InR a := fun a ha => inR a (h a ha)

set_option maxRecDepth 100000 in
set_option maxHeartbeats 8000000 in
theorem alive_any (w : World) : Calls Try.prog 15 #[] w (Yes w) := by
  have hb0 := bnew w (.cells #[.int .i64 8, .int .i64 1, .int .i64 4] 56)
  have HN := cNew_any (some ⟨w.heap.size, 0, none⟩) 1 tb1 100 (w.alloc (.cells #[.int .i64 8, .int .i64 1, .int .i64 4] 56)) (by show 1 ≤ _; omega) (fun k c hc => by
    cases k with
    | zero =>
      simp [tb1] at hc
      subst hc
      exact ⟨w.heap.size, 0, rfl, by simp, cell_block (heap_alloc_new w _) rfl, cell_block (heap_alloc_new w _) rfl, cell_block (heap_alloc_new w _) rfl⟩
    | succ k => simp [tb1] at hc)
  rw [show newT tb1 100 = q0 from rfl, qe0] at HN
  have HN := Lib.hid HN
  have HB0 := Lib.hid hb0
  clear hb0
  go_enter Try.func15, Try.ntmps15
  go_wp2_with fail
  refine HN.out.mono ?_
  rintro e w1 ⟨v, rfl, hob, _, hb1⟩
  obtain ⟨B, hB⟩ := (show TOb false w1 (Nw (w.alloc (.cells #[.int .i64 8, .int .i64 1, .int .i64 4] 56)) w1) (.pointer v) (some ⟨100, [⟨8, 4, 1, 0, []⟩]⟩) from by rw [← qs0]; exact hob).ptr
  cases hB
  have H1 := Lib.hid ((Own.new hob hb1).later HB0.out)
  clear hob hb1 HN
  go_wp2_with fail
  have C2 := cTake_any H1.out.ob (x := 0) inR0
  unfold TkP at C2
  rw [qv1, qe1, show tkD q0 0 = q1 from rfl] at C2
  refine C2.mono ?_
  rintro e w2 ⟨rfl, hM, h3⟩
  have H2 := Lib.hid (H1.out.mut hM)
  clear hM C2 H1 h3
  go_wp2_with fail
  have C3 := cLimit_any H2.out.ob (x := 0) inR0
  rw [ql1] at C3
  refine C3.mono ?_
  rintro e _ ⟨rfl, rfl⟩
  clear C3
  go_wp2_with fail
  have C4 := cWant_any H2.out.ob (x := 0) inR0
  unfold WtP at C4
  rw [qw1, qr1] at C4
  refine C4.mono ?_
  rintro e w3 ⟨rfl, hb⟩
  have H3 := Lib.hid (H2.out.below hb)
  clear hb C4 H2
  go_wp2_with fail
  have hbq := bnew w3 (.cells #[.int .i64 8, .int .i64 16] 3)
  have HQ := Lib.hid (H3.out.below hbq)
  clear hbq
  have hlt3 := H3.out.ob.lt
  have C5 := cFill_any (c' := 2) HQ.out.ob (x := 0) inR0 (iatL w3 [8, 16] (inRs (by decide))) (fun g hg ho => by have := hlt3 _ ho; omega) (by show 2 ≤ _; omega)
  unfold FlP at C5
  rw [qe2, show flD q1 0 [8, 16] = q2 from rfl] at C5
  refine C5.mono ?_
  rintro e w4 ⟨rfl, hM⟩
  have H4 := Lib.hid (HQ.out.mut hM)
  clear hM C5 HQ H3 hlt3
  go_wp2_with fail
  have C6 := cTake_any H4.out.ob (x := 0) inR0
  unfold TkP at C6
  rw [qv3, qe3, show tkD q2 0 = q3 from rfl] at C6
  refine C6.mono ?_
  rintro e w5 ⟨rfl, hM, h3⟩
  have H5 := Lib.hid (H4.out.mut hM)
  clear hM C6 H4 h3
  go_wp2_with fail
  have C7 := cPut_any H5.out.ob (x := 0) (a := 24) inR0 (inR _ (by omega))
  unfold PtP at C7
  rw [qv4, qe4, show ptD q3 0 24 = q4 from rfl] at C7
  refine C7.mono ?_
  rintro e w6 ⟨A6, c6, rfl, O6, m1, m2, m3, m4⟩
  have H6 := Lib.hid (H5.out.turn m1 m2 m3)
  clear m1 m2 m3 m4 C7 H5
  go_wp2_with fail
  have C8 := cPut_any H6.out.ob (x := 0) (a := 32) inR0 (inR _ (by omega))
  unfold PtP at C8
  rw [qv5, qe5, show ptD q4 0 32 = q5 from rfl] at C8
  refine C8.mono ?_
  rintro e w7 ⟨A7, c7, rfl, O7, m1, m2, m3, m4⟩
  have H7 := Lib.hid (H6.out.turn m1 m2 m3)
  have I7 := Lib.hid m4
  clear m1 m2 m3 m4 C8 H6
  go_wp2_with fail
  have C9 := cLimit_any H7.out.ob (x := 0) inR0
  rw [ql5] at C9
  refine C9.mono ?_
  rintro e _ ⟨rfl, rfl⟩
  clear C9
  go_wp2_with fail
  have C10 := cDrain_any H7.out.ob
  unfold RmsP at C10
  rw [qd5] at C10
  refine C10.mono ?_
  rintro e w8 ⟨A8, c8, rfl, O8, m1, m2, m3, m4⟩
  have I8 := Lib.hid (I7.out.keep m3 (fun k h1 h2 => h1.2 h2))
  have H8 := Lib.hid (H7.out.turn m1 m2 m3)
  clear m1 m2 m3 m4 C10 H7 I7
  go_wp2_with fail
  have hbq := bnew w8 (.cells #[.int .i64 16, .int .i64 24, .int .i64 32] 3)
  have C11 := Ints_any A7 (some ⟨w8.heap.size, 0, none⟩) c7 3 [16, 24, 32] (w8.alloc (.cells #[.int .i64 16, .int .i64 24, .int .i64 32] 3)) (by decide) (I8.out.below hbq) (iatL w8 [16, 24, 32] (inRs (by decide)))
  have HQ := Lib.hid hbq
  clear hbq
  refine C11.mono ?_
  rintro e w9 ⟨rfl, hb⟩
  have HF := Lib.hid (btr H8.out.bel (btr HQ.out hb (Nat.le_refl _)) (Nat.le_refl _))
  clear C11 hb H8 I8
  go_wp2_with fail
  go_ret
  exact ⟨rfl, HF.out⟩
end Go.Proofs.Yticcjelaenhigaa
