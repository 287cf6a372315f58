/- The statements' helpers: play and Same, a span beside the document's. -/
import Derived.Test.YtgklkjccfnbcdaaFa
namespace Go.Proofs.Ytgklkjccfnbcdaa
open Go.RowKit

/-- A span and the document's, in the same state. -/
structure Bo (w : World) (O1 O2 : Nat → Prop) (v r : Value) (om : Option Mo) : Prop where
  s : Ob false w O1 v om
  t : Ob true w O2 r om
  d : ∀ k, O1 k → O2 k → False
/-- What a call on both leaves. -/
def Pl (w : World) (O1 O2 : Nat → Prop) (v r : Value) (om : Option Mo) (w' : World) : Prop := Bo w' O1 O2 v r om ∧ Keep (fun k => O1 k ∨ O2 k) w w'
theorem Bo.below {w w' : World} {O1 O2 : Nat → Prop} {v r : Value} {om : Option Mo} (h : Bo w O1 O2 v r om) (hb : Below w.heap.size w w') : Bo w' O1 O2 v r om := ⟨h.s.below hb, h.t.below hb, h.d⟩
theorem Pl.same {w w' : World} {O1 O2 : Nat → Prop} {v r : Value} {om : Option Mo} (h : Bo w O1 O2 v r om) (hb : Below w.heap.size w w') : Pl w O1 O2 v r om w' := ⟨h.below hb, Keep.of hb⟩
theorem Pl.two {w W w1 w2 : World} {O1 O2 : Nat → Prop} {v r : Value} {om om' : Option Mo} (h : Bo w O1 O2 v r om) (hb : Below w.heap.size w W) (h1 : Mut false W O1 v om' w1) (h2 : Mut true w1 O2 r om' w2) : Pl w O1 O2 v r om' w2 :=
  ⟨⟨h1.1.keep h2.2 h.d, h2.1, h.d⟩, ((Keep.of hb).trans (h1.2.mono fun _ _ hk => .inl (.inl hk))).trans (h2.2.mono fun _ _ hk => .inl (.inr hk))⟩

theorem tk_get (om : Option Mo) : ((tkV om : Int) == tkV om) = true ∧ ((tkE om : Int) == tkE om) = true := ⟨by simp, by simp⟩

set_option maxRecDepth 100000 in
set_option maxHeartbeats 4000000 in
theorem play_any {w : World} {O1 O2 : Nat → Prop} {v r : Value} {om : Option Mo} (k a : Int) (h : Bo w O1 O2 v r om) (ha : InR a) :
    Calls Try.prog 16 #[v, r, .agg #[.int .i64 k, .int .i64 a]] w fun e w' => e = .returned (.bool true) ∧ Pl w O1 O2 v r (doD om ⟨k, a⟩) w' := by
  obtain ⟨W0, hW, hb0, hz, c0, c1⟩ := new2 w (.int .i64 k) (.int .i64 a) 35
  have HH := Lib.hid h
  have HB := Lib.hid hb0
  have HZ := Lib.hid hz
  have HS0 := Lib.hid (h.below hb0)
  have hl1 := h.s.lt
  have hl2 := h.t.lt
  have HCK := Lib.hid (fun (W w1 : World) (hb : Below W0.heap.size W0 W) (hk : Keep O1 W w1) => show w1.heap[w.heap.size]? = W0.heap[w.heap.size]? from
    (hk.block _ (Nat.lt_of_lt_of_le hz hb.size) (fun hx => by have := hl1 _ hx; omega)).trans (hb.block _ hz))
  have HCK2 := Lib.hid (fun (W w1 w2 : World) (hb : Below W0.heap.size W0 W) (hk : Keep O1 W w1) (hk2 : Keep O2 w1 w2) => show w2.heap[w.heap.size]? = W0.heap[w.heap.size]? from
    (hk2.block _ (Nat.lt_of_lt_of_le hz (Nat.le_trans hb.size hk.size)) (fun hx => by have := hl2 _ hx; omega)).trans (HCK.out W w1 hb hk))
  clear h hb0 hz hl1 hl2
  have hk : k = 0 ∨ k = 1 ∨ k = 2 ∨ k = 3 ∨ ¬ (k = 0 ∨ k = 1 ∨ k = 2 ∨ k = 3) := by omega
  rcases hk with rfl | rfl | rfl | rfl | hk
  · have HA := Lib.hid (Take_any HS0.out.s)
    have HR := Lib.hid (fun (w1 : World) (hM : Mut false W0 O1 v (tkD om) w1) => rTake_any (HS0.out.t.keep hM.2 (fun k a b => HS0.out.d k b a)))
    rw [show doD om ⟨0, a⟩ = tkD om from rfl]
    generalize tkD om = om' at *
    generalize tkV om = tv at *
    generalize tkE om = te at *
    clear ha
    go_enter Try.func16, Try.ntmps16
    go_wp2_with (first | (go_at_call 27; refine HA.out.mono ?_; rintro e w1 ⟨rfl, hM1⟩; have HM1 := Lib.hid hM1; clear hM1) | (go_at_call 39; refine (HR.out _ HM1.out).mono ?_; rintro e w2 ⟨rfl, hM2⟩; have HM2 := Lib.hid hM2; clear hM2))
    go_ret
    exact ⟨ret_bool (by simp), Pl.two HH.out HB.out HM1.out HM2.out⟩
  · have HA := Lib.hid (fun W (hb : Below W0.heap.size W0 W) => Put_any (HS0.out.s.below hb) a ha)
    have HR := Lib.hid (fun (W w1 : World) (hb : Below W0.heap.size W0 W) (hM : Mut false W O1 v (ptD om a) w1) => rPut_any ((HS0.out.t.below hb).keep hM.2 (fun k a b => HS0.out.d k b a)) a)
    rw [show doD om ⟨1, a⟩ = ptD om a from rfl]
    generalize ptD om a = om' at *
    generalize ptE om a = te at *
    clear ha
    go_enter Try.func16, Try.ntmps16
    go_wp2_with fail
    go_region_held3 (fun w' => w'.cell? ⟨w.heap.size, 1, none⟩ = some (.int .i64 a)) (first | exact c1 | exact (World.cell?_of_block (a := ⟨w.heap.size, 1, none⟩) (HCK.out _ _ (belowN (Below.refl _ _) _) hM1.2)).trans c1 | exact (World.cell?_of_block (a := ⟨w.heap.size, 1, none⟩) (HCK2.out _ _ _ (belowN (Below.refl _ _) _) hM1.2 hM2.2)).trans c1)
      (first
      | (go_at_call 28; refine (HA.out _ (belowN (Below.refl _ _) _)).mono ?_; rintro e w1 ⟨rfl, hM1⟩)
      | (go_at_call 40; refine (HR.out _ _ (belowN (Below.refl _ _) _) hM1).mono ?_; rintro e w2 ⟨rfl, hM2⟩))
    go_wp2_with fail
    have HF := Lib.hid (Pl.two HH.out (belowN HB.out _) hM1 hM2)
    clear hM1 hM2
    go_ret
    exact ⟨ret_bool (by simp), HF.out⟩
  · have HA := Lib.hid (Index_any HS0.out.s a ha)
    have HR := Lib.hid (fun (w1 : World) (hb : Below W0.heap.size W0 w1) => rIndex_any (HS0.out.t.below hb) a)
    have HC := Lib.hid (fun (w1 : World) (hb : Below W0.heap.size W0 w1) => (hb.cell (p := ⟨w.heap.size, 1, none⟩) HZ.out).trans c1)
    rw [show doD om ⟨2, a⟩ = om from rfl]
    generalize ixV om a = tv at *
    generalize ixE om a = te at *
    clear ha
    go_enter Try.func16, Try.ntmps16
    go_wp2_with (first | (go_at_call 21; refine HA.out.mono ?_; rintro e w1 ⟨rfl, hb1⟩; have HB1 := Lib.hid hb1; have d1 := HC.out _ hb1; clear hb1) | (go_at_call 41; refine (HR.out _ HB1.out).mono ?_; rintro e w2 ⟨rfl, hb2⟩; have HB2 := Lib.hid hb2; clear hb2))
    go_ret
    exact ⟨ret_bool (by simp), Pl.same HH.out (btr (btr HB.out HB1.out (Nat.le_refl _)) HB2.out (Nat.le_refl _))⟩
  · have HA := Lib.hid (IsTaken_any HS0.out.s a ha)
    have HR := Lib.hid (fun (w1 : World) (hb : Below W0.heap.size W0 w1) => rIsTaken_any (HS0.out.t.below hb) a)
    have HC := Lib.hid (fun (w1 : World) (hb : Below W0.heap.size W0 w1) => (hb.cell (p := ⟨w.heap.size, 1, none⟩) HZ.out).trans c1)
    rw [show doD om ⟨3, a⟩ = om from rfl]
    generalize isV om a = tv at *
    generalize isE om a = te at *
    clear ha
    go_enter Try.func16, Try.ntmps16
    go_wp2_with (first | (go_at_call 23; refine HA.out.mono ?_; rintro e w1 ⟨rfl, hb1⟩; have HB1 := Lib.hid hb1; have d1 := HC.out _ hb1; clear hb1) | (go_at_call 42; refine (HR.out _ HB1.out).mono ?_; rintro e w2 ⟨rfl, hb2⟩; have HB2 := Lib.hid hb2; clear hb2))
    go_ret
    exact ⟨ret_bool (by simp), Pl.same HH.out (btr (btr HB.out HB1.out (Nat.le_refl _)) HB2.out (Nat.le_refl _))⟩
  · rw [doD_n om a (by omega)]
    have k0 : (k == 0) = false := by simp; omega
    have k1 : (k == 1) = false := by simp; omega
    have k2 : (k == 2) = false := by simp; omega
    have k3 : (k == 3) = false := by simp; omega
    clear hk ha
    go_enter Try.func16, Try.ntmps16
    go_wp2_with fail
    go_ret
    exact ⟨rfl, Pl.same HH.out HB.out⟩
theorem play_at {w : World} {O1 O2 : Nat → Prop} {v r : Value} {om : Option Mo} (x : Ac) (h : Bo w O1 O2 v r om) (hr : AcR x) :
    Calls Try.prog 16 #[v, r, .agg #[.int .i64 x.k, .int .i64 x.a]] w fun e w' => e = .returned (.bool true) ∧ Pl w O1 O2 v r (doD om x) w' := play_any x.k x.a h hr.a

theorem LstP.at {w w' : World} {L : List Nat} {A : Option Addr} (h : ∀ i x : Nat, L[i]? = some x → ∃ g, A = some ⟨g, 0, none⟩ ∧ w.heap.size ≤ g ∧ g < w'.heap.size ∧ w'.cell? ⟨g, i, none⟩ = some (.int .i64 x)) : LAt w' A L := fun i x hi => by
  obtain ⟨g, e, _, h2, h3⟩ := h i x hi
  exact ⟨g, e, h2, h3⟩
theorem lst_len {om : Option Mo} {r : Bool} {w : World} {O : Nat → Prop} {v : Value} (h : Ob r w O v om) : (lst om).length ≤ 128 ∧ (tkO om).length ≤ 128 ∧ numO om ≤ 128 := by
  cases om with
  | none => exact ⟨by decide, by decide, by decide⟩
  | some m =>
    obtain ⟨B, A, c, _, h⟩ := h
    have h1 := hl_len m.f 0 m.n
    have h2 := h.wf.n2
    refine ⟨?_, ?_, h2⟩
    · show ((tkn m).map (adr m)).length ≤ 128
      rw [List.length_map]
      unfold tkn
      omega
    · show (tkn m).length ≤ 128
      unfold tkn
      omega
theorem eq_runV (om : Option Mo) (w : World) : (binOp .eql 62 (runV om) (runV om)).run Try.prog w = .ok (.bool true) w := by
  cases om with
  | none => exact eq_run 0 0 w
  | some m => exact eq_run _ _ w
theorem eq_clsV (om : Option Mo) (w : World) : (binOp .eql 23 (clsV om) (clsV om)).run Try.prog w = .ok (.bool true) w := by
  cases om with
  | none => exact eq_cls 0 0 0 w
  | some m => exact eq_cls _ _ _ w

end Go.Proofs.Ytgklkjccfnbcdaa
