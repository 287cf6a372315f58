/- The statements about refused calls and about spans that nobody made: what their calls return. -/
import Derived.Test.YtgklkjccfnbcdaaFd
namespace Go.Proofs.Ytgklkjccfnbcdaa
open Go.RowKit

theorem doD_none (x : Ac) : doD none x = none := by
  unfold doD
  split
  · rfl
  · split <;> rfl
theorem keep_none {w w' : World} (h : Keep (fun _ => False ∨ False) w w') : Below w.heap.size w w' := h.below (Nat.le_refl _) (fun _ hk => hk.elim False.elim False.elim)
def zeros : Array Value := #[.int .i64 0, .int .i64 0, .int .i64 0, .int .i64 0, .slice none 0 0]
theorem zero_no (w : World) : ∃ W0, w.alloc (.cells zeros 43) = W0 ∧ Below w.heap.size w W0 ∧ W0.heap.size = w.heap.size + 1 ∧ Ob false W0 (fun k => k = w.heap.size) (.pointer (some ⟨w.heap.size, 0, none⟩)) none := by
  refine ⟨_, rfl, bnew _ _, by simp, .inr ⟨_, rfl, rfl, ?_⟩, fun k hk => by simp; omega⟩
  unfold zeros
  go_simp

set_option maxRecDepth 100000 in
set_option maxHeartbeats 4000000 in
theorem none_walk (x : Ac) (hr : AcR x) (w : World) : Calls Try.prog 4 #[.agg #[.int .i64 x.k, .int .i64 x.a]] w (Yes w) := by
  have HAL := Lib.hid alive_any
  obtain ⟨W0, hW, hb0, hz, c0, c1⟩ := new2 w (.int .i64 x.k) (.int .i64 x.a) 35
  have hz0 : W0.heap.size = w.heap.size + 1 := by rw [← hW]; simp
  obtain ⟨W1, hW1, hb1, hz1, hu⟩ := zero_no W0
  have HB1 := Lib.hid (hb0.trans (hb1.mono hb0.size))
  have HU := Lib.hid hu
  have HS1 := Lib.hid (show w.heap.size < W1.heap.size by omega)
  have HCC := Lib.hid (fun (W : World) (hk : Keep (fun k => k = W0.heap.size) W1 W) => And.intro ((World.cell?_of_block (a := ⟨w.heap.size, 0, none⟩) (hk.block w.heap.size (by omega) (by intro h; have h : w.heap.size = W0.heap.size := h; omega))).trans ((hb1.cell (p := ⟨w.heap.size, 0, none⟩) hz).trans c0)) ((World.cell?_of_block (a := ⟨w.heap.size, 1, none⟩) (hk.block w.heap.size (by omega) (by intro h; have h : w.heap.size = W0.heap.size := h; omega))).trans ((hb1.cell (p := ⟨w.heap.size, 1, none⟩) hz).trans c1)))
  have hcc := HCC.out W1 (Keep.refl _ _)
  obtain ⟨d0, d1⟩ := hcc
  have HP0 := Lib.hid (fun (W : World) => play_at (w := W) (O1 := fun _ => False) (O2 := fun _ => False) (v := .pointer none) (r := .pointer none) (om := none) x ⟨⟨.inl rfl, fun _ h => h.elim⟩, ⟨.inl rfl, fun _ h => h.elim⟩, fun _ h _ => h⟩ hr)
  have HPU := Lib.hid (fun (W : World) (h : Ob false W (fun k => k = W0.heap.size) (.pointer (some ⟨W0.heap.size, 0, none⟩)) none) => play_at (w := W) (O2 := fun _ => False) (r := .pointer none) (om := none) x ⟨h, ⟨.inl rfl, fun _ h => h.elim⟩, fun _ _ h => h⟩ hr)
  rw [doD_none] at HP0 HPU
  have HS0 := Lib.hid (fun (W : World) => Same_any (w := W) (O1 := fun _ => False) (O2 := fun _ => False) (v := .pointer none) (r := .pointer none) (om := none) ⟨.inl rfl, fun _ h => h.elim⟩ ⟨.inl rfl, fun _ h => h.elim⟩)
  have HSU := Lib.hid (fun (W : World) (h : Ob false W (fun k => k = W0.heap.size) (.pointer (some ⟨W0.heap.size, 0, none⟩)) none) => Same_any (w := W) (O2 := fun _ => False) (r := .pointer none) h ⟨.inl rfl, fun _ h => h.elim⟩)
  have HC0 := Lib.hid (fun (W : World) => Clone_any (w := W) (O := fun _ => False) (v := none) (om := none) ⟨.inl rfl, fun _ h => h.elim⟩)
  have HCU := Lib.hid (fun (W : World) (h : Ob false W (fun k => k = W0.heap.size) (.pointer (some ⟨W0.heap.size, 0, none⟩)) none) => Clone_any h)
  have HZ0 := Lib.hid hz0
  clear hb0 hz c0 c1 hz0 hb1 hz1 hu hr
  unfold zeros at hW1
  go_enter Try.func4, Try.ntmps4
  go_wp2_with fail
  refine (HP0.out _).mono ?_
  rintro e w2 ⟨rfl, hp⟩
  have hb := keep_none hp.2
  have H2 := Lib.hid (HU.out.below hb)
  have B2 := Lib.hid (HB1.out.trans (hb.mono HB1.out.size))
  have K2 := Lib.hid (Keep.of (O := fun k => k = W0.heap.size) hb)
  obtain ⟨d20, d21⟩ := HCC.out w2 K2.out
  clear hp hb d0 d1
  go_wp2_with fail
  refine (HPU.out _ H2.out).mono ?_
  rintro e w3 ⟨rfl, hp⟩
  have H3 := Lib.hid hp.1.s
  have B3 := Lib.hid (B2.out.trans (hp.2.below B2.out.size (fun k hk => by have := HZ0.out; rcases hk with hk | hk; omega; exact hk.elim)))
  clear hp d20 d21
  go_wp2_with fail
  refine (HS0.out _).mono ?_
  rintro e w4 ⟨rfl, hb⟩
  have H4 := Lib.hid (H3.out.below hb)
  have B4 := Lib.hid (btr B3.out hb (Nat.le_refl _))
  clear hb
  go_wp2_with fail
  refine (HSU.out _ H4.out).mono ?_
  rintro e w5 ⟨rfl, hb⟩
  have H5 := Lib.hid (H4.out.below hb)
  have B5 := Lib.hid (btr B4.out hb (Nat.le_refl _))
  clear hb
  go_wp2_with fail
  refine (HC0.out _).mono ?_
  rintro e w6 ⟨v, rfl, _, hv, _, hb⟩
  obtain rfl := hv rfl
  have H6 := Lib.hid (H5.out.below hb)
  have B6 := Lib.hid (btr B5.out hb (Nat.le_refl _))
  clear hb hv
  go_wp2_with fail
  refine (HCU.out _ H6.out).mono ?_
  rintro e w7 ⟨v, rfl, _, hv, _, hb⟩
  obtain rfl := hv rfl
  have B7 := Lib.hid (btr B6.out hb (Nat.le_refl _))
  clear hb hv
  go_wp2_with fail
  refine (HAL.out _).mono ?_
  rintro e w8 ⟨rfl, hb⟩
  have B8 := Lib.hid (btr B7.out hb (Nat.le_refl _))
  clear hb
  go_wp2_with fail
  go_ret
  exact ⟨rfl, B8.out⟩

theorem do_same (om : Option Mo) (x : Ac) (h : ¬ (doE om x = 0 ∧ x.k ≤ 1)) : doD om x = om := by
  unfold doE at h
  unfold doD
  split
  · rename_i hk
    rw [if_pos hk] at h
    cases om with
    | none => rfl
    | some m =>
      cases e : ff m with
      | none => exact tkD_none e
      | some k => exact absurd ⟨tkE_some e, by omega⟩ h
  · rename_i hk
    rw [if_neg hk] at h
    split
    · rename_i hk1
      rw [if_pos hk1] at h
      cases om with
      | none => rfl
      | some m =>
        cases e : obO m x.a with
        | none => exact ptD_none e
        | some k =>
          cases hf : m.f k with
          | true => exact absurd ⟨ptE_on e hf, by omega⟩ h
          | false => exact ptD_off e hf
    · rfl

theorem MadeP.no {w w' : World} {e : Ending} (h : MadeP w none e w') : e = .returned (.pointer none) ∧ Below w.heap.size w w' := by
  obtain ⟨v, he, ho, hv⟩ := h
  obtain rfl := hv.1 rfl
  exact ⟨he, ho.2⟩
theorem MadeP.yes {w w' : World} {e : Ending} {m : Mo} (h : MadeP w (some m) e w') : ∃ B, e = .returned (.pointer (some ⟨B, 0, none⟩)) ∧ Own' false w w' (.pointer (some ⟨B, 0, none⟩)) (some m) := by
  obtain ⟨v, he, ho, hv⟩ := h
  obtain ⟨B, hB⟩ := ob_ptr ho.1
  rw [hB] at he ho
  exact ⟨B, he, ho⟩

set_option maxRecDepth 100000 in
set_option maxHeartbeats 4000000 in
theorem refuses_walk (st s p b : Int) (A : Option Addr) (c : Nat) (l : List Ac) (x : Ac) (w : World) (hl : l.length ≤ 9223372036854775807) (hA : ActsAt w w.heap.size A l) (hr : AcR x) :
    Calls Try.prog 8 #[.int .i64 st, .agg #[.int .i64 s, .int .i64 p, .int .i64 b], .slice A l.length c, .agg #[.int .i64 x.k, .int .i64 x.a]] w (Yes w) := by
  have HAL := Lib.hid alive_any
  obtain ⟨W0, hW, hb0, hz, x0, x1, x2⟩ := new3 w (.int .i64 s) (.int .i64 p) (.int .i64 b) 23
  have hs0 : W0.heap.size = w.heap.size + 1 := by rw [← hW]; simp
  obtain ⟨W1, hW1, hb1, hz1, c0, c1⟩ := new2 W0 (.int .i64 x.k) (.int .i64 x.a) 35
  have HB1 := Lib.hid (hb0.trans (hb1.mono hb0.size))
  have d0 := (hb1.cell (p := ⟨w.heap.size, 0, none⟩) (by show w.heap.size < _; omega)).trans x0
  have d1 := (hb1.cell (p := ⟨w.heap.size, 1, none⟩) (by show w.heap.size < _; omega)).trans x1
  have d2 := (hb1.cell (p := ⟨w.heap.size, 2, none⟩) (by show w.heap.size < _; omega)).trans x2
  have HX := Lib.hid (fun (W : World) (hb : Below W1.heap.size W1 W) => And.intro ((hb.cell (p := ⟨W0.heap.size, 0, none⟩) hz1).trans c0) ((hb.cell (p := ⟨W0.heap.size, 1, none⟩) hz1).trans c1))
  have HMD := Lib.hid (made'_any st s p b A c l W1 hl ((hA.below (hb0.trans (hb1.mono hb0.size))).more (by have := hb1.size; omega)))
  obtain ⟨L, hL⟩ : ∃ L, L = l.length := ⟨_, rfl⟩
  rw [← hL] at hl HMD ⊢
  have HG := Lib.hid (fun w => great_any A L c w hl)
  have HDO := Lib.hid (fun (W : World) O v om (h : Ob false W O v om) => do_at x h hr)
  generalize runO (newO st ⟨s, p, b⟩) l = om at *
  have hs1 : W1.heap.size = w.heap.size + 2 := by rw [← hW1]; simp [hs0]
  have HS1 := Lib.hid hs1
  clear hA hL hb0 hz x0 x1 x2 hs0 hb1 hz1 hr c0 c1 hs1
  by_cases h60 : 60 < L
  · rw [decide_eq_true h60] at HG
    clear h60
    go_enter Try.func8, Try.ntmps8
    go_wp2_with (first | (go_at_call 10; refine (HG.out _).mono ?_; rintro e _ ⟨rfl, rfl⟩) | (go_at_call 11; refine (HAL.out _).mono ?_; rintro e w2 ⟨rfl, hb⟩; have B2 := Lib.hid (btr HB1.out hb (Nat.le_refl _)); clear hb))
    go_ret
    exact ⟨rfl, B2.out⟩
  · rw [decide_eq_false h60] at HG
    clear h60
    cases om with
    | none =>
      go_enter Try.func8, Try.ntmps8
      go_wp2_with (first | (go_at_call 10; refine (HG.out _).mono ?_; rintro e _ ⟨rfl, rfl⟩) | (go_at_call 18; refine HMD.out.mono ?_; intro e w2 hm; obtain ⟨rfl, hb⟩ := hm.no; have B2 := Lib.hid (btr HB1.out hb (Nat.le_refl _)); clear hm hb) | (go_at_call 11; refine (HAL.out _).mono ?_; rintro e w3 ⟨rfl, hb⟩; have B3 := Lib.hid (btr B2.out hb (Nat.le_refl _)); clear hb))
      go_ret
      exact ⟨rfl, B3.out⟩
    | some m =>
      have HSM := Lib.hid (do_same (some m) x)
      obtain ⟨E, hE⟩ : ∃ E, doE (some m) x = E := ⟨_, rfl⟩
      obtain ⟨om', hD⟩ : ∃ D, doD (some m) x = D := ⟨_, rfl⟩
      have HDO' := Lib.hid (fun (W : World) O v (h : Ob false W O v (some m)) => HDO.out W O v _ h)
      rw [hE, hD] at HSM HDO'
      clear HDO hE hD
      by_cases hq : E = 0 ∧ x.k ≤ 1
      · obtain ⟨rfl, hq2⟩ := hq
        clear HSM
        go_enter Try.func8, Try.ntmps8
        go_wp2_with (first
          | (go_at_call 10; refine (HG.out _).mono ?_; rintro e _ ⟨rfl, rfl⟩)
          | (go_at_call 18; refine HMD.out.mono ?_; intro e w2 hm; obtain ⟨B, rfl, ho⟩ := hm.yes; have HO := Lib.hid ho; obtain ⟨y0, y1⟩ := HX.out _ ho.2; clear hm ho)
          | (go_at_call 24; refine (Bits_any HO.out.1).mono ?_; rintro e w3 ⟨rfl, hb⟩; have H3 := Lib.hid (HO.out.below hb); obtain ⟨z0, z1⟩ := HX.out _ H3.out.2; clear hb y0 y1)
          | (go_at_call 29; refine (HDO'.out _ _ _ H3.out.1).mono ?_; rintro e w4 ⟨rfl, hM⟩; have H4 := Lib.hid (H3.out.step hM); obtain ⟨t0, t1⟩ := HX.out _ H4.out.2; clear hM z0 z1)
          | (go_at_call 11; refine (HAL.out _).mono ?_; rintro e w5 ⟨rfl, hb⟩; have B5 := Lib.hid (btr (btr HB1.out H4.out.2 (Nat.le_refl _)) hb (Nat.le_refl _)); clear hb))
        go_ret
        exact ⟨rfl, B5.out⟩
      · obtain rfl := HSM.out hq
        have hq' : ((E == 0) = false) ∨ (E == 0) = true ∧ decide (x.k ≤ 1) = false := by
          by_cases h : E = 0
          · exact .inr ⟨by simpa using h, decide_eq_false fun h2 => hq ⟨h, h2⟩⟩
          · exact .inl (by simpa using h)
        clear hq HSM
        rcases hq' with q1 | ⟨q1, q2⟩
        · go_enter Try.func8, Try.ntmps8
          go_wp2_with (first
            | (go_at_call 10; refine (HG.out _).mono ?_; rintro e _ ⟨rfl, rfl⟩)
            | (go_at_call 18; refine HMD.out.mono ?_; intro e w2 hm; obtain ⟨B, rfl, ho⟩ := hm.yes; have HO := Lib.hid ho; obtain ⟨y0, y1⟩ := HX.out _ ho.2; clear hm ho)
            | (go_at_call 29; refine (HDO'.out _ _ _ H3.out.1).mono ?_; rintro e w4 ⟨rfl, hM⟩; have H4 := Lib.hid (H3.out.step hM); have HO' := HO; clear hM z0 z1 H3 HO)
            | (go_at_call 24; refine (Bits_any HO.out.1).mono ?_; rintro e w3 ⟨rfl, hb⟩; have H3 := Lib.hid (HO.out.below hb); obtain ⟨z0, z1⟩ := HX.out _ H3.out.2; clear hb y0 y1)
            | (go_at_call 24; refine (Bits_any H4.out.1).mono ?_; rintro e w5 ⟨rfl, hb⟩; have H5 := Lib.hid (H4.out.below hb); clear hb)
            | (go_at_call 11; refine (HAL.out _).mono ?_; rintro e w6 ⟨rfl, hb⟩; have B6 := Lib.hid (btr (btr HB1.out H5.out.2 (Nat.le_refl _)) hb (Nat.le_refl _)); clear hb))
          go_ret
          exact ⟨ret_bool (by simp), B6.out⟩
        · go_enter Try.func8, Try.ntmps8
          go_wp2_with (first
            | (go_at_call 10; refine (HG.out _).mono ?_; rintro e _ ⟨rfl, rfl⟩)
            | (go_at_call 18; refine HMD.out.mono ?_; intro e w2 hm; obtain ⟨B, rfl, ho⟩ := hm.yes; have HO := Lib.hid ho; obtain ⟨y0, y1⟩ := HX.out _ ho.2; clear hm ho)
            | (go_at_call 29; refine (HDO'.out _ _ _ H3.out.1).mono ?_; rintro e w4 ⟨rfl, hM⟩; have H4 := Lib.hid (H3.out.step hM); obtain ⟨t0, t1⟩ := HX.out _ H4.out.2; clear hM z0 z1 H3 HO)
            | (go_at_call 24; refine (Bits_any HO.out.1).mono ?_; rintro e w3 ⟨rfl, hb⟩; have H3 := Lib.hid (HO.out.below hb); obtain ⟨z0, z1⟩ := HX.out _ H3.out.2; clear hb y0 y1)
            | (go_at_call 24; refine (Bits_any H4.out.1).mono ?_; rintro e w5 ⟨rfl, hb⟩; have H5 := Lib.hid (H4.out.below hb); clear hb)
            | (go_at_call 11; refine (HAL.out _).mono ?_; rintro e w6 ⟨rfl, hb⟩; have B6 := Lib.hid (btr (btr HB1.out H5.out.2 (Nat.le_refl _)) hb (Nat.le_refl _)); clear hb))
          go_ret
          exact ⟨ret_bool (by simp), B6.out⟩

end Go.Proofs.Ytgklkjccfnbcdaa
