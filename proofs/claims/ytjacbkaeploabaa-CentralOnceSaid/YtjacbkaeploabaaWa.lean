/- The statement about refused calls. -/
import Derived.Test.YtjacbkaeploabaaFd
namespace Go.Proofs.Ytjacbkaeploabaa
open Go.RowKit Go.Shelf

theorem fresh3 (w : World) (a b c : Value) (t : TypeId) : ∃ W0, w.alloc (.cells #[a, b, c] t) = W0 ∧ Below w.heap.size w W0 ∧ W0.heap.size = w.heap.size + 1 ∧
    W0.cell? ⟨w.heap.size, 0, none⟩ = some a ∧ W0.cell? ⟨w.heap.size, 1, none⟩ = some b ∧ W0.cell? ⟨w.heap.size, 2, none⟩ = some c := by
  refine ⟨_, rfl, bnew _ _, by simp, ?_, ?_, ?_⟩ <;> go_simp
/-- Three cells stay as they are. -/
structure Tri (w : World) (b : Nat) (x y z : Value) : Prop where
  lt : b < w.heap.size
  c0 : w.cell? ⟨b, 0, none⟩ = some x
  c1 : w.cell? ⟨b, 1, none⟩ = some y
  c2 : w.cell? ⟨b, 2, none⟩ = some z
theorem Tri.below {w w' : World} {b N : Nat} {x y z : Value} (h : Tri w b x y z) (hb : Below N w w') (hN : b < N) : Tri w' b x y z :=
  ⟨Nat.lt_of_lt_of_le h.lt hb.size, (hb.cell (p := ⟨b, 0, none⟩) hN).trans h.c0, (hb.cell (p := ⟨b, 1, none⟩) hN).trans h.c1, (hb.cell (p := ⟨b, 2, none⟩) hN).trans h.c2⟩
/-- One call in a list. -/
theorem acts_one {w : World} {N b : Nat} {x : Ak} {u : Value} (h : Tri w b (.int .i64 x.k) (.int .i64 x.a) u) (hN : b < N) (hx : AkV w N x u) : ActsAt w N (some ⟨b, 0, none⟩) [x] := fun k y hk => by
  cases k with
  | zero => simp at hk; subst hk; exact ⟨b, 0, u, rfl, hN, h.c0, h.c1, h.c2, hx⟩
  | succ k => simp at hk
theorem grB_one (x : Ak) : grB [x] = decide (60 < x.l.length) := by simp [grB]
/-- A call that returns an error changes nothing, and neither does asking. -/
theorem dk_same (om : Option Ce) (x : Ak) (h : ¬ (dkE om x = 0 ∧ x.k ≤ 3)) : dkD om x = om := by
  cases om with
  | none => exact dkD_none x
  | some c =>
    by_cases h0 : x.k = 0
    · have e1 : dkE (some c) x = adE (some c) x.a := if_pos h0
      rw [show dkD (some c) x = adD (some c) x.a from if_pos h0]
      simp only [adD]
      split
      · split
        · rfl
        · exact absurd ⟨by rw [e1]; simp only [adE]; rw [if_pos (by assumption), if_neg (by assumption)], by omega⟩ h
      · rfl
    · by_cases h1 : x.k = 1
      · have e1 : dkE (some c) x = tkEr (some c) x.a := by unfold dkE; rw [if_neg h0, if_pos h1]
        rw [show dkD (some c) x = tkDr (some c) x.a from by unfold dkD; rw [if_neg h0, if_pos h1]]
        simp only [tkDr]
        split
        · rfl
        · exact absurd ⟨by rw [e1]; simp only [tkEr]; rw [if_neg (by assumption)], by omega⟩ h
      · by_cases h2 : x.k = 2
        · have e1 : dkE (some c) x = ptEr (some c) x.l := by unfold dkE; rw [if_neg h0, if_neg h1, if_pos h2]
          rw [show dkD (some c) x = ptDr (some c) x.l from by unfold dkD; rw [if_neg h0, if_neg h1, if_pos h2]]
          exact (ptEr_bad (fun e => h ⟨by rw [e1, e], by omega⟩)).1
        · by_cases h3 : x.k = 3
          · have e1 : dkE (some c) x = 0 := by unfold dkE; rw [if_neg h0, if_neg h1, if_neg h2, if_neg (by omega), if_neg (by omega)]
            exact absurd ⟨e1, by omega⟩ h
          · unfold dkD; rw [if_neg h0, if_neg h1, if_neg h2, if_neg h3]

set_option maxRecDepth 100000 in
set_option maxHeartbeats 4000000 in
theorem refuses_walk (s p b : Int) (A : Option Addr) (cp : Nat) (l : List Ak) (x : Ak) (u : Value) (w : World) (hl : l.length ≤ 9223372036854775807) (hA : ActsAt w w.heap.size A l) (hx : AkV w w.heap.size x u) :
    Calls Try.prog 9 #[.agg #[.int .i64 s, .int .i64 p, .int .i64 b], .slice A l.length cp, .agg #[.int .i64 x.k, .int .i64 x.a, u]] w (Yes w) := by
  have HAL := Lib.hid alive_any
  obtain ⟨W0, hW0, hb0, hs0, x0, x1, x2⟩ := fresh3 w (.int .i64 s) (.int .i64 p) (.int .i64 b) 23
  obtain ⟨W1, hW1, hb1, hs1, y0, y1, y2⟩ := fresh3 W0 (.int .i64 x.k) (.int .i64 x.a) u 31
  obtain ⟨W2, hW2, hb2, hs2, z0, z1, z2⟩ := fresh3 W1 (.int .i64 x.k) (.int .i64 x.a) u 31
  have hB1 := btr hb0 hb1 (Nat.le_refl _)
  have hB2 := btr hB1 hb2 (Nat.le_refl _)
  have T0 : Tri W2 w.heap.size (.int .i64 s) (.int .i64 p) (.int .i64 b) := ((Tri.mk (by omega) x0 x1 x2).below hb1 (by omega)).below hb2 (by omega)
  have T1 : Tri W2 W0.heap.size (.int .i64 x.k) (.int .i64 x.a) u := (Tri.mk (by omega) y0 y1 y2).below hb2 (by omega)
  have HT0 := Lib.hid (fun W (hb : Below W2.heap.size W2 W) => T0.below hb T0.lt)
  have HT1 := Lib.hid (fun W (hb : Below W2.heap.size W2 W) => T1.below hb T1.lt)
  have d0 : W1.cell? ⟨w.heap.size, 0, none⟩ = some (.int .i64 s) := (hb1.cell (p := ⟨_, 0, none⟩) (by show w.heap.size < _; omega)).trans x0
  have HG1 := Lib.hid (great_any A cp l W1 hl (hA.below hB1))
  have HG2 := Lib.hid (great_any (some ⟨W1.heap.size, 0, none⟩) 1 [x] W2 (by show 1 ≤ 9223372036854775807; omega) ((acts_one (Tri.mk (by omega) z0 z1 z2) (Nat.lt_succ_self _) ((hx.below hB2).more (by omega))) : ActsAt W2 (W1.heap.size + 1) _ _))
  rw [grB_one] at HG2
  have HMD := Lib.hid (fun W (hb : Below w.heap.size w W) h60 => made_law s p b A cp l W hl h60 hb.size (hA.below hb))
  have HXV := Lib.hid hx
  have hx60 : ∀ h : ¬ 60 < x.l.length, x.l.length ≤ 60 := fun h => by omega
  have HB1 := Lib.hid hB1
  have HB2 := Lib.hid hB2
  obtain ⟨L, hL⟩ : ∃ L, l.length = L := ⟨_, rfl⟩
  have HL := Lib.hid hL
  rw [hL] at hl HG1 HMD ⊢
  clear x0 x1 x2 z0 z1 z2 T0 T1 hA hx hb0 hb1 hb2 hs0 hs1 hs2 hB1 hB2 hL
  by_cases hg : grB l = true
  · rw [hg] at HG1
    go_enter Try.func9, Try.ntmps9
    go_wp2_with fail
    refine HG1.out.mono ?_
    rintro e _ ⟨rfl, rfl⟩
    go_wp2_with fail
    refine (HAL.out _).mono ?_
    rintro e w2 ⟨rfl, hb⟩
    have HF := Lib.hid (btr HB1.out hb (Nat.le_refl _))
    clear hb
    go_wp2_with fail
    go_ret
    exact ⟨rfl, HF.out⟩
  · have hg' : grB l = false := by simpa using hg
    rw [hg'] at HG1
    have H60 := Lib.hid (grB_no hg').2
    clear hg hg'
    by_cases hx6 : 60 < x.l.length
    · rw [decide_eq_true hx6] at HG2
      clear hx6
      go_enter Try.func9, Try.ntmps9
      go_wp2_with fail
      refine HG1.out.mono ?_
      rintro e _ ⟨rfl, rfl⟩
      go_wp2_with fail
      refine HG2.out.mono ?_
      rintro e _ ⟨rfl, rfl⟩
      go_wp2_with fail
      refine (HAL.out _).mono ?_
      rintro e w2 ⟨rfl, hb⟩
      have HF := Lib.hid (btr HB2.out hb (Nat.le_refl _))
      clear hb
      go_wp2_with fail
      go_ret
      exact ⟨rfl, HF.out⟩
    · rw [decide_eq_false hx6] at HG2
      have HX6 := Lib.hid (hx60 hx6)
      clear hx6 hx60
      go_enter Try.func9, Try.ntmps9
      go_wp2_with fail
      refine HG1.out.mono ?_
      rintro e _ ⟨rfl, rfl⟩
      go_wp2_with fail
      refine HG2.out.mono ?_
      rintro e _ ⟨rfl, rfl⟩
      clear d0 y0 y1 y2
      obtain ⟨_, t0, t1, t2⟩ := HT0.out _ (Below.refl _ _)
      go_wp2_with fail
      obtain ⟨om, hom⟩ : ∃ om, runO (newC ⟨s, p, b⟩) l = om := ⟨_, rfl⟩
      rw [hom] at HMD
      have HC := Lib.hid (fun W (hb : Below W2.heap.size W2 W) => show W.cell? ⟨w.heap.size, 0, none⟩ = some (.int .i64 s) ∧ W.cell? ⟨w.heap.size, 1, none⟩ = some (.int .i64 p) ∧ W.cell? ⟨w.heap.size, 2, none⟩ = some (.int .i64 b) from by
        obtain ⟨_, t0, t1, t2⟩ := HT0.out W hb
        exact ⟨t0, t1, t2⟩)
      cases om with
      | none =>
        go_region_held3 (fun w' => w'.cell? ⟨w.heap.size, 0, none⟩ = some (.int .i64 s) ∧ w'.cell? ⟨w.heap.size, 1, none⟩ = some (.int .i64 p) ∧ w'.cell? ⟨w.heap.size, 2, none⟩ = some (.int .i64 b))
          (first | exact HC.out _ (Below.refl _ _) | exact HC.out _ (belowN (Below.refl _ _) _) | exact HC.out _ hb4 | exact HC.out _ hb3)
          (first
          | (go_at_call 13; refine (HMD.out _ (btr HB2.out hb3 (Nat.le_refl _)) H60.out).mono ?_; intro e w4 hm2; obtain ⟨rfl, hb4'⟩ := hm2.no; have hb4 := btr hb3 hb4' (Nat.le_refl _); clear hm2 hb4')
          | (go_at_call 13; refine (HMD.out _ (belowN HB2.out _) H60.out).mono ?_; intro e w3 hm1; obtain ⟨rfl, hb3'⟩ := hm1.no; have hb3 := btr (belowN (Below.refl W2.heap.size W2) _) hb3' (Nat.le_refl _); clear hm1 hb3'))
        have HB4 := Lib.hid (btr HB2.out hb4 (Nat.le_refl _))
        clear hb3 hb4 t0 t1 t2
        go_wp2_with fail
        refine (HAL.out _).mono ?_
        rintro e w2 ⟨rfl, hb⟩
        have HF := Lib.hid (btr HB4.out hb (Nat.le_refl _))
        clear hb
        go_wp2_with fail
        go_ret
        exact ⟨rfl, HF.out⟩
      | some c =>
        go_region_held3 (fun w' => w'.cell? ⟨w.heap.size, 0, none⟩ = some (.int .i64 s) ∧ w'.cell? ⟨w.heap.size, 1, none⟩ = some (.int .i64 p) ∧ w'.cell? ⟨w.heap.size, 2, none⟩ = some (.int .i64 b))
          (first | exact HC.out _ (Below.refl _ _) | exact HC.out _ (belowN (Below.refl _ _) _) | exact HC.out _ hb4 | exact HC.out _ hb3)
          (first
          | (go_at_call 13; refine (HMD.out _ (btr HB2.out hb3 (Nat.le_refl _)) H60.out).mono ?_; intro e w4 hm2; obtain ⟨B2, rfl, ho2⟩ := hm2.yes; have hb4 := btr hb3 ho2.2 (Nat.le_refl _); clear hm2)
          | (go_at_call 13; refine (HMD.out _ (belowN HB2.out _) H60.out).mono ?_; intro e w3 hm1; obtain ⟨B1, rfl, ho1⟩ := hm1.yes; have hb3 := btr (belowN (Below.refl W2.heap.size W2) _) ho1.2 (Nat.le_refl _); clear hm1))
        have h2 := Two.of (ho1.later (belowN (Below.refl W2.heap.size W2) _)) ho2
        have HTW := Lib.hid h2
        obtain ⟨_, u0, u1, u2⟩ := HT1.out _ h2.a.bel
        clear ho1 ho2 h2 t0 t1 t2 hb3 hb4
        go_wp2_with fail
        refine (HTW.out.a.call x (N0 := w.heap.size) HB2.out.size (HXV.out.below (btr HB2.out HTW.out.a.bel (Nat.le_refl _))) HX6.out).mono ?_
        rintro e w5 ⟨rfl, O5, ho5, hs5⟩
        have h5 := HTW.out.left ho5 hs5
        have H5 := Lib.hid h5
        clear u0 u1 u2
        obtain ⟨_, u0, u1, u2⟩ := HT1.out _ h5.a.bel
        have HSM := Lib.hid (dk_same (some c) x)
        have HBF := Lib.hid (btr HB2.out h5.a.bel (Nat.le_refl _))
        clear ho5 hs5 h5
        generalize dkE (some c) x = er at *
        generalize dkD (some c) x = D at *
        by_cases hq : er = 0 ∧ x.k ≤ 3
        · obtain ⟨rfl, hq2⟩ := hq
          clear HSM H5
          generalize x.k = xk at *
          go_wp2_with fail
          refine (HAL.out _).mono ?_
          rintro e w6 ⟨rfl, hb⟩
          have HF := Lib.hid (btr HBF.out hb (Nat.le_refl _))
          clear hb
          go_wp2_with fail
          go_ret
          exact ⟨rfl, HF.out⟩
        · obtain rfl := HSM.out hq
          have HAK := Lib.hid (alike_any H5.out.a.ob H5.out.b.ob)
          clear HSM H5
          generalize x.k = xk at *
          by_cases he : er = 0
          · subst he
            have hq2 : ¬ xk ≤ 3 := fun h => hq ⟨rfl, h⟩
            clear hq
            go_wp2_with fail
            refine HAK.out.mono ?_
            rintro e w6 ⟨rfl, hb⟩
            have HF := Lib.hid (btr HBF.out hb (Nat.le_refl _))
            clear hb
            go_wp2_with fail
            refine (HAL.out _).mono ?_
            rintro e w7 ⟨rfl, hb⟩
            have HF2 := Lib.hid (btr HF.out hb (Nat.le_refl _))
            clear hb
            go_wp2_with fail
            go_ret
            exact ⟨rfl, HF2.out⟩
          · have he' : (er == 0) = false := by simpa using he
            clear hq he
            go_wp2_with fail
            refine HAK.out.mono ?_
            rintro e w6 ⟨rfl, hb⟩
            have HF := Lib.hid (btr HBF.out hb (Nat.le_refl _))
            clear hb
            go_wp2_with fail
            refine (HAL.out _).mono ?_
            rintro e w7 ⟨rfl, hb⟩
            have HF2 := Lib.hid (btr HF.out hb (Nat.le_refl _))
            clear hb
            go_wp2_with fail
            go_ret
            exact ⟨rfl, HF2.out⟩

end Go.Proofs.Ytjacbkaeploabaa
