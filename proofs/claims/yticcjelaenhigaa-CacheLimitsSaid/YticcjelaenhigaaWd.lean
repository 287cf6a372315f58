/- The statement: a call that returns an error changes nothing, but for the limit after a miss. -/
import Derived.Test.YticcjelaenhigaaWb
namespace Go.Proofs.Yticcjelaenhigaa
open Go.RowKit Go.Lib

/-- Four cells stay as they are. -/
structure Fou (w : World) (b : Nat) (x y z u : Value) : Prop where
  lt : b < w.heap.size
  c0 : w.cell? ⟨b, 0, none⟩ = some x
  c1 : w.cell? ⟨b, 1, none⟩ = some y
  c2 : w.cell? ⟨b, 2, none⟩ = some z
  c3 : w.cell? ⟨b, 3, none⟩ = some u
theorem Fou.below {w w' : World} {b N : Nat} {x y z u : Value} (h : Fou w b x y z u) (hb : Below N w w') (hN : b < N) : Fou w' b x y z u :=
  ⟨Nat.lt_of_lt_of_le h.lt hb.size, (hb.cell (p := ⟨b, 0, none⟩) hN).trans h.c0, (hb.cell (p := ⟨b, 1, none⟩) hN).trans h.c1, (hb.cell (p := ⟨b, 2, none⟩) hN).trans h.c2, (hb.cell (p := ⟨b, 3, none⟩) hN).trans h.c3⟩
theorem AkV.more {w : World} {N N' : Nat} {x : Ak} {u : Value} (h : AkV w N x u) (hn : N ≤ N') : AkV w N' x u := by
  obtain ⟨A, c, e, hz⟩ := h.v
  exact ⟨h.k, h.c, h.a, h.n, A, c, e, hz.mono fun g _ hg => Nat.lt_of_lt_of_le hg hn⟩
/-- One call in a list. -/
theorem acts_one {w : World} {N b : Nat} {x : Ak} {u : Value} (h : Fou w b (.int .i64 x.k) (.int .i64 x.c) (.int .i64 x.a) u) (hN : b < N) (hx : AkV w N x u) : ActsAt w N (some ⟨b, 0, none⟩) [x] := fun k y hk => by
  cases k with
  | zero => simp at hk; subst hk; exact ⟨b, 0, u, rfl, hN, h.c0, h.c1, h.c2, h.c3, hx⟩
  | succ k => simp at hk
theorem grB_one (x : Ak) : grB [x] = decide (300 < x.l.length) := by simp [grB]
/-- What a refused call leaves. -/
structure RfK (x : Ak) (c c1 : Tc) : Prop where
  n : c1.K.length = c.K.length
  k : ∀ (i : Nat) (k : Kl), c.K[i]? = some k → ∃ k1, c1.K[i]? = some k1 ∧ k1.l = k.l ∧ k1.lo = k.lo ∧ ((x.k = 0 ∧ x.c = (i : Int)) ∨ k1.lim = k.lim)
theorem RfK.refl (x : Ak) (c : Tc) : RfK x c c := ⟨rfl, fun _ k h => ⟨k, h, rfl, rfl, .inr rfl⟩⟩
theorem dk_refuse (c : Tc) (x : Ak) (h : ¬ (dkE (some c) x = 0 ∧ x.k ≠ 1)) : ∃ c1, dkD (some c) x = some c1 ∧ RfK x c c1 := by
  have same : dkD (some c) x = some c → ∃ c1, dkD (some c) x = some c1 ∧ RfK x c c1 := fun e => ⟨c, e, RfK.refl x c⟩
  by_cases h0 : x.k = 0
  · obtain ⟨e1, e2, _⟩ := dk0 (some c) x h0
    cases hk : atK (some c) x.c with
    | none => exact same (by rw [e1]; unfold tkD; rw [hk])
    | some k =>
      by_cases hn : k.l = []
      · obtain ⟨h1, h2⟩ := atK_some hk
        refine ⟨{ c with K := c.K.set x.c.toNat (missK k) }, by rw [e1]; unfold tkD; rw [hk]; dsimp only; rw [if_pos hn]; rfl, List.length_set, fun i q hq => ?_⟩
        show ∃ k1, (c.K.set x.c.toNat (missK k))[i]? = some k1 ∧ _
        rw [List.getElem?_set]
        split
        · rename_i e
          subst e
          rw [if_pos (List.getElem?_eq_some_iff.1 hq).1]
          rw [h2] at hq
          injection hq with hq
          subst hq
          exact ⟨_, rfl, rfl, rfl, .inl ⟨h0, by omega⟩⟩
        · exact ⟨q, hq, rfl, rfl, .inr rfl⟩
      · exact absurd ⟨by rw [e2]; unfold tkE; rw [hk]; exact if_neg hn, by omega⟩ h
  by_cases h1 : x.k = 1
  · exact same (dk1 (some c) x h1).1
  by_cases h2 : x.k = 2
  · obtain ⟨e1, e2, _⟩ := dk2 (some c) x h2
    cases hk : atK (some c) x.c with
    | none => exact same (by rw [e1]; unfold flD; rw [hk])
    | some k =>
      by_cases hn : 256 < k.l.length + x.l.length
      · exact same (by rw [e1]; unfold flD; rw [hk]; exact if_pos hn)
      · exact absurd ⟨by rw [e2]; unfold flE; rw [hk]; exact if_neg hn, h1⟩ h
  by_cases h3 : x.k = 3
  · obtain ⟨e1, e2, _⟩ := dk3 (some c) x h3
    cases hk : atK (some c) x.c with
    | none => exact same (by rw [e1]; unfold ptD; rw [hk])
    | some k =>
      by_cases hn : 256 < k.l.length + 1
      · exact same (by rw [e1]; unfold ptD; rw [hk]; exact if_pos hn)
      · exact absurd ⟨by rw [e2]; unfold ptE; rw [hk]; exact if_neg hn, h1⟩ h
  exact absurd ⟨by unfold dkE; rw [if_neg h0, if_neg h1, if_neg h2, if_neg h3], h1⟩ h

set_option maxRecDepth 100000 in
set_option maxHeartbeats 8000000 in
theorem refuses_walk (A0 : Option Addr) (c0 : Nat) (t : List Cs) (g : Int) (A : Option Addr) (cp : Nat) (l : List Ak) (x : Ak) (u : Value) (w : World) (ht : t.length ≤ 9223372036854775807) (hT : TabAt w w.heap.size A0 t) (hl : l.length ≤ 9223372036854775807) (hA : ActsAt w w.heap.size A l) (hx : AkV w w.heap.size x u) :
    Calls Try.prog 12 #[.slice A0 t.length c0, .int .i64 g, .slice A l.length cp, .agg #[.int .i64 x.k, .int .i64 x.c, .int .i64 x.a, u]] w (Yes w) := by
  have HAL := Lib.hid alive_any
  obtain ⟨W1, hW1, hb1, hs1, y0, y1, y2, y3⟩ := newA4 w (.int .i64 x.k) (.int .i64 x.c) (.int .i64 x.a) u 35
  obtain ⟨W2, hW2, hb2, hs2, z0, z1, z2, z3⟩ := newA4 W1 (.int .i64 x.k) (.int .i64 x.c) (.int .i64 x.a) u 35
  have hB2 := btr hb1 hb2 (Nat.le_refl _)
  have T1 : Fou W2 w.heap.size (.int .i64 x.k) (.int .i64 x.c) (.int .i64 x.a) u := (Fou.mk hs1 y0 y1 y2 y3).below hb2 hs1
  have HT1 := Lib.hid (fun W (hb : Below W2.heap.size W2 W) => T1.below hb T1.lt)
  have HG1 := Lib.hid (great_any A cp l W1 hl (hA.below hb1))
  have HG2 := Lib.hid (great_any (some ⟨W1.heap.size, 0, none⟩) 1 [x] W2 (by show 1 ≤ 9223372036854775807; omega) (acts_one (N := W2.heap.size) (Fou.mk hs2 z0 z1 z2 z3) hs2 ((hx.below hB2).more hB2.size)))
  rw [grB_one] at HG2
  have HMD := Lib.hid (fun W (hb : Below w.heap.size w W) h60 => made_law A0 c0 t g A cp l W ht ((hT.below hb).more hb.size) h60 hb.size (hA.below hb))
  have HXV := Lib.hid hx
  have hx60 : ∀ h : ¬ 300 < x.l.length, x.l.length ≤ 300 := fun h => by omega
  have HB1 := Lib.hid hb1
  have HB2 := Lib.hid hB2
  have HMK := Lib.hid (fun c (h : madeO t g l = some c) => And.intro (made_kin h).2.2.len (okT_len (made_kin h).1))
  obtain ⟨om, hom⟩ : ∃ om, madeO t g l = om := ⟨_, rfl⟩
  rw [hom] at HMD HMK
  have H60 := Lib.hid (fun h : grB l = false => (grB_no h).1)
  generalize t.length = tn at *
  generalize l.length = ln at *
  clear z0 z1 z2 z3 T1 hA hx hb1 hb2 hs1 hs2 hB2 hom hT
  by_cases hg : grB l = true
  · rw [hg] at HG1
    go_enter Try.func12, Try.ntmps12
    go_wp2_with fail
    refine HG1.out.mono ?_
    rintro e _ ⟨rfl, rfl⟩
    go_wp2_with fail
    refine (HAL.out _).mono ?_
    rintro e w9 ⟨rfl, hb⟩
    have HF := Lib.hid (btr HB1.out hb (Nat.le_refl _))
    clear hb
    go_wp2_with fail
    go_ret
    exact ⟨rfl, HF.out⟩
  have hg' : grB l = false := by simpa using hg
  rw [hg'] at HG1
  have HM60 := H60.out hg'
  clear hg hg' H60
  by_cases hx6 : 300 < x.l.length
  · rw [decide_eq_true hx6] at HG2
    clear hx6
    go_enter Try.func12, Try.ntmps12
    go_wp2_with fail
    refine HG1.out.mono ?_
    rintro e _ ⟨rfl, rfl⟩
    go_wp2_with fail
    refine HG2.out.mono ?_
    rintro e _ ⟨rfl, rfl⟩
    go_wp2_with fail
    refine (HAL.out _).mono ?_
    rintro e w9 ⟨rfl, hb⟩
    have HF := Lib.hid (btr HB2.out hb (Nat.le_refl _))
    clear hb
    go_wp2_with fail
    go_ret
    exact ⟨rfl, HF.out⟩
  rw [decide_eq_false hx6] at HG2
  clear hx6 hx60
  cases om with
  | none =>
    go_enter Try.func12, Try.ntmps12
    go_wp2_with fail
    refine HG1.out.mono ?_
    rintro e _ ⟨rfl, rfl⟩
    go_wp2_with fail
    refine HG2.out.mono ?_
    rintro e _ ⟨rfl, rfl⟩
    clear y0 y1 y2 y3
    go_wp2_with fail
    refine (HMD.out _ HB2.out HM60).mono ?_
    intro e w3 hp
    obtain ⟨rfl, hb3⟩ := hp.no
    have HB3 := Lib.hid (btr HB2.out hb3 (Nat.le_refl _))
    clear hp hb3
    go_wp2_with fail
    refine (HMD.out _ HB3.out HM60).mono ?_
    intro e w4 hp
    obtain ⟨rfl, hb4⟩ := hp.no
    have HB4 := Lib.hid (btr HB3.out hb4 (Nat.le_refl _))
    clear hp hb4
    go_wp2_with fail
    refine (HAL.out _).mono ?_
    rintro e w9 ⟨rfl, hb⟩
    have HF := Lib.hid (btr HB4.out hb (Nat.le_refl _))
    clear hb
    go_wp2_with fail
    go_ret
    exact ⟨rfl, HF.out⟩
  | some c =>
    have HLN := Lib.hid (HMK.out c rfl)
    clear HMK
    go_enter Try.func12, Try.ntmps12
    go_wp2_with fail
    refine HG1.out.mono ?_
    rintro e _ ⟨rfl, rfl⟩
    go_wp2_with fail
    refine HG2.out.mono ?_
    rintro e _ ⟨rfl, rfl⟩
    clear y0 y1 y2 y3
    go_wp2_with fail
    refine (HMD.out _ HB2.out HM60).mono ?_
    intro e w3 hp
    obtain ⟨B1, O1, rfl, ho1⟩ := hp.yes
    have HO1 := Lib.hid ho1
    clear hp ho1
    go_wp2_with fail
    refine (HMD.out _ (btr HB2.out HO1.out.bel (Nat.le_refl _)) HM60).mono ?_
    intro e w4 hp
    obtain ⟨B2, O2, rfl, ho2⟩ := hp.yes
    have HTW := Lib.hid (Two.of HO1.out ho2)
    clear hp ho2 HO1
    have HDO := Lib.hid (do_any x HTW.out.a.ob (N0 := w.heap.size) (Nat.le_trans HB2.out.size HTW.out.a.bel.size) (fun k hk => Nat.le_trans HB2.out.size (HTW.out.a.nw k hk)) (HXV.out.below (btr HB2.out HTW.out.a.bel (Nat.le_refl _))))
    unfold DoP at HDO
    have HRF := Lib.hid (dk_refuse c x)
    obtain ⟨_, y0, y1, y2, y3⟩ := HT1.out _ HTW.out.a.bel
    have HT2 := Lib.hid (fun W (hb : Below W2.heap.size W2 W) => HT1.out W hb)
    clear HT1
    generalize dkV (some c) x = dv at *
    generalize dkE (some c) x = de at *
    generalize dkD (some c) x = dd at *
    obtain ⟨kk, kc, ka, xl⟩ := x
    dsimp only at *
    go_wp2_with fail
    refine HDO.out.mono ?_
    rintro e w5 ⟨A5, c5, rfl, O5, m1, m2, m3, _⟩
    have H5 := Lib.hid (HTW.out.left m1 m2 m3)
    clear m1 m2 m3 y0 y1 y2 y3 HTW HDO
    obtain ⟨_, y0, y1, _, _⟩ := HT2.out _ H5.out.a.bel
    by_cases hq : de = 0 ∧ kk ≠ 1
    · obtain ⟨rfl, hq2⟩ := hq
      have b1 : (kk != 1) = true := by simpa using hq2
      clear hq2 HRF
      have HBF := Lib.hid (btr HB2.out H5.out.a.bel (Nat.le_refl _))
      go_wp2_with fail
      refine (HAL.out _).mono ?_
      rintro e w9 ⟨rfl, hb⟩
      have HF := Lib.hid (btr HBF.out hb (Nat.le_refl _))
      clear hb
      go_wp2_with fail
      go_ret
      exact ⟨rfl, HF.out⟩
    obtain ⟨c1, rfl, hrf⟩ := HRF.out hq
    have HR := Lib.hid hrf
    have hb : (de == 0) = false ∨ (de = 0 ∧ (kk != 1) = false) := by
      by_cases h : de = 0
      · exact .inr ⟨h, by simpa using fun h2 => hq ⟨h, h2⟩⟩
      · exact .inl (by simpa using h)
    clear hq hrf HRF
    obtain ⟨hln, ht40⟩ := HLN.out
    rcases hb with b1 | ⟨rfl, b2⟩
    all_goals
      go_wp2_with fail
      go_loopw [13] (fun i wr => ∃ k : Nat, k ≤ tn ∧ i = .int .i64 k ∧ Below w5.heap.size w5 wr) (fun i _ => tn - (intOf i).toNat)
      case atStart => exact ⟨0, by omega, rfl, Below.refl _ _⟩
      case round =>
        obtain ⟨k, hk, rfl, hB⟩ := hrel
        have H9 := Lib.hid (H5.out.below hB)
        have HB9 := Lib.hid hB
        obtain ⟨_, y0, y1, _, _⟩ := HT2.out _ H9.out.a.bel
        clear hB
        by_cases hlt : k < tn
        · obtain ⟨kq, hkq⟩ : ∃ kq, c.K[k]? = some kq := ⟨_, List.getElem?_eq_getElem (by rw [hln]; exact hlt)⟩
          obtain ⟨k1, hk1, hkl, hko, hkm⟩ := HR.out.k k kq hkq
          have hin : InR (k : Int) := InR.nat (by omega)
          have HCA := Lib.hid (fun (w' : World) (h : Below wr.heap.size wr w') => show Calls Try.prog 23 #[.pointer (some ⟨B1, 0, none⟩), .int .i64 k] w' (ObjP w' kq.l) from by
            have := cObjects_any (H9.out.below h).a.ob hin
            rw [objT_at hk1, hkl] at this
            exact this)
          have HCB := Lib.hid (fun (w' : World) (h : Below wr.heap.size wr w') => show Calls Try.prog 23 #[.pointer (some ⟨B2, 0, none⟩), .int .i64 k] w' (ObjP w' kq.l) from by
            have := cObjects_any (H9.out.below h).b.ob hin
            rw [objT_at hkq] at this
            exact this)
          have HLA := Lib.hid (fun (w' : World) (h : Below wr.heap.size wr w') => show Calls Try.prog 31 #[.pointer (some ⟨B1, 0, none⟩), .int .i64 k] w' (fun e w'' => e = .returned (.int .i64 kq.lo) ∧ w' = w'') from by
            have := cLow_any (H9.out.below h).a.ob hin
            rw [lowT_at hk1, hko] at this
            exact this)
          have HLB := Lib.hid (fun (w' : World) (h : Below wr.heap.size wr w') => show Calls Try.prog 31 #[.pointer (some ⟨B2, 0, none⟩), .int .i64 k] w' (fun e w'' => e = .returned (.int .i64 kq.lo) ∧ w' = w'') from by
            have := cLow_any (H9.out.below h).b.ob hin
            rw [lowT_at hkq] at this
            exact this)
          have HMA := Lib.hid (fun (w' : World) (h : Below wr.heap.size wr w') => show Calls Try.prog 29 #[.pointer (some ⟨B1, 0, none⟩), .int .i64 k] w' (fun e w'' => e = .returned (.int .i64 k1.lim) ∧ w' = w'') from by
            have := cLimit_any (H9.out.below h).a.ob hin
            rw [limT_at hk1] at this
            exact this)
          have HMB := Lib.hid (fun (w' : World) (h : Below wr.heap.size wr w') => show Calls Try.prog 29 #[.pointer (some ⟨B2, 0, none⟩), .int .i64 k] w' (fun e w'' => e = .returned (.int .i64 kq.lim) ∧ w' = w'') from by
            have := cLimit_any (H9.out.below h).b.ob hin
            rw [limT_at hkq] at this
            exact this)
          have hql := (H9.out.b.ob.wf.k kq (List.mem_of_getElem? hkq)).len
          have HCI := Lib.hid (fun (P P' : Nat → Prop) (w' : World) (A6 A7 : Option Addr) (c6 c7 : Nat) (h6 : IAt P w' A6 kq.l) (h7 : IAt P' w' A7 kq.l) => show Calls Try.prog 25 #[.slice A6 kq.l.length c6, .slice A7 kq.l.length c7] w' (Yes w') from Ints_any A6 A7 c6 c7 kq.l w' (by omega) h6 h7)
          unfold ObjP at HCA HCB
          dsimp only at hkm
          clear hkl hko hk1 hkq hin
          generalize kq.lo = lo at *
          generalize kq.l.length = ll at *
          generalize kq.lim = m2 at *
          generalize k1.lim = m1 at *
          by_cases h0 : kk = 0
          · subst h0
            by_cases hc : kc = (k : Int)
            · subst hc
              clear hkm
              go_wp2_with fail
              refine (HCA.out _ (Below.refl _ _)).mono ?_
              rintro e w6 ⟨A6, c6, rfl, hi6, hb6⟩
              have H6 := Lib.hid (And.intro hi6 hb6)
              clear hi6 hb6
              go_wp2_with fail
              refine (HCB.out _ H6.out.2).mono ?_
              rintro e w7 ⟨A7, c7, rfl, hi7, hb7⟩
              have H7 := Lib.hid (And.intro hi7 (And.intro (H6.out.1.below hb7) (btr H6.out.2 hb7 (Nat.le_refl _))))
              clear hi7 hb7
              go_wp2_with fail
              refine (HCI.out _ _ _ _ _ _ _ H7.out.2.1 H7.out.1).mono ?_
              rintro e w8 ⟨rfl, hb8⟩
              have H8 := Lib.hid (btr H7.out.2.2 hb8 (Nat.le_refl _))
              clear hb8
              go_wp2_with fail
              refine (HLA.out _ H8.out).mono ?_
              rintro e _ ⟨rfl, rfl⟩
              go_wp2_with fail
              refine (HLB.out _ H8.out).mono ?_
              rintro e _ ⟨rfl, rfl⟩
              go_wp2_with fail
              go_roundw
              case rel => exact ⟨k + 1, by omega, by go_num, btr HB9.out H8.out (Nat.le_refl _)⟩
              case measure => simp [intOf]; omega
            · have hc' : ((k : Int) == kc) = false := by simpa using fun h : (k : Int) = kc => hc h.symm
              have hm : m1 = m2 := by
                rcases hkm with h | h
                · exact absurd h.2 hc
                · exact h
              subst hm
              clear hkm hc
              go_wp2_with fail
              refine (HCA.out _ (Below.refl _ _)).mono ?_
              rintro e w6 ⟨A6, c6, rfl, hi6, hb6⟩
              have H6 := Lib.hid (And.intro hi6 hb6)
              clear hi6 hb6
              go_wp2_with fail
              refine (HCB.out _ H6.out.2).mono ?_
              rintro e w7 ⟨A7, c7, rfl, hi7, hb7⟩
              have H7 := Lib.hid (And.intro hi7 (And.intro (H6.out.1.below hb7) (btr H6.out.2 hb7 (Nat.le_refl _))))
              clear hi7 hb7
              go_wp2_with fail
              refine (HCI.out _ _ _ _ _ _ _ H7.out.2.1 H7.out.1).mono ?_
              rintro e w8 ⟨rfl, hb8⟩
              have H8 := Lib.hid (btr H7.out.2.2 hb8 (Nat.le_refl _))
              clear hb8
              go_wp2_with fail
              refine (HLA.out _ H8.out).mono ?_
              rintro e _ ⟨rfl, rfl⟩
              go_wp2_with fail
              refine (HLB.out _ H8.out).mono ?_
              rintro e _ ⟨rfl, rfl⟩
              go_wp2_with fail
              refine (HMA.out _ H8.out).mono ?_
              rintro e _ ⟨rfl, rfl⟩
              go_wp2_with fail
              refine (HMB.out _ H8.out).mono ?_
              rintro e _ ⟨rfl, rfl⟩
              go_wp2_with fail
              go_roundw
              case rel => exact ⟨k + 1, by omega, by go_num, btr HB9.out H8.out (Nat.le_refl _)⟩
              case measure => simp [intOf]; omega
          · have h0' : (kk == 0) = false := by simpa using h0
            have hm : m1 = m2 := by
              rcases hkm with h | h
              · exact absurd h.1 h0
              · exact h
            subst hm
            clear hkm h0
            go_wp2_with fail
            refine (HCA.out _ (Below.refl _ _)).mono ?_
            rintro e w6 ⟨A6, c6, rfl, hi6, hb6⟩
            have H6 := Lib.hid (And.intro hi6 hb6)
            clear hi6 hb6
            go_wp2_with fail
            refine (HCB.out _ H6.out.2).mono ?_
            rintro e w7 ⟨A7, c7, rfl, hi7, hb7⟩
            have H7 := Lib.hid (And.intro hi7 (And.intro (H6.out.1.below hb7) (btr H6.out.2 hb7 (Nat.le_refl _))))
            clear hi7 hb7
            go_wp2_with fail
            refine (HCI.out _ _ _ _ _ _ _ H7.out.2.1 H7.out.1).mono ?_
            rintro e w8 ⟨rfl, hb8⟩
            have H8 := Lib.hid (btr H7.out.2.2 hb8 (Nat.le_refl _))
            clear hb8
            go_wp2_with fail
            refine (HLA.out _ H8.out).mono ?_
            rintro e _ ⟨rfl, rfl⟩
            go_wp2_with fail
            refine (HLB.out _ H8.out).mono ?_
            rintro e _ ⟨rfl, rfl⟩
            go_wp2_with fail
            refine (HMA.out _ H8.out).mono ?_
            rintro e _ ⟨rfl, rfl⟩
            go_wp2_with fail
            refine (HMB.out _ H8.out).mono ?_
            rintro e _ ⟨rfl, rfl⟩
            go_wp2_with fail
            go_roundw
            case rel => exact ⟨k + 1, by omega, by go_num, btr HB9.out H8.out (Nat.le_refl _)⟩
            case measure => simp [intOf]; omega
        · obtain rfl : k = tn := by omega
          go_wp2_with fail
          refine (HAL.out _).mono ?_
          rintro e w9 ⟨rfl, hb⟩
          have HF := Lib.hid (btr HB2.out (btr H9.out.a.bel hb (Nat.le_refl _)) (Nat.le_refl _))
          clear hb
          go_wp2_with fail
          go_ret
          exact ⟨rfl, HF.out⟩
end Go.Proofs.Yticcjelaenhigaa
