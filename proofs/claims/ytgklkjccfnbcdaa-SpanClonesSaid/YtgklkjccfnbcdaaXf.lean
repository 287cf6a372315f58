/- The statement about clones: what its call returns. -/
import Derived.Test.YtgklkjccfnbcdaaXd
namespace Go.Proofs.Ytgklkjccfnbcdaa
open Go.RowKit

/-- A span and its clone: one of them goes on. -/
structure Tw (w wr : World) (O1 O2 : Nat → Prop) (v1 v2 : Value) (o1 o2 : Option Mo) : Prop where
  a : Ob false wr O1 v1 o1
  b : Ob false wr O2 v2 o2
  d : ∀ k, O1 k → O2 k → False
  l1 : ∀ k, O1 k → w.heap.size ≤ k
  l2 : ∀ k, O2 k → w.heap.size ≤ k
  bel : Below w.heap.size w wr
theorem Tw.step1 {w wr w' : World} {O1 O2 : Nat → Prop} {v1 v2 : Value} {o1 o2 o : Option Mo} (h : Tw w wr O1 O2 v1 v2 o1 o2) (hM : Mut false wr O1 v1 o w') : Tw w w' O1 O2 v1 v2 o o2 :=
  ⟨hM.1, h.b.keep hM.2 (fun k a b => h.d k b a), h.d, h.l1, h.l2, h.bel.trans (hM.2.below h.bel.size h.l1)⟩
theorem Tw.step2 {w wr w' : World} {O1 O2 : Nat → Prop} {v1 v2 : Value} {o1 o2 o : Option Mo} (h : Tw w wr O1 O2 v1 v2 o1 o2) (hM : Mut false wr O2 v2 o w') : Tw w w' O1 O2 v1 v2 o1 o :=
  ⟨h.a.keep hM.2 h.d, hM.1, h.d, h.l1, h.l2, h.bel.trans (hM.2.below h.bel.size h.l2)⟩
theorem Tw.start {w w3 w4 : World} {v1 v2 : Value} {o : Option Mo} (h1 : Own' false w w3 v1 o) (h2 : Ob false w4 (Nw w3 w4) v2 o) (hb : Below w3.heap.size w3 w4) : Tw w w4 (Nw w w3) (Nw w3 w4) v1 v2 o o :=
  ⟨h1.1.below hb, h2, fun k a b => by have := a.2; have := b.1; omega, fun k a => a.1, fun k b => by have := b.1; have := h1.2.size; omega, btr h1.2 hb (Nat.le_refl _)⟩

set_option maxRecDepth 100000 in
set_option maxHeartbeats 4000000 in
theorem clones_walk (st s p b : Int) (A A2 : Option Addr) (c c2 : Nat) (l more : List Ac) (side : Bool) (w : World) (hlen : l.length ≤ 9223372036854775807) (hlen2 : more.length ≤ 9223372036854775807) (hA : ActsAt w w.heap.size A l) (hA2 : ActsAt w w.heap.size A2 more) :
    Calls Try.prog 9 #[.int .i64 st, .agg #[.int .i64 s, .int .i64 p, .int .i64 b], .slice A l.length c, .slice A2 more.length c2, .bool side] w (Yes w) := by
  have HAL := Lib.hid alive_any
  obtain ⟨W0, hW, hb0, hz, x0, x1, x2⟩ := new3 w (.int .i64 s) (.int .i64 p) (.int .i64 b) 23
  have HB0 := Lib.hid hb0
  have HX := Lib.hid (fun (w1 : World) (hb1 : Below W0.heap.size W0 w1) => And.intro ((hb1.cell (p := ⟨w.heap.size, 0, none⟩) (Nat.lt_of_succ_le hz)).trans x0) (And.intro ((hb1.cell (p := ⟨w.heap.size, 1, none⟩) (Nat.lt_of_succ_le hz)).trans x1) ((hb1.cell (p := ⟨w.heap.size, 2, none⟩) (Nat.lt_of_succ_le hz)).trans x2)))
  have HMD := Lib.hid (made'_any st s p b A c l W0 hlen ((hA.below hb0).more hb0.size))
  have HWS := Lib.hid (show w.heap.size < W0.heap.size by omega)
  have HA2 := Lib.hid ((hA2.below hb0).more hb0.size)
  obtain ⟨L, hL⟩ : ∃ L, L = l.length := ⟨_, rfl⟩
  rw [← hL] at hlen HMD ⊢
  have HG := Lib.hid (fun w => great_any A L c w hlen)
  obtain ⟨L2, hL2⟩ : ∃ L, L = more.length := ⟨_, rfl⟩
  have HL2 := Lib.hid hL2
  rw [← hL2] at hlen2 ⊢
  have HG2 := Lib.hid (fun w => great_any A2 L2 c2 w hlen2)
  clear hA hL hb0 hz hA2 hL2
  by_cases h60 : 60 < L
  · rw [decide_eq_true h60] at HG
    clear h60
    go_enter Try.func9, Try.ntmps9
    go_wp2_with (first | (go_at_call 10; refine (HG.out _).mono ?_; rintro e _ ⟨rfl, rfl⟩) | (go_at_call 11; refine (HAL.out _).mono ?_; rintro e w2 ⟨rfl, hb⟩; have B2 := Lib.hid (btr HB0.out hb (Nat.le_refl _)); clear hb))
    go_ret
    exact ⟨rfl, B2.out⟩
  · rw [decide_eq_false h60] at HG
    clear h60
    by_cases h602 : 60 < L2
    · rw [decide_eq_true h602] at HG2
      clear h602
      go_enter Try.func9, Try.ntmps9
      go_wp2_with (first | (go_at_call 10; refine (HG.out _).mono ?_; rintro e _ ⟨rfl, rfl⟩; clear HG) | (go_at_call 10; refine (HG2.out _).mono ?_; rintro e _ ⟨rfl, rfl⟩) | (go_at_call 11; refine (HAL.out _).mono ?_; rintro e w2 ⟨rfl, hb⟩; have B2 := Lib.hid (btr HB0.out hb (Nat.le_refl _)); clear hb))
      go_ret
      exact ⟨rfl, B2.out⟩
    · rw [decide_eq_false h602] at HG2
      clear h602
      by_cases hf : fitB st ⟨s, p, b⟩ = true
      · rw [show newO st ⟨s, p, b⟩ = some (newM st ⟨s, p, b⟩) from if_pos hf] at HMD
        obtain ⟨f, hr⟩ := runO_some l (newM st ⟨s, p, b⟩)
        obtain ⟨hok, f1, f2⟩ := fit_get hf
        obtain ⟨a1, a2, a3, a4, a5, a6, a7, a8⟩ := okC_bd hok
        dsimp only at f2 a1 a2 a3 a4 a5 a6 a7 a8
        obtain ⟨S, rfl⟩ : ∃ S : Nat, st = (S : Int) := ⟨st.toNat, by omega⟩
        obtain ⟨Z, rfl⟩ : ∃ S : Nat, s = (S : Int) := ⟨s.toNat, by omega⟩
        obtain ⟨G, rfl⟩ : ∃ S : Nat, p = (S : Int) := ⟨p.toNat, by omega⟩
        obtain ⟨T, rfl⟩ : ∃ S : Nat, b = (S : Int) := ⟨b.toNat, by omega⟩
        obtain ⟨m, hm⟩ : ∃ m : Mo, m = { newM (S : Int) ⟨Z, G, T⟩ with f := f } := ⟨_, rfl⟩
        rw [hr, ← hm] at HMD
        have hcl : clsV (some m) = .agg #[.int .i64 Z, .int .i64 G, .int .i64 T] := by rw [hm]; rfl
        clear hf hr hok hm f1 f2 a1 a2 a3 a4 a5 a6 a7 a8
        have HBT := Lib.hid (fun (W : World) (O : Nat → Prop) (v : Value) (h : Ob false W O v (some m)) => Bits_any h)
        have HRN := Lib.hid (fun (W : World) (O : Nat → Prop) (v : Value) (g : Nat → Bool) (h : Ob false W O v (some { m with f := g })) => show Calls Try.prog 30 #[v] W fun e w' => e = .returned (.agg #[.int .i64 m.s, .int .i64 m.g]) ∧ Below W.heap.size W w' from Run_any h)
        have HCS := Lib.hid (fun (W : World) (O : Nat → Prop) (v : Value) (h : Ob false W O v (some m)) => show Calls Try.prog 31 #[v] W fun e w' => e = .returned (.agg #[.int .i64 Z, .int .i64 G, .int .i64 T]) ∧ Below W.heap.size W w' from by
          have := Class_any h
          rwa [hcl] at this)
        have HCS2 := Lib.hid (fun (W : World) (O : Nat → Prop) (v : Value) (g : Nat → Bool) (h : Ob false W O v (some { m with f := g })) => show Calls Try.prog 31 #[v] W fun e w' => e = .returned (.agg #[.int .i64 Z, .int .i64 G, .int .i64 T]) ∧ Below W.heap.size W w' from by
          have := Class_any h
          rwa [show clsV (some { m with f := g }) = clsV (some m) from rfl, hcl] at this)
        have HCL := Lib.hid (fun (W : World) (O : Nat → Prop) (v : Option Addr) (h : Ob false W O (.pointer v) (some m)) => show Calls Try.prog 14 #[.pointer v] W fun e w' => ∃ B, e = .returned (.pointer (some ⟨B, 0, none⟩)) ∧ Ob false w' (Nw W w') (.pointer (some ⟨B, 0, none⟩)) (some m) ∧ Below W.heap.size W w' from (Clone_any h).mono fun e w' hp => by
          obtain ⟨v', e1, ho, _, _, hb⟩ := hp
          obtain ⟨B, hB⟩ := ob_ptr ho
          rw [hB] at e1 ho
          exact ⟨B, e1, ho, hb⟩)
        have HRM := Lib.hid (fun l => runO_some l m)
        have hq1 := eq_run m.s m.g
        have hq2 := eq_cls Z G T
        have hg1 : ∀ (x y : Operand) (W : World), (eqGuard .eql 62 x y (.agg #[.int .i64 m.s, .int .i64 m.g]) (.agg #[.int .i64 m.s, .int .i64 m.g])).run Try.prog W = .ok () W := fun x y W => run_eqGuard_agg W .eql 62 x y _ _ (by kernel_rfl)
        have hg2 : ∀ (x y : Operand) (W : World), (eqGuard .eql 23 x y (.agg #[.int .i64 Z, .int .i64 G, .int .i64 T]) (.agg #[.int .i64 Z, .int .i64 G, .int .i64 T])).run Try.prog W = .ok () W := fun x y W => run_eqGuard_agg W .eql 23 x y _ _ (by kernel_rfl)
        clear hcl
        generalize bitsS (some m) = SS at *
        cases side with
        | true =>
          go_enter Try.func9, Try.ntmps9
          go_wp2_with (first
            | (go_at_call 10; refine (HG.out _).mono ?_; rintro e _ ⟨rfl, rfl⟩; clear HG)
            | (go_at_call 10; refine (HG2.out _).mono ?_; rintro e _ ⟨rfl, rfl⟩)
            | (go_at_call 18; refine HMD.out.mono ?_; intro e w2 hm; obtain ⟨B, rfl, ho⟩ := hm.yes; have HO2 := Lib.hid ho; clear hm ho x0 x1 x2)
            | (go_at_call 24; refine (HBT.out _ _ _ HO2.out.1).mono ?_; rintro e w3 ⟨rfl, hb⟩; have HO3 := Lib.hid (HO2.out.below hb); clear hb)
            | (go_at_call 14; refine (HCL.out _ _ _ HO3.out.1).mono ?_; rintro e w4 ⟨B', rfl, hob, hb⟩; have HT4 := Lib.hid (Tw.start HO3.out hob hb); clear hb hob))
          generalize Nw W0 w3 = O1 at HT4
          generalize Nw w3 w4 = O2 at HT4
          go_loopw [14] (fun i wr => ∃ k : Nat, k ≤ L2 ∧ i = .int .i64 k ∧ Tw W0 wr O1 O2 (.pointer (some ⟨B, 0, none⟩)) (.pointer (some ⟨B', 0, none⟩)) (runO (some m) (more.take k)) (some m)) (fun i _ => L2 - (intOf i).toNat)
          case atStart => exact ⟨0, by omega, rfl, HT4.out⟩
          case round =>
            clear HT4
            obtain ⟨k, hk, rfl, hT⟩ := hrel
            have HT := Lib.hid hT
            by_cases hlt : k < L2
            · obtain ⟨x, hx⟩ : ∃ x, more[k]? = some x := ⟨_, List.getElem?_eq_getElem (by have := HL2.out; omega)⟩
              obtain ⟨hr, bb, o, rfl, hB, g1, g2⟩ := (HA2.out.below hT.bel) k x hx
              have HD := Lib.hid (do_at x hT.a hr)
              have HXX := Lib.hid (runO_take (om := some m) hx)
              clear hT hx hr hB
              go_wp2_with (go_at_call 29; refine HD.out.mono ?_; rintro e w5 ⟨rfl, hM⟩; have HM := Lib.hid hM; clear hM)
              go_roundw
              case rel => exact ⟨k + 1, by omega, by go_num, by rw [HXX.out]; exact HT.out.step1 HM.out⟩
              case measure => simp [intOf]; omega
            · obtain ⟨g, hg⟩ := HRM.out (more.take k)
              rw [hg] at HT
              obtain ⟨z0, z1, z2⟩ := HX.out _ HT.out.bel
              have hww : w.heap.size < wr.heap.size := Nat.lt_of_lt_of_le HWS.out HT.out.bel.size
              have G1 := CW.cell (N := wr.heap.size) (a := ⟨w.heap.size, 0, none⟩) hww z0
              have G2 := CW.cell (N := wr.heap.size) (a := ⟨w.heap.size, 1, none⟩) hww z1
              have G3 := CW.cell (N := wr.heap.size) (a := ⟨w.heap.size, 2, none⟩) hww z2
              clear z0 z1 z2 hww hT hg
              go_wp2_with fail
              refine region_below wr.heap.size (by kernel_rfl) (by kernel_rfl) ?_
              repeat (first | go_big_quiet_step (first | (go_at_call 24; exact quietB (Nat.le_refl _) (HBT.out _ _ _ (HT.out.b.below (CW.bel _)))) | (go_at_call 30; first | exact quietB (Nat.le_refl _) (HRN.out _ _ _ m.f (HT.out.b.below (CW.bel _))) | exact quietB (Nat.le_refl _) (HRN.out _ _ _ g (HT.out.a.below (CW.bel _)))) | (go_at_call 31; exact quietB (Nat.le_refl _) (HCS.out _ _ _ (HT.out.b.below (CW.bel _)))) | (go_at_call 11; exact quietB (Nat.le_refl _) (HAL.out _))) | quiet_step (fail))
              refine wpQuiet_nil ?_
              rintro _ ⟨nq, rfl⟩
              clear hq1 hq2 hg1 hg2 G1 G2 G3
              go_wp2_with fail
              go_ret
              exact ⟨rfl, btr HB0.out (btr HT.out.bel nq.bel (Nat.le_refl _)) (Nat.le_refl _)⟩
        | false =>
          go_enter Try.func9, Try.ntmps9
          go_wp2_with (first
            | (go_at_call 10; refine (HG.out _).mono ?_; rintro e _ ⟨rfl, rfl⟩; clear HG)
            | (go_at_call 10; refine (HG2.out _).mono ?_; rintro e _ ⟨rfl, rfl⟩)
            | (go_at_call 18; refine HMD.out.mono ?_; intro e w2 hm; obtain ⟨B, rfl, ho⟩ := hm.yes; have HO2 := Lib.hid ho; clear hm ho x0 x1 x2)
            | (go_at_call 24; refine (HBT.out _ _ _ HO2.out.1).mono ?_; rintro e w3 ⟨rfl, hb⟩; have HO3 := Lib.hid (HO2.out.below hb); clear hb)
            | (go_at_call 14; refine (HCL.out _ _ _ HO3.out.1).mono ?_; rintro e w4 ⟨B', rfl, hob, hb⟩; have HT4 := Lib.hid (Tw.start HO3.out hob hb); clear hb hob))
          generalize Nw W0 w3 = O1 at HT4
          generalize Nw w3 w4 = O2 at HT4
          go_loopw [14] (fun i wr => ∃ k : Nat, k ≤ L2 ∧ i = .int .i64 k ∧ Tw W0 wr O1 O2 (.pointer (some ⟨B, 0, none⟩)) (.pointer (some ⟨B', 0, none⟩)) (some m) (runO (some m) (more.take k))) (fun i _ => L2 - (intOf i).toNat)
          case atStart => exact ⟨0, by omega, rfl, HT4.out⟩
          case round =>
            clear HT4
            obtain ⟨k, hk, rfl, hT⟩ := hrel
            have HT := Lib.hid hT
            by_cases hlt : k < L2
            · obtain ⟨x, hx⟩ : ∃ x, more[k]? = some x := ⟨_, List.getElem?_eq_getElem (by have := HL2.out; omega)⟩
              obtain ⟨hr, bb, o, rfl, hB, g1, g2⟩ := (HA2.out.below hT.bel) k x hx
              have HD := Lib.hid (do_at x hT.b hr)
              have HXX := Lib.hid (runO_take (om := some m) hx)
              clear hT hx hr hB
              go_wp2_with (go_at_call 29; refine HD.out.mono ?_; rintro e w5 ⟨rfl, hM⟩; have HM := Lib.hid hM; clear hM)
              go_roundw
              case rel => exact ⟨k + 1, by omega, by go_num, by rw [HXX.out]; exact HT.out.step2 HM.out⟩
              case measure => simp [intOf]; omega
            · obtain ⟨g, hg⟩ := HRM.out (more.take k)
              rw [hg] at HT
              obtain ⟨z0, z1, z2⟩ := HX.out _ HT.out.bel
              have hww : w.heap.size < wr.heap.size := Nat.lt_of_lt_of_le HWS.out HT.out.bel.size
              have G1 := CW.cell (N := wr.heap.size) (a := ⟨w.heap.size, 0, none⟩) hww z0
              have G2 := CW.cell (N := wr.heap.size) (a := ⟨w.heap.size, 1, none⟩) hww z1
              have G3 := CW.cell (N := wr.heap.size) (a := ⟨w.heap.size, 2, none⟩) hww z2
              clear z0 z1 z2 hww hT hg
              go_wp2_with fail
              refine region_below wr.heap.size (by kernel_rfl) (by kernel_rfl) ?_
              repeat (first | go_big_quiet_step (first | (go_at_call 24; exact quietB (Nat.le_refl _) (HBT.out _ _ _ (HT.out.a.below (CW.bel _)))) | (go_at_call 30; first | exact quietB (Nat.le_refl _) (HRN.out _ _ _ m.f (HT.out.a.below (CW.bel _))) | exact quietB (Nat.le_refl _) (HRN.out _ _ _ g (HT.out.b.below (CW.bel _)))) | (go_at_call 31; exact quietB (Nat.le_refl _) (HCS2.out _ _ _ g (HT.out.b.below (CW.bel _)))) | (go_at_call 11; exact quietB (Nat.le_refl _) (HAL.out _))) | quiet_step (fail))
              refine wpQuiet_nil ?_
              rintro _ ⟨nq, rfl⟩
              clear hq1 hq2 hg1 hg2 G1 G2 G3
              go_wp2_with fail
              go_ret
              exact ⟨rfl, btr HB0.out (btr HT.out.bel nq.bel (Nat.le_refl _)) (Nat.le_refl _)⟩
      · rw [show newO st ⟨s, p, b⟩ = none from if_neg hf, runO_none] at HMD
        clear hf
        go_enter Try.func9, Try.ntmps9
        go_wp2_with (first | (go_at_call 10; refine (HG.out _).mono ?_; rintro e _ ⟨rfl, rfl⟩; clear HG) | (go_at_call 10; refine (HG2.out _).mono ?_; rintro e _ ⟨rfl, rfl⟩) | (go_at_call 18; refine HMD.out.mono ?_; intro e w2 hm; obtain ⟨rfl, hb⟩ := hm.no; have B2 := Lib.hid (btr HB0.out hb (Nat.le_refl _)); clear hm hb) | (go_at_call 11; refine (HAL.out _).mono ?_; rintro e w3 ⟨rfl, hb⟩; have B3 := Lib.hid (btr B2.out hb (Nat.le_refl _)); clear hb))
        go_ret
        exact ⟨rfl, B3.out⟩

end Go.Proofs.Ytgklkjccfnbcdaa
