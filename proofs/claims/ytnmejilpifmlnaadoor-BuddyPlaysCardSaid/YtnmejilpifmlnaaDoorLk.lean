/- Take. -/
import Derived.Test.YtnmejilpifmlnaaDoorLj
namespace Go.Proofs.YtnmejilpifmlnaaDoor
open Go.RowKit Go.Shelf

attribute [local go_sem] Oper.semAt_some

set_option maxRecDepth 100000 in
set_option maxHeartbeats 4000000 in
theorem Take_go {O : Nat → Prop} {B : Nat} {m : Mo} {w : World} (p a : Nat) (h : Hp w O B m) (hok : okA p a = true) :
    Calls Tryd.prog 25 #[.pointer (some ⟨B, 0, none⟩), .int .i64 p, .int .i64 a] w (TakePost w O B m p a) := by
  have hOK := hok
  unfold okA at hok
  rw [Bool.and_eq_true, decide_eq_true_eq] at hok
  obtain ⟨⟨hp1, hp2⟩, hpw⟩ := hok
  have hab := pow_bd hpw
  have hb4 : Below w.heap.size w ((((w.alloc (.cells #[.pointer (some ⟨B, 0, none⟩)] 25)).alloc (.cells #[.int .i64 p] 3)).alloc (.cells #[.int .i64 0] 3)).alloc (.cells #[.int .i64 0] 26)) := (((bnew _ _).alloc (by simp) _).alloc (by simp; omega) _).alloc (by simp; omega) _
  have HM := Lib.hid (made_any (h.below hb4))
  have HV := Lib.hid (fun w => valid_any (a : Int) w)
  rw [hpw] at HV
  have HO := Lib.hid (fun w => orderOf_any (max p a) w (by omega) (by omega))
  have HH := Lib.hid h
  have hk0 := lv_10 (max p a) (by omega) (by omega)
  have HPK := Lib.hid (show p ≤ 2 ^ lv (max p a) from Nat.le_trans (Nat.le_max_left p a) ((lv_le (max p a) _ (by omega) (by omega)).1 (Nat.le_refl _)))
  have HOK := Lib.hid hOK
  have hTB : tkB m p a = bst m.F m.n (lv (max p a)) (11 - lv (max p a)) := by
    unfold tkB
    rw [show ((max (p : Int) (a : Int)).toNat) = max p a from by omega]
  have HTB := Lib.hid hTB
  clear h hpw hOK hTB
  obtain ⟨W4, hW4⟩ : ∃ W, ((((w.alloc (.cells #[.pointer (some ⟨B, 0, none⟩)] 25)).alloc (.cells #[.int .i64 p] 3)).alloc (.cells #[.int .i64 0] 3)).alloc (.cells #[.int .i64 0] 26)) = W := ⟨_, rfl⟩
  have hz4 : W4.heap.size = w.heap.size + 1 + 1 + 1 + 1 := by rw [← hW4]; simp
  rw [hW4] at HM hb4
  have x3 : Boxed W4 w.heap.size 25 (.pointer (some ⟨B, 0, none⟩)) := by rw [← hW4]; exact ((((Boxed.new w 25 _).alloc _).alloc _).alloc _)
  have x4 : Boxed W4 (w.heap.size + 1) 3 (.int .i64 p) := by
    rw [← hW4]
    have := Boxed.new (w.alloc (.cells #[.pointer (some ⟨B, 0, none⟩)] 25)) 3 (.int .i64 (p : Int))
    rw [World.size_alloc] at this
    exact (this.alloc _).alloc _
  have x6 : Boxed W4 (w.heap.size + 1 + 1) 3 (.int .i64 0) := by
    rw [← hW4]
    have := Boxed.new ((w.alloc (.cells #[.pointer (some ⟨B, 0, none⟩)] 25)).alloc (.cells #[.int .i64 p] 3)) 3 (.int .i64 0)
    rw [World.size_alloc, World.size_alloc] at this
    exact this.alloc _
  have x7 : Boxed W4 (w.heap.size + 1 + 1 + 1) 26 (.int .i64 0) := by
    rw [← hW4]
    have := Boxed.new (((w.alloc (.cells #[.pointer (some ⟨B, 0, none⟩)] 25)).alloc (.cells #[.int .i64 p] 3)).alloc (.cells #[.int .i64 0] 3)) 26 (.int .i64 0)
    rw [World.size_alloc, World.size_alloc, World.size_alloc] at this
    exact this
  have HT4 := Lib.hid (show TkIn w O B m p w.heap.size (w.heap.size + 1) (w.heap.size + 1 + 1) (w.heap.size + 1 + 1 + 1) W4 from ⟨HH.out.below hb4, x3, x4, x6, x7, hb4⟩)
  have HZ4 := Lib.hid hz4
  have c4 := x4.cell
  have c3 := x3.cell
  have HW4 := Lib.hid hW4
  clear x3 x4 x6 x7 hb4 hz4
  refine (callsIn_wide (n := 9)).1 ?_
  refine callsIn_of_wp_marks Tryd.func25 rfl trivial ?_ rfl
  simp only [Tryd.ntmps25, List.size_toArray, List.length_cons, List.length_nil, Nat.reduceAdd, Nat.reduceSub, Array.replicate_succ, Array.replicate_zero, List.push_toArray, List.append_toArray, List.nil_append, List.cons_append]
  by_cases hap : a ≤ p
  · have hm : max p a = p := Nat.max_eq_left hap
    have hap' : (a : Int) ≤ (p : Int) := by omega
    rw [hm] at HO HPK hk0 HTB
    obtain ⟨k0, hk⟩ : ∃ k, lv p = k := ⟨_, rfl⟩
    rw [hk] at HO HPK hk0 HTB
    clear hm hap hk
    gi_wp2_with (first | (refine ⟨trivial, ?_⟩; gi_at_call 33; refine (callsIn_wide.2 HM.out).mono ?_; rintro x _ ⟨rfl, rfl⟩) | (refine ⟨trivial, ?_⟩; gi_at_call 49; refine (callsIn_wide.2 (HV.out _)).mono ?_; rintro x _ ⟨rfl, rfl⟩) | (refine ⟨trivial, ?_⟩; gi_at_call 50; refine (callsIn_wide.2 (HO.out _)).mono ?_; rintro x _ ⟨rfl, rfl⟩))
    clear c3 c4 hW4
    obtain ⟨Z3, Z4, Z6, Z7, e3, e4, e6, e7⟩ : ∃ Z3 Z4 Z6 Z7, w.heap.size = Z3 ∧ w.heap.size + 1 = Z4 ∧ w.heap.size + 1 + 1 = Z6 ∧ w.heap.size + 1 + 1 + 1 = Z7 := ⟨_, _, _, _, rfl, rfl, rfl, rfl⟩
    have HE := Lib.hid (And.intro e3 (And.intro e4 (And.intro e6 e7)))
    have hT4 := HT4.out
    rw [e7, e6, e4, e3] at hT4 ⊢
    clear e3 e4 e6 e7 HT4
    have hR0 : TkRel w O B m p Z3 Z4 Z6 Z7 k0 k0 W4.heap.size [] (W4.alloc (.cells #[.int .i64 k0] 3)) :=
      ⟨Nat.le_refl _, by omega, rfl, hT4.below (bnew _ _), Boxed.new W4 3 _, DOK.nil _ _ _⟩
    have HR0 := Lib.hid hR0
    clear hT4 hR0
    refine wpIn_loop (fun a' W => ∃ (u0 u1 u2 u5 u9 u10 u11 u12 u13 u14 u15 u16 u17 u18 u19 u20 u21 u22 u23 u24 u25 u26 u27 u28 u29 u30 u31 u32 u33 u34 u35 u36 u37 u38 u39 u40 u41 u42 u43 u44 u45 u46 u47 u48 u49 u50 u51 : Value) (Z8 k : Nat) (ds : List Deferred), TkRel w O B m p Z3 Z4 Z6 Z7 k0 k Z8 ds W ∧ a' = { tmps := #[u0, u1, u2, .pointer (some ⟨Z3, 0, none⟩), .pointer (some ⟨Z4, 0, none⟩), u5, .pointer (some ⟨Z6, 0, none⟩), .pointer (some ⟨Z7, 0, none⟩), .pointer (some ⟨Z8, 0, none⟩), u9, u10, u11, u12, u13, u14, u15, u16, u17, u18, u19, u20, u21, u22, u23, u24, u25, u26, u27, u28, u29, u30, u31, u32, u33, u34, u35, u36, u37, u38, u39, u40, u41, u42, u43, u44, u45, u46, u47, u48, u49, u50, u51], defers := ds }) muB ⟨_, _, _, _, _, _, _, _, _, _, _, _, _, _, _, _, _, _, _, _, _, _, _, _, _, _, _, _, _, _, _, _, _, _, _, _, _, _, _, _, _, _, _, _, _, _, _, _, _, _, HR0.out, rfl⟩ ?_
    clear HR0
    rintro _ W1 ⟨u0, u1, u2, u5, u9, u10, u11, u12, u13, u14, u15, u16, u17, u18, u19, u20, u21, u22, u23, u24, u25, u26, u27, u28, u29, u30, u31, u32, u33, u34, u35, u36, u37, u38, u39, u40, u41, u42, u43, u44, u45, u46, u47, u48, u49, u50, u51, Z8, k, ds, hR, rfl⟩
    have hwf := HH.out.wf
    obtain ⟨A, cap, mb, hA⟩ := hR.tk.hp
    have c1 := hA.c1
    have hcap := hA.cp
    have HR := Lib.hid hR
    have x3 := hR.tk.x3.cell
    have x8 := hR.x8.cell
    have hk11 := hR.hi
    have hKl := (hwf.K).2.1
    have HWF := Lib.hid hwf
    have HKK := Lib.hid (show ∀ j, ords m.n ≤ j → bl m.F m.n j = [] from fun j hj => bl_nil hwf.f (Nat.lt_of_lt_of_le (ords_facts hwf.n1 hwf.n2).2.2.1 (pow_le hj)))
    clear hA hR hwf
    by_cases hlt : k < ords m.n
    · have HLT := Lib.hid hlt
      generalize hKg : ords m.n = KK at c1 hcap hKl hlt
      clear hKg
      gi_wp2
      gi_quiet (fail)
      obtain ⟨V, hV⟩ : ∃ V, W1.drewN nq = V := ⟨_, rfl⟩
      have hRV : TkRel w O B m p Z3 Z4 Z6 Z7 k0 k Z8 ds V := by rw [← hV]; exact HR.out.below (belowN (Below.refl _ _) nq)
      rw [hV]
      have HRV := Lib.hid hRV
      have v3 := hRV.tk.x3.cell
      have v8 := hRV.x8.cell
      clear hV x3 x8 c1 hRV
      gi_wp2_with fail
      refine ⟨trivial, (callsIn_wide.2 (starts_any B k V)).mono ?_⟩
      rintro x W2 ⟨rfl, hW2⟩
      have hb2 : Below V.heap.size V W2 := by rw [← hW2]; exact (bnew _ _).alloc (by simp) _
      have hx1 : Boxed W2 V.heap.size 25 (.pointer (some ⟨B, 0, none⟩)) := by rw [← hW2]; exact (Boxed.new V 25 _).alloc _
      have hx2 : Boxed W2 (V.heap.size + 1) 3 (.int .i64 k) := by
        rw [← hW2]
        have := Boxed.new (V.alloc (.cells #[.pointer (some ⟨B, 0, none⟩)] 25)) 3 (.int .i64 (k : Int))
        rwa [World.size_alloc] at this
      have hR2 := HRV.out.below hb2
      have hlt1 := hx1.lt
      have hlt2 := hx2.lt
      have h3l := hR2.tk.x3.lt
      have h4l := hR2.tk.x4.lt
      have h6l := hR2.tk.x6.lt
      have h7l := hR2.tk.x7.lt
      have h8l := hR2.x8.lt
      have hwl := hR2.tk.bel.size
      have h1l := hR2.tk.hp.tb.lt
      have hOl := hR2.tk.hp.lt
      have hI2 : ItIn W2 O B m V.heap.size (V.heap.size + 1) k := ⟨hR2.tk.hp, hx1, hx2⟩
      clear hW2 hx1 hx2 v3 v8 hb2
      gi_wp2
      refine wpIn_rangeFunc_ownG rfl (by omega) (gf := 64) (lb := #[.pointer (some ⟨V.heap.size, 0, none⟩), .pointer (some ⟨V.heap.size + 1, 0, none⟩)]) rfl trivial (enters_of Tryd.func64 (by kernel_rfl) rfl)
        (starts_stopsA 8 (by omega) HLT.out W2 hI2) kpI_t (kpI_b hOl hlt1 hlt2 h1l) (Below.refl _ _) (fun _ => rfl)
        (fun pre W => pre = [] ∧ TkIn w O B m p Z3 Z4 Z6 Z7 W ∧ Boxed W Z8 3 (.int .i64 k) ∧ DOK w.heap.size W2.heap.size ds W)
        (fun c pre W => c = .ret ∧ ∃ x : Ak m.F k, pre = [x] ∧ TkOut w O B ⟨m.n, setF m.F x.1 (x.1 + p) false⟩ x.1 Z6 Z7 W ∧ DOK w.heap.size W2.heap.size ds W)
        (fun pre W W' row hs hg hr => by
          obtain ⟨s1, s2, s3, s4⟩ := hs
          have hk := keep_row hg (fun r e => (hr r e).1)
          exact ⟨s1, s2.keep hk h3l h4l h6l h7l hOl h1l hwl, (hk.block _ s3.lt (by omega)).trans s3, s4.keep (fun D _ hD o ho _ => (hk.block D (Array.getElem?_eq_some_iff.1 ho).1 (by omega)).trans ho)⟩)
        (fun c pre W W' row hs hg hr => by
          obtain ⟨s1, x, s2, s3, s4⟩ := hs
          have hk := keep_row hg (fun r e => (hr r e).1)
          exact ⟨s1, x, s2, s3.keep hk h6l h7l hOl h1l hwl, s4.keep (fun D _ hD o ho _ => (hk.block D (Array.getElem?_eq_some_iff.1 ho).1 (by omega)).trans ho)⟩)
        ⟨rfl, hR2.tk, hR2.x8, hR2.dok⟩
        (fun x => { tmps := #[u0, u1, u2, .pointer (some ⟨Z3, 0, none⟩), .pointer (some ⟨Z4, 0, none⟩), u5, .pointer (some ⟨Z6, 0, none⟩), .pointer (some ⟨Z7, 0, none⟩), .pointer (some ⟨Z8, 0, none⟩), .int .i64 (x.1 : Int), u10, u11, u12, u13, u14, u15, u16, u17, u18, u19, u20, u21, u22, u23, u24, u25, u26, u27, .int .i64 k, .pointer (some ⟨B, 0, none⟩), .pointer (some ⟨B, 0, none⟩), .pointer (some ⟨B, 1, none⟩), .slice (some ⟨A, 0, none⟩) KK cap, .int .i64 KK, .bool true, u35, u36, .pointer (some ⟨B, 0, none⟩), .int .i64 k, .func (.func 64) #[] #[.pointer (some ⟨V.heap.size, 0, none⟩), .pointer (some ⟨V.heap.size + 1, 0, none⟩)], .int .i64 (x.1 : Int), u41, u42, u43, u44, u45, u46, u47, u48, u49, u50, u51], defers := [] }) ?assign ?body ?done ?stop
      case assign =>
        intro l x W K hK
        gi_wp2
        exact hK
      case body =>
        rintro l pre ⟨s, hs⟩ W ⟨rfl, hT, h8, hD⟩ hlen
        have y3 := hT.x3.cell
        have y4 := hT.x4.cell
        have y8 := h8.cell
        have hs1024 : s ≤ 1024 := by have := hT.hp.wf.n2; have := bk_le hT.hp.wf.f hs; have := Nat.two_pow_pos k; omega
        have hTK := take_any s k s (s + p) hT.hp hs (Nat.le_refl _) (by omega) (by have := HPK.out; have := pow_le HR.out.lo; omega)
        rw [show ((s + p : Nat) : Int) = (s : Int) + (p : Int) from by omega] at hTK
        have HTK := Lib.hid hTK
        have HT := Lib.hid hT
        have HDD := Lib.hid hD
        have q67 : Z6 ≠ Z7 := by have := HE.out; omega
        have q67' : Z7 ≠ Z6 := fun e => q67 e.symm
        clear hTK hT hD h8
        gi_wp2_with fail
        refine ⟨trivial, (CallsIn.inRound l (callsIn_wide.2 HTK.out)).mono ?_⟩
        rintro e W3 ⟨rfl, hM3⟩
        have hO6 : ¬ O Z6 := fun ho => by have := HH.out.lt _ ho; have := HE.out; omega
        have hO7 : ¬ O Z7 := fun ho => by have := HH.out.lt _ ho; have := HE.out; omega
        have x6 : Boxed W3 Z6 3 (.int .i64 0) := (hM3.2.block _ HT.out.x6.lt hO6).trans HT.out.x6
        have x7 : Boxed W3 Z7 26 (.int .i64 0) := (hM3.2.block _ HT.out.x7.lt hO7).trans HT.out.x7
        have c6 := x6.cell
        have c7 := x7.cell
        have f6 := x6.frozen
        have f7 := x7.frozen
        have HD3 := Lib.hid (HDD.out.keep (W' := W3) (fun D hDl _ o ho _ => (hM3.2.block D (Array.getElem?_eq_some_iff.1 ho).1 (fun hx => by have := HH.out.lt _ hx; omega)).trans ho))
        have hM4 : Mut w O B ⟨m.n, setF m.F s (s + p) false⟩ W3 := ⟨hM3.1, (Keep.of HT.out.bel).trans hM3.2⟩
        have HFIN := Lib.hid (two_stores (v := .int .i64 s) (e := .int .i64 0) hM4 x6 x7 (by have := HE.out; omega) (by have := HE.out; omega) q67 HH.out.lt HH.out.tb.lt HD3.out)
        have HKF := Lib.hid (show KeepsFrom W2.heap.size W ((W3.setCell ⟨Z6, 0, none⟩ (.int .i64 s)).setCell ⟨Z7, 0, none⟩ (.int .i64 0)) from ⟨by rw [World.size_setCell, World.size_setCell]; exact hM3.2.size, fun i o hB hi ho => by
          rw [Below.heap_setCell _ _ _ _ (show i ≠ Z7 by omega), Below.heap_setCell _ _ _ _ (show i ≠ Z6 by omega), hM3.2.block i (Array.getElem?_eq_some_iff.1 hi).1 (fun hx => by have := hOl _ hx; omega)]
          exact hi⟩)
        clear hM3 x6 x7 hM4
        gi_wp2
        obtain ⟨r1, r2, r3, r4⟩ := HFIN.out
        exact ⟨HKF.out, rfl, ⟨s, hs⟩, rfl, ⟨r1, r2, r3⟩, r4⟩
      case done =>
        rintro D ys W hDl hS ⟨rfl, hT, h8, hD⟩ hK
        have hnil : bl m.F m.n k = [] := hS.symm
        have HEQ := Lib.hid (show bst m.F m.n k0 (11 - k0) = bst m.F m.n (k + 1) (11 - (k + 1)) from by
          rw [HR.out.eq, show 11 - k = (11 - (k + 1)) + 1 from by have := HLT.out; omega, bst_nil hnil])
        have y8 := h8.cell
        have HT := Lib.hid hT
        have hDK := hD.cons hDl (by omega) hK
        have HDK := Lib.hid hDK
        have hDlt := (Array.getElem?_eq_some_iff.1 hK).1
        have hk1 : k + 1 ≤ 11 := by have := HLT.out; omega
        clear hS hnil hT hD hK hDK
        gi_wp2
        have hn8 := Boxed.new W 3 (.int .i64 ((k : Int) + 1))
        have hbw := bnew W (.cells #[.int .i64 ((k : Int) + 1)] 3)
        refine ⟨⟨_, _, _, _, _, _, _, _, _, _, _, _, _, _, _, _, _, _, _, _, _, _, _, _, _, _, _, _, _, _, _, _, _, _, _, _, _, _, _, _, _, _, _, _, _, _, _, _, k + 1, _, ⟨by have := HR.out.lo; omega, hk1, HEQ.out, HT.out.below hbw, hn8, ?_⟩, rfl⟩, ?_⟩
        · exact (HDK.out.keep (fun D' _ _ o ho _ => (hbw.block D' (Array.getElem?_eq_some_iff.1 ho).1).trans ho)).more (by simp; omega)
        · show 12 - (intOf (((W.alloc (.cells #[.int .i64 ((k : Int) + 1)] 3)).cell? ⟨W.heap.size, 0, none⟩).getD undef)).toNat < 12 - (intOf ((W1.cell? ⟨Z8, 0, none⟩).getD undef)).toNat
          rw [hn8.cell, HR.out.x8.cell]
          simp [intOf]
          omega
      case stop =>
        rintro D c pre W hDl hSp ⟨rfl, x, rfl, hO, hD⟩ hK
        obtain ⟨r, hr⟩ := hSp
        have hbs : tkB m p a = some (k, x.1) := by
          rw [HTB.out, HR.out.eq, show 11 - k = (11 - (k + 1)) + 1 from by have := HLT.out; omega]
          exact bst_cons hr.symm
        have HBS := Lib.hid hbs
        have HDK := Lib.hid (hD.cons hDl (by omega) hK)
        have HOO := Lib.hid hO
        clear hr hbs hO hD hK
        gi_wp2
        obtain ⟨t1, t2, t3⟩ := tk_yes HOK.out HBS.out
        exact take_end rfl rfl HDK.out HOO.out.mt HOO.out.x6 HOO.out.x7 t2 t1 (by rw [t3]; rfl) HH.out.lt HH.out.tb.lt
    · have HNO := Lib.hid (show tkB m p a = none from HTB.out.trans (HR.out.eq.trans (bst_none (fun j hj => HKK.out j (by omega)))))
      generalize hKg : ords m.n = KK at c1 hcap hKl hlt
      clear hKg
      gi_wp2
      gi_quiet (fail)
      have hR1 := HR.out.below (belowN (Below.refl _ _) nq)
      have hT := hR1.tk
      have x6 := hT.x6.cell
      have x7 := hT.x7.cell
      have f6 := hT.x6.frozen
      have f7 := hT.x7.frozen
      have q67 : Z6 ≠ Z7 := by have := HE.out; omega
      have q67' : Z7 ≠ Z6 := fun e => q67 e.symm
      have HFIN := Lib.hid (two_stores (v := .int .i64 0) (e := .int .i64 6) ⟨hT.hp, Keep.of hT.bel⟩ hT.x6 hT.x7 (by have := HE.out; omega) (by have := HE.out; omega) q67 HH.out.lt HH.out.tb.lt hR1.dok)
      clear hR1 hT
      gi_wp2
      obtain ⟨t1, t2, t3⟩ := tk_full HOK.out HNO.out
      obtain ⟨r1, r2, r3, r4⟩ := HFIN.out
      exact take_end rfl rfl r4 r1 r2 r3 t2 t1 t3 HH.out.lt HH.out.tb.lt
  · have hm : max p a = a := Nat.max_eq_right (by omega)
    have hap' : ¬ (a : Int) ≤ (p : Int) := by omega
    rw [hm] at HO HPK hk0 HTB
    obtain ⟨k0, hk⟩ : ∃ k, lv a = k := ⟨_, rfl⟩
    rw [hk] at HO HPK hk0 HTB
    clear hm hap hk
    gi_wp2_with (first | (refine ⟨trivial, ?_⟩; gi_at_call 33; refine (callsIn_wide.2 HM.out).mono ?_; rintro x _ ⟨rfl, rfl⟩) | (refine ⟨trivial, ?_⟩; gi_at_call 49; refine (callsIn_wide.2 (HV.out _)).mono ?_; rintro x _ ⟨rfl, rfl⟩) | (refine ⟨trivial, ?_⟩; gi_at_call 50; refine (callsIn_wide.2 (HO.out _)).mono ?_; rintro x _ ⟨rfl, rfl⟩))
    clear c3 c4 hW4
    obtain ⟨Z3, Z4, Z6, Z7, e3, e4, e6, e7⟩ : ∃ Z3 Z4 Z6 Z7, w.heap.size = Z3 ∧ w.heap.size + 1 = Z4 ∧ w.heap.size + 1 + 1 = Z6 ∧ w.heap.size + 1 + 1 + 1 = Z7 := ⟨_, _, _, _, rfl, rfl, rfl, rfl⟩
    have HE := Lib.hid (And.intro e3 (And.intro e4 (And.intro e6 e7)))
    have hT4 := HT4.out
    rw [e7, e6, e4, e3] at hT4 ⊢
    clear e3 e4 e6 e7 HT4
    have hR0 : TkRel w O B m p Z3 Z4 Z6 Z7 k0 k0 W4.heap.size [] (W4.alloc (.cells #[.int .i64 k0] 3)) :=
      ⟨Nat.le_refl _, by omega, rfl, hT4.below (bnew _ _), Boxed.new W4 3 _, DOK.nil _ _ _⟩
    have HR0 := Lib.hid hR0
    clear hT4 hR0
    refine wpIn_loop (fun a' W => ∃ (u0 u1 u2 u5 u9 u10 u11 u12 u13 u14 u15 u16 u17 u18 u19 u20 u21 u22 u23 u24 u25 u26 u27 u28 u29 u30 u31 u32 u33 u34 u35 u36 u37 u38 u39 u40 u41 u42 u43 u44 u45 u46 u47 u48 u49 u50 u51 : Value) (Z8 k : Nat) (ds : List Deferred), TkRel w O B m p Z3 Z4 Z6 Z7 k0 k Z8 ds W ∧ a' = { tmps := #[u0, u1, u2, .pointer (some ⟨Z3, 0, none⟩), .pointer (some ⟨Z4, 0, none⟩), u5, .pointer (some ⟨Z6, 0, none⟩), .pointer (some ⟨Z7, 0, none⟩), .pointer (some ⟨Z8, 0, none⟩), u9, u10, u11, u12, u13, u14, u15, u16, u17, u18, u19, u20, u21, u22, u23, u24, u25, u26, u27, u28, u29, u30, u31, u32, u33, u34, u35, u36, u37, u38, u39, u40, u41, u42, u43, u44, u45, u46, u47, u48, u49, u50, u51], defers := ds }) muB ⟨_, _, _, _, _, _, _, _, _, _, _, _, _, _, _, _, _, _, _, _, _, _, _, _, _, _, _, _, _, _, _, _, _, _, _, _, _, _, _, _, _, _, _, _, _, _, _, _, _, _, HR0.out, rfl⟩ ?_
    clear HR0
    rintro _ W1 ⟨u0, u1, u2, u5, u9, u10, u11, u12, u13, u14, u15, u16, u17, u18, u19, u20, u21, u22, u23, u24, u25, u26, u27, u28, u29, u30, u31, u32, u33, u34, u35, u36, u37, u38, u39, u40, u41, u42, u43, u44, u45, u46, u47, u48, u49, u50, u51, Z8, k, ds, hR, rfl⟩
    have hwf := HH.out.wf
    obtain ⟨A, cap, mb, hA⟩ := hR.tk.hp
    have c1 := hA.c1
    have hcap := hA.cp
    have HR := Lib.hid hR
    have x3 := hR.tk.x3.cell
    have x8 := hR.x8.cell
    have hk11 := hR.hi
    have hKl := (hwf.K).2.1
    have HWF := Lib.hid hwf
    have HKK := Lib.hid (show ∀ j, ords m.n ≤ j → bl m.F m.n j = [] from fun j hj => bl_nil hwf.f (Nat.lt_of_lt_of_le (ords_facts hwf.n1 hwf.n2).2.2.1 (pow_le hj)))
    clear hA hR hwf
    by_cases hlt : k < ords m.n
    · have HLT := Lib.hid hlt
      generalize hKg : ords m.n = KK at c1 hcap hKl hlt
      clear hKg
      gi_wp2
      gi_quiet (fail)
      obtain ⟨V, hV⟩ : ∃ V, W1.drewN nq = V := ⟨_, rfl⟩
      have hRV : TkRel w O B m p Z3 Z4 Z6 Z7 k0 k Z8 ds V := by rw [← hV]; exact HR.out.below (belowN (Below.refl _ _) nq)
      rw [hV]
      have HRV := Lib.hid hRV
      have v3 := hRV.tk.x3.cell
      have v8 := hRV.x8.cell
      clear hV x3 x8 c1 hRV
      gi_wp2_with fail
      refine ⟨trivial, (callsIn_wide.2 (starts_any B k V)).mono ?_⟩
      rintro x W2 ⟨rfl, hW2⟩
      have hb2 : Below V.heap.size V W2 := by rw [← hW2]; exact (bnew _ _).alloc (by simp) _
      have hx1 : Boxed W2 V.heap.size 25 (.pointer (some ⟨B, 0, none⟩)) := by rw [← hW2]; exact (Boxed.new V 25 _).alloc _
      have hx2 : Boxed W2 (V.heap.size + 1) 3 (.int .i64 k) := by
        rw [← hW2]
        have := Boxed.new (V.alloc (.cells #[.pointer (some ⟨B, 0, none⟩)] 25)) 3 (.int .i64 (k : Int))
        rwa [World.size_alloc] at this
      have hR2 := HRV.out.below hb2
      have hlt1 := hx1.lt
      have hlt2 := hx2.lt
      have h3l := hR2.tk.x3.lt
      have h4l := hR2.tk.x4.lt
      have h6l := hR2.tk.x6.lt
      have h7l := hR2.tk.x7.lt
      have h8l := hR2.x8.lt
      have hwl := hR2.tk.bel.size
      have h1l := hR2.tk.hp.tb.lt
      have hOl := hR2.tk.hp.lt
      have hI2 : ItIn W2 O B m V.heap.size (V.heap.size + 1) k := ⟨hR2.tk.hp, hx1, hx2⟩
      clear hW2 hx1 hx2 v3 v8 hb2
      gi_wp2
      refine wpIn_rangeFunc_ownG rfl (by omega) (gf := 64) (lb := #[.pointer (some ⟨V.heap.size, 0, none⟩), .pointer (some ⟨V.heap.size + 1, 0, none⟩)]) rfl trivial (enters_of Tryd.func64 (by kernel_rfl) rfl)
        (starts_stopsA 8 (by omega) HLT.out W2 hI2) kpI_t (kpI_b hOl hlt1 hlt2 h1l) (Below.refl _ _) (fun _ => rfl)
        (fun pre W => pre = [] ∧ TkIn w O B m p Z3 Z4 Z6 Z7 W ∧ Boxed W Z8 3 (.int .i64 k) ∧ DOK w.heap.size W2.heap.size ds W)
        (fun c pre W => c = .ret ∧ ∃ x : Ak m.F k, pre = [x] ∧ TkOut w O B ⟨m.n, setF m.F x.1 (x.1 + p) false⟩ x.1 Z6 Z7 W ∧ DOK w.heap.size W2.heap.size ds W)
        (fun pre W W' row hs hg hr => by
          obtain ⟨s1, s2, s3, s4⟩ := hs
          have hk := keep_row hg (fun r e => (hr r e).1)
          exact ⟨s1, s2.keep hk h3l h4l h6l h7l hOl h1l hwl, (hk.block _ s3.lt (by omega)).trans s3, s4.keep (fun D _ hD o ho _ => (hk.block D (Array.getElem?_eq_some_iff.1 ho).1 (by omega)).trans ho)⟩)
        (fun c pre W W' row hs hg hr => by
          obtain ⟨s1, x, s2, s3, s4⟩ := hs
          have hk := keep_row hg (fun r e => (hr r e).1)
          exact ⟨s1, x, s2, s3.keep hk h6l h7l hOl h1l hwl, s4.keep (fun D _ hD o ho _ => (hk.block D (Array.getElem?_eq_some_iff.1 ho).1 (by omega)).trans ho)⟩)
        ⟨rfl, hR2.tk, hR2.x8, hR2.dok⟩
        (fun x => { tmps := #[u0, u1, u2, .pointer (some ⟨Z3, 0, none⟩), .pointer (some ⟨Z4, 0, none⟩), u5, .pointer (some ⟨Z6, 0, none⟩), .pointer (some ⟨Z7, 0, none⟩), .pointer (some ⟨Z8, 0, none⟩), .int .i64 (x.1 : Int), u10, u11, u12, u13, u14, u15, u16, u17, u18, u19, u20, u21, u22, u23, u24, u25, u26, u27, .int .i64 k, .pointer (some ⟨B, 0, none⟩), .pointer (some ⟨B, 0, none⟩), .pointer (some ⟨B, 1, none⟩), .slice (some ⟨A, 0, none⟩) KK cap, .int .i64 KK, .bool true, u35, u36, .pointer (some ⟨B, 0, none⟩), .int .i64 k, .func (.func 64) #[] #[.pointer (some ⟨V.heap.size, 0, none⟩), .pointer (some ⟨V.heap.size + 1, 0, none⟩)], .int .i64 (x.1 : Int), u41, u42, u43, u44, u45, u46, u47, u48, u49, u50, u51], defers := [] }) ?assign ?body ?done ?stop
      case assign =>
        intro l x W K hK
        gi_wp2
        exact hK
      case body =>
        rintro l pre ⟨s, hs⟩ W ⟨rfl, hT, h8, hD⟩ hlen
        have y3 := hT.x3.cell
        have y4 := hT.x4.cell
        have y8 := h8.cell
        have hs1024 : s ≤ 1024 := by have := hT.hp.wf.n2; have := bk_le hT.hp.wf.f hs; have := Nat.two_pow_pos k; omega
        have hTK := take_any s k s (s + p) hT.hp hs (Nat.le_refl _) (by omega) (by have := HPK.out; have := pow_le HR.out.lo; omega)
        rw [show ((s + p : Nat) : Int) = (s : Int) + (p : Int) from by omega] at hTK
        have HTK := Lib.hid hTK
        have HT := Lib.hid hT
        have HDD := Lib.hid hD
        have q67 : Z6 ≠ Z7 := by have := HE.out; omega
        have q67' : Z7 ≠ Z6 := fun e => q67 e.symm
        clear hTK hT hD h8
        gi_wp2_with fail
        refine ⟨trivial, (CallsIn.inRound l (callsIn_wide.2 HTK.out)).mono ?_⟩
        rintro e W3 ⟨rfl, hM3⟩
        have hO6 : ¬ O Z6 := fun ho => by have := HH.out.lt _ ho; have := HE.out; omega
        have hO7 : ¬ O Z7 := fun ho => by have := HH.out.lt _ ho; have := HE.out; omega
        have x6 : Boxed W3 Z6 3 (.int .i64 0) := (hM3.2.block _ HT.out.x6.lt hO6).trans HT.out.x6
        have x7 : Boxed W3 Z7 26 (.int .i64 0) := (hM3.2.block _ HT.out.x7.lt hO7).trans HT.out.x7
        have c6 := x6.cell
        have c7 := x7.cell
        have f6 := x6.frozen
        have f7 := x7.frozen
        have HD3 := Lib.hid (HDD.out.keep (W' := W3) (fun D hDl _ o ho _ => (hM3.2.block D (Array.getElem?_eq_some_iff.1 ho).1 (fun hx => by have := HH.out.lt _ hx; omega)).trans ho))
        have hM4 : Mut w O B ⟨m.n, setF m.F s (s + p) false⟩ W3 := ⟨hM3.1, (Keep.of HT.out.bel).trans hM3.2⟩
        have HFIN := Lib.hid (two_stores (v := .int .i64 s) (e := .int .i64 0) hM4 x6 x7 (by have := HE.out; omega) (by have := HE.out; omega) q67 HH.out.lt HH.out.tb.lt HD3.out)
        have HKF := Lib.hid (show KeepsFrom W2.heap.size W ((W3.setCell ⟨Z6, 0, none⟩ (.int .i64 s)).setCell ⟨Z7, 0, none⟩ (.int .i64 0)) from ⟨by rw [World.size_setCell, World.size_setCell]; exact hM3.2.size, fun i o hB hi ho => by
          rw [Below.heap_setCell _ _ _ _ (show i ≠ Z7 by omega), Below.heap_setCell _ _ _ _ (show i ≠ Z6 by omega), hM3.2.block i (Array.getElem?_eq_some_iff.1 hi).1 (fun hx => by have := hOl _ hx; omega)]
          exact hi⟩)
        clear hM3 x6 x7 hM4
        gi_wp2
        obtain ⟨r1, r2, r3, r4⟩ := HFIN.out
        exact ⟨HKF.out, rfl, ⟨s, hs⟩, rfl, ⟨r1, r2, r3⟩, r4⟩
      case done =>
        rintro D ys W hDl hS ⟨rfl, hT, h8, hD⟩ hK
        have hnil : bl m.F m.n k = [] := hS.symm
        have HEQ := Lib.hid (show bst m.F m.n k0 (11 - k0) = bst m.F m.n (k + 1) (11 - (k + 1)) from by
          rw [HR.out.eq, show 11 - k = (11 - (k + 1)) + 1 from by have := HLT.out; omega, bst_nil hnil])
        have y8 := h8.cell
        have HT := Lib.hid hT
        have hDK := hD.cons hDl (by omega) hK
        have HDK := Lib.hid hDK
        have hDlt := (Array.getElem?_eq_some_iff.1 hK).1
        have hk1 : k + 1 ≤ 11 := by have := HLT.out; omega
        clear hS hnil hT hD hK hDK
        gi_wp2
        have hn8 := Boxed.new W 3 (.int .i64 ((k : Int) + 1))
        have hbw := bnew W (.cells #[.int .i64 ((k : Int) + 1)] 3)
        refine ⟨⟨_, _, _, _, _, _, _, _, _, _, _, _, _, _, _, _, _, _, _, _, _, _, _, _, _, _, _, _, _, _, _, _, _, _, _, _, _, _, _, _, _, _, _, _, _, _, _, _, k + 1, _, ⟨by have := HR.out.lo; omega, hk1, HEQ.out, HT.out.below hbw, hn8, ?_⟩, rfl⟩, ?_⟩
        · exact (HDK.out.keep (fun D' _ _ o ho _ => (hbw.block D' (Array.getElem?_eq_some_iff.1 ho).1).trans ho)).more (by simp; omega)
        · show 12 - (intOf (((W.alloc (.cells #[.int .i64 ((k : Int) + 1)] 3)).cell? ⟨W.heap.size, 0, none⟩).getD undef)).toNat < 12 - (intOf ((W1.cell? ⟨Z8, 0, none⟩).getD undef)).toNat
          rw [hn8.cell, HR.out.x8.cell]
          simp [intOf]
          omega
      case stop =>
        rintro D c pre W hDl hSp ⟨rfl, x, rfl, hO, hD⟩ hK
        obtain ⟨r, hr⟩ := hSp
        have hbs : tkB m p a = some (k, x.1) := by
          rw [HTB.out, HR.out.eq, show 11 - k = (11 - (k + 1)) + 1 from by have := HLT.out; omega]
          exact bst_cons hr.symm
        have HBS := Lib.hid hbs
        have HDK := Lib.hid (hD.cons hDl (by omega) hK)
        have HOO := Lib.hid hO
        clear hr hbs hO hD hK
        gi_wp2
        obtain ⟨t1, t2, t3⟩ := tk_yes HOK.out HBS.out
        exact take_end rfl rfl HDK.out HOO.out.mt HOO.out.x6 HOO.out.x7 t2 t1 (by rw [t3]; rfl) HH.out.lt HH.out.tb.lt
    · have HNO := Lib.hid (show tkB m p a = none from HTB.out.trans (HR.out.eq.trans (bst_none (fun j hj => HKK.out j (by omega)))))
      generalize hKg : ords m.n = KK at c1 hcap hKl hlt
      clear hKg
      gi_wp2
      gi_quiet (fail)
      have hR1 := HR.out.below (belowN (Below.refl _ _) nq)
      have hT := hR1.tk
      have x6 := hT.x6.cell
      have x7 := hT.x7.cell
      have f6 := hT.x6.frozen
      have f7 := hT.x7.frozen
      have q67 : Z6 ≠ Z7 := by have := HE.out; omega
      have q67' : Z7 ≠ Z6 := fun e => q67 e.symm
      have HFIN := Lib.hid (two_stores (v := .int .i64 0) (e := .int .i64 6) ⟨hT.hp, Keep.of hT.bel⟩ hT.x6 hT.x7 (by have := HE.out; omega) (by have := HE.out; omega) q67 HH.out.lt HH.out.tb.lt hR1.dok)
      clear hR1 hT
      gi_wp2
      obtain ⟨t1, t2, t3⟩ := tk_full HOK.out HNO.out
      obtain ⟨r1, r2, r3, r4⟩ := HFIN.out
      exact take_end rfl rfl r4 r1 r2 r3 t2 t1 t3 HH.out.lt HH.out.tb.lt

end Go.Proofs.YtnmejilpifmlnaaDoor
