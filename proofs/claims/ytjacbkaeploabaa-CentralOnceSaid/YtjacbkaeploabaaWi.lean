/- The statement about no object twice. -/
import Derived.Test.YtjacbkaeploabaaWg
import Derived.Test.YtjacbkaeploabaaWh
import Derived.Maps.AppendAt
namespace Go.Proofs.Ytjacbkaeploabaa
open Go.RowKit Go.Shelf

/-- The statement's list of numbers: a row of its own, apart from what the central list owns. -/
structure Row (b : Nat) (w : World) (O : Nat → Prop) (t : Value) (xs : List Int) : Prop where
  own : w.ownsRow b 3 1 t xs.length (cellsZ xs)
  ap : ∀ g, t.ownBlock = some g → ¬ O g
theorem Row.step {b : Nat} {w w' : World} {O O' : Nat → Prop} {t : Value} {xs : List Int} (h : Row b w O t xs) (hS : St O O' w w') : Row b w' O' t xs :=
  ⟨owns_block h.own fun g hg hl => hS.kp.block g hl (h.ap g hg), fun g hg ho => by
    rcases hS.gr g ho with h1 | h1
    · exact h.ap g hg h1
    · have := (h.own.lt g hg).2; omega⟩
theorem Row.below {b : Nat} {w w' : World} {O : Nat → Prop} {t : Value} {xs : List Int} (h : Row b w O t xs) (hb : Below w.heap.size w w') : Row b w' O t xs := h.step (St.refl hb)
theorem Own2.grown {w0 w w' : World} {v : Value} {om : Option Ce} {O : Nat → Prop} {row : Option Nat} (h : Own2 w0 w v om O) (hg : w.grownBy w' row) (hr : ∀ k, row = some k → w0.heap.size ≤ k ∧ ¬ O k) : Own2 w0 w' v om O :=
  ⟨h.ob.keep (O1 := fun k => row = some k) ⟨hg.os, hg.tape, hg.output, hg.size, fun k hk ho => hg.block k hk (fun e => ho e.symm)⟩ (fun k h1 h2 => (hr k h2).2 h1), h.nw, h.bel.grown hg h.bel.size (fun k e => (hr k e).1)⟩

theorem LAt.grown {w w' : World} {A : Option Addr} {L : List Nat} {row : Option Nat} (h : LAt w A L) (hg : w.grownBy w' row) (hr : ∀ k, row = some k → ∀ x : Addr, A = some x → x.block ≠ k) : LAt w' A L := fun i x hi => by
  obtain ⟨g, e, h1, h2⟩ := h i x hi
  exact ⟨g, e, Nat.lt_of_lt_of_le h1 hg.size, (World.cell?_of_block (a := ⟨g, i, none⟩) (hg.block g h1 (fun e2 => hr _ e2.symm _ e rfl))).trans h2⟩

set_option maxRecDepth 100000 in
set_option maxHeartbeats 4000000 in
theorem once_walk (s p b : Int) (A : Option Addr) (cp : Nat) (l : List Ak) (w : World) (hl : l.length ≤ 9223372036854775807) (hA : ActsAt w w.heap.size A l) :
    Calls Try.prog 3 #[.agg #[.int .i64 s, .int .i64 p, .int .i64 b], .slice A l.length cp] w (Yes w) := by
  have HAL := Lib.hid alive_any
  obtain ⟨i0, hi0, hz0, hz1, hz2⟩ := info_parts info3
  obtain ⟨W2, hW0, hB2, hs0, x0, x1, x2⟩ := fresh3 w (.int .i64 s) (.int .i64 p) (.int .i64 b) 23
  have T0 : Tri W2 w.heap.size (.int .i64 s) (.int .i64 p) (.int .i64 b) := Tri.mk (by omega) x0 x1 x2
  have HT0 := Lib.hid (fun W (hb : Below W2.heap.size W2 W) => T0.below hb T0.lt)
  have HMD := Lib.hid (made_law s p b none 0 [] W2 (by decide) (fun k x hk => by simp at hk) (N0 := w.heap.size) hB2.size (ActsAt.nil _ _ _))
  have HA := Lib.hid hA
  have HG1 := Lib.hid (great_any A cp l W2 hl (hA.below hB2))
  have HB2 := Lib.hid hB2
  obtain ⟨L, hL⟩ : ∃ L, l.length = L := ⟨_, rfl⟩
  have HL := Lib.hid hL
  rw [hL] at hl HG1 ⊢
  rw [show (([] : List Ak).length) = 0 from rfl] at HMD
  clear T0 hA hs0 hB2 hL
  by_cases hg : grB l = true
  · rw [hg] at HG1
    go_enter Try.func3, Try.ntmps3
    go_wp2_with fail
    refine HG1.out.mono ?_
    rintro e _ ⟨rfl, rfl⟩
    go_wp2_with fail
    refine (HAL.out _).mono ?_
    rintro e w2 ⟨rfl, hb⟩
    have HF := Lib.hid (btr HB2.out hb (Nat.le_refl _))
    clear hb
    go_wp2_with fail
    go_ret
    exact ⟨rfl, HF.out⟩
  · have hg' : grB l = false := by simpa using hg
    rw [hg'] at HG1
    have H60 := Lib.hid (grB_no hg').2
    have hL40 : L ≤ 40 := by rw [← HL.out]; exact (grB_no hg').1
    clear hg hg'
    go_enter Try.func3, Try.ntmps3
    go_wp2_with fail
    refine HG1.out.mono ?_
    rintro e _ ⟨rfl, rfl⟩
    go_wp2_with fail
    refine HMD.out.mono ?_
    intro e w3 hm1
    obtain ⟨om, hom⟩ : ∃ om, runO (newC ⟨s, p, b⟩) [] = om := ⟨_, rfl⟩
    have hcl : ∀ c, om = some c → c.z = s.toNat ∧ c.g = p.toNat ∧ c.t = b.toNat ∧ okC ⟨s, p, b⟩ = true := fun c hc => run_cls (hom.trans hc)
    have hnil : ∀ c, om = some c → c.L = [] := fun c hc => by
      rw [hc] at hom
      by_cases hok : okC ⟨s, p, b⟩ = true
      · rw [show runO (newC ⟨s, p, b⟩) [] = newC ⟨s, p, b⟩ from rfl, show newC ⟨s, p, b⟩ = some ⟨s.toNat, p.toNat, b.toNat, []⟩ from if_pos hok] at hom
        injection hom with hom
        subst hom
        rfl
      · rw [show runO (newC ⟨s, p, b⟩) [] = newC ⟨s, p, b⟩ from rfl, show newC ⟨s, p, b⟩ = none from if_neg hok] at hom
        cases hom
    rw [hom] at hm1
    cases om with
    | none =>
      obtain ⟨rfl, hb3⟩ := hm1.no
      have HB3 := Lib.hid (btr HB2.out hb3 (Nat.le_refl _))
      clear hm1 hb3 x0 x1 x2 hcl hnil
      go_wp2_with fail
      refine (HAL.out _).mono ?_
      rintro e w2 ⟨rfl, hb⟩
      have HF := Lib.hid (btr HB3.out hb (Nat.le_refl _))
      clear hb
      go_wp2_with fail
      go_ret
      exact ⟨rfl, HF.out⟩
    | some c0 =>
      obtain ⟨B1, rfl, ho1⟩ := hm1.yes
      have HO := Lib.hid (Own2.of ho1)
      obtain ⟨q1, q2, q3, q4⟩ := hcl c0 rfl
      obtain ⟨p1, p2, p3, p4, p5, p6, p7, p8⟩ := okC_bd q4
      dsimp only at p1 p2 p3 p4 p5 p6 p7 p8
      have HCL := Lib.hid (show s = c0.z ∧ p = c0.g ∧ b = c0.t from ⟨by omega, by omega, by omega⟩)
      have HZ := Lib.hid (show allI c0.L = [] from by rw [hnil c0 rfl]; rfl)
      have hnn : c0.n ≤ 128 := by have : CWf c0 := by obtain ⟨_, _, _, _, h⟩ := ho1.1; exact h.wf
                                  exact this.n1.2.1
      obtain ⟨nn, hnn2⟩ : ∃ nn, c0.n = nn := ⟨_, rfl⟩
      have HNN := Lib.hid hnn2
      have RO := Lib.hid (fun W => RObjects_any s p b W (by omega) (by omega) (by omega) (by omega))
      have hro : p * 256 / s = (nn : Nat) := by rw [HCL.out.1, HCL.out.2.1, ro_n, hnn2]
      rw [hro] at RO
      rw [hnn2] at hnn
      clear hm1 ho1 x0 x1 x2 hcl q1 q2 q3 q4 p1 p2 p3 p4 p5 p6 p7 p8 hnil hnn2 hro
      go_wp2_with fail
      go_loopw [6, 7] (fun tv i wv => ∃ k : Nat, k ≤ L ∧ i = .int .i64 k ∧ ∃ M O xs, Own2 W2 wv (.pointer (some ⟨B1, 0, none⟩)) (some { c0 with L := M }) O ∧ xs.Perm (allI M) ∧ Row W2.heap.size wv O tv xs) (fun _ i _ => L - (intOf i).toNat)
      case atStart => exact ⟨0, by omega, rfl, c0.L, _, [], HO.out, by rw [HZ.out], ⟨World.ownsRow_nil _ _ _ _, fun g hg => by cases hg⟩⟩
      case round =>
        obtain ⟨k, hk, rfl, M, O, xs, ho, hp, hrw⟩ := hrel
        obtain ⟨P, cp', rfl⟩ := owns_form hrw.own
        have HO1 := Lib.hid ho
        have HP := Lib.hid hp
        have HRW := Lib.hid hrw
        have hxl : xs.length ≤ 131072 := by
          have hwf : CWf { c0 with L := M } := by obtain ⟨_, _, _, _, h⟩ := ho.ob; exact h.wf
          rw [allI_len hp]
          have h3 := sumL_le (f := tc) (b := 128) M (fun m hm => by have := tc_le m; have := (hwf.sp m hm).wf.n2; omega)
          have h4 : M.length ≤ 1024 := hwf.len
          have h5 := Nat.mul_le_mul_right 128 h4
          omega
        by_cases hlt : k < L
        · obtain ⟨x, hx⟩ : ∃ x, l[k]? = some x := ⟨_, List.getElem?_eq_getElem (by have := HL.out; omega)⟩
          have HX := Lib.hid hx
          have HAX := Lib.hid (fun W (hb : Below W2.heap.size W2 W) => (HA.out.below (btr HB2.out hb (Nat.le_refl _))) k x hx)
          obtain ⟨bb, oo, u, rfl, hbb, g1, g2, g3, hv⟩ := HAX.out _ ho.bel
          by_cases hk1 : x.k = 1
          · clear ho hp hrw
            rw [hk1] at g1
            go_wp2_with fail
            have htn := tk_nat { c0 with L := M } x.a
            have HTK := Lib.hid (HO1.out.take x.a hv.a)
            rw [htn.1, htn.2] at HTK
            have hwf : CWf { c0 with L := M } := by obtain ⟨_, _, _, _, h⟩ := HO1.out.ob; exact h.wf
            have HWF := Lib.hid hwf
            have hfin : CWf { c0 with L := (tkL x.a.toNat M).2 } := CWf.tkL x.a.toNat { c0 with L := M } hwf
            have hbd : ∀ j, (tkL j M).2.length ≤ 1024 ∧ sumL tc (tkL j M).2 ≤ 131072 := fun j => by
              have hj : CWf { c0 with L := (tkL j M).2 } := CWf.tkL j { c0 with L := M } hwf
              have h3 := sumL_le (f := tc) (b := 128) (tkL j M).2 (fun m hm => by have := tc_le m; have := (hj.sp m hm).wf.n2; omega)
              have h4 : (tkL j M).2.length ≤ 1024 := hj.len
              have h5 := Nat.mul_le_mul_right 128 h4
              exact ⟨h4, by omega⟩
            have HBD := Lib.hid hbd
            have hsum := tkL_sum x.a.toNat M
            have hny : (tkL x.a.toNat M).1.length ≤ 131072 := by have := (hbd x.a.toNat).2; omega
            have HAT := Lib.hid (fun j a (h : (tkL x.a.toNat M).1[j]? = some a) => tkL_at x.a.toNat j M a h)
            have hall := tkL_all x.a.toNat M
            have hrmtk := hfin.rmtk
            obtain ⟨MF, hMF⟩ : ∃ MF, (tkL x.a.toNat M).2 = MF := ⟨_, rfl⟩
            obtain ⟨ys, hys⟩ : ∃ ys, (tkL x.a.toNat M).1 = ys := ⟨_, rfl⟩
            rw [hys] at hny HAT
            obtain ⟨ny, hyn⟩ : ∃ ny, ys.length = ny := ⟨_, rfl⟩
            have HYN := Lib.hid hyn
            have HMF := Lib.hid (show (tkL ny M).2 = MF from by rw [← hyn, ← hys, hall]; exact hMF)
            have htn1 : (tkL x.a.toNat ({ c0 with L := M } : Ce).L).1 = ys := hys
            have htn2 : (tkL x.a.toNat ({ c0 with L := M } : Ce).L).2 = MF := hMF
            rw [htn1, htn2, hyn] at HTK
            rw [hMF] at hrmtk
            rw [hyn] at hny
            have HRT := Lib.hid hrmtk
            have HMX := Lib.hid (show MF.length ≤ 1024 from by rw [← hMF]; exact (hbd _).1)
            clear hwf hfin hbd hsum hall hrmtk hMF hys hyn htn htn1 htn2 hx hv
            refine HTK.out.mono ?_
            rintro e w4 ⟨P5, c5, rfl, O5, hl5, ⟨hn5, _⟩, ho5, hs5⟩
            have HO5 := Lib.hid ho5
            have hr5 := HRW.out.step hs5
            have HR5 := Lib.hid (show Row W2.heap.size w4 (fun q => O5 q ∨ ∃ y : Addr, P5 = some y ∧ y.block = q) (.slice P xs.length cp') xs from ⟨hr5.own, fun g hg ho => by
              rcases ho with ho | ⟨y, hy, hyb⟩
              · exact hr5.ap g hg ho
              · have h1 := hn5 y hy
                have h2 := (HRW.out.own.lt g hg).2
                omega⟩)
            have HL5 := Lib.hid hl5.1
            clear ho5 hs5 hl5 hn5 hr5 HTK
            go_wp2_with fail
            go_loopw [6, 10] (fun tv i wv => ∃ j : Nat, j ≤ ny ∧ i = .int .i64 j ∧ ∃ zs, Own2 W2 wv (.pointer (some ⟨B1, 0, none⟩)) (some { c0 with L := MF }) O5 ∧ zs.Perm (allI (tkL j M).2) ∧ Row W2.heap.size wv (fun q => O5 q ∨ ∃ y : Addr, P5 = some y ∧ y.block = q) tv zs ∧ LAt wv P5 ys) (fun _ i _ => ny - (intOf i).toNat)
            case atStart => exact ⟨0, by omega, rfl, xs, HO5.out, HP.out, HR5.out, HL5.out⟩
            case round =>
              obtain ⟨j, hj, rfl, zs, hoj, hpj, hrj, hlj⟩ := hrel
              obtain ⟨P7, c7, rfl⟩ := owns_form hrj.own
              have HOJ := Lib.hid hoj
              have HPJ := Lib.hid hpj
              have HRJ := Lib.hid hrj
              have HLJ := Lib.hid hlj
              have hzl : zs.length ≤ 131072 := by rw [allI_len hpj]; exact (HBD.out j).2
              by_cases hlt2 : j < ny
              · obtain ⟨a, ha⟩ : ∃ a, ys[j]? = some a := ⟨_, List.getElem?_eq_getElem (by have := HYN.out; omega)⟩
                obtain ⟨g5, rfl, hg5, m1⟩ := hlj j a ha
                have hst := HAT.out j a ha
                have hnx := allI_stp (c := { c0 with L := (tkL j M).2 }) (CWf.tkL j { c0 with L := M } HWF.out) hpj hst
                have HNX := Lib.hid hnx.1
                have HIN := Lib.hid (in_any P7 c7 zs (a : Int) wr (by omega) (CAt.row hrj.own))
                rw [decide_eq_false hnx.2] at HIN
                have hws := hoj.bel.size
                clear hoj hpj hrj hlj ha hst hnx
                go_wp2_with fail
                refine HIN.out.mono ?_
                rintro e _ ⟨rfl, rfl⟩
                have hbq := bnew wr (.cells #[.int .i64 (a : Nat)] 3)
                have HOQ := Lib.hid (HOJ.out.below hbq)
                have HLQ := Lib.hid (HLJ.out.below hbq)
                have hlt5 := HOJ.out.ob.lt
                have HLT := Lib.hid hlt5
                clear hbq hlt5
                go_wp2_with (at_builtin; refine wpList_append_own_at _ rfl _ _ 29 rfl W2.heap.size 3 i0 (.int .i64 0) 1 8 Try.underlying29 hi0 hz0 hz1 hz2 rfl (by decide) _ _ _ rfl (HRJ.out.own.alloc _) ⟨wr.heap.size, 0, none⟩ 1 1 [.int .i64 (a : Nat)] rfl rfl (cells1_new wr _ _) (by simp [Value.oneCell']) (by unfold maxLen; omega) (by omega) (by simp; omega) ?_; intro v' w5 hown' hgrow _ hat; have HG := Lib.hid (And.intro hown' (And.intro hgrow hat)); clear hown' hgrow hat)
                go_roundw
                case rel =>
                  obtain ⟨hown', hgrow, hat⟩ := HG.out
                  refine ⟨j + 1, by omega, by go_num, zs ++ [(a : Int)], HOQ.out.grown hgrow (fun q e => ⟨(HRJ.out.own.lt q e).1, fun ho => HRJ.out.ap q e (.inl ho)⟩), HNX.out, ⟨?_, fun q hq ho => ?_⟩, HLQ.out.grown hgrow (fun q e y hy e2 => HRJ.out.ap q e (.inr ⟨y, hy, e2⟩))⟩
                  · rw [List.length_append]
                    unfold cellsZ
                    rw [List.map_append]
                    exact hown'
                  · rcases hat with hat | hat
                    · exact HRJ.out.ap q (hat.symm.trans hq) ho
                    · rw [hat] at hq
                      injection hq with hq
                      have hsz : (wr.alloc (.cells #[.int .i64 (a : Nat)] 3)).heap.size = wr.heap.size + 1 := by simp
                      rcases ho with ho | ⟨y, hy, e2⟩
                      · have := HLT.out q ho; omega
                      · injection hy with hy
                        subst hy
                        have e3 : g5 = q := e2
                        omega
                case measure => simp [intOf]; omega
              · obtain rfl : j = ny := by omega
                rw [HMF.out] at HPJ
                obtain ⟨_, t0, t1, t2⟩ := HT0.out _ hoj.bel
                have HRO := Lib.hid (fun W (hb : Below wr.heap.size wr W) => cRoom_any (HOJ.out.ob.below hb))
                have HTO := Lib.hid (fun W (hb : Below wr.heap.size wr W) => cTaken_any (HOJ.out.ob.below hb))
                have HSO := Lib.hid (fun W (hb : Below wr.heap.size wr W) => cSpans_any (HOJ.out.ob.below hb))
                obtain ⟨N, hN⟩ : ∃ N, MF.length = N := ⟨_, rfl⟩
                have hNb := HMX.out
                have hrt := HRT.out
                rw [show ({ c0 with L := MF } : Ce).n = nn from HNN.out] at hrt
                rw [show ({ c0 with L := MF } : Ce).L.length = N from hN] at hrt
                have hRL : (runs (some { c0 with L := MF })).length = N := by rw [← hN]; exact List.length_map ..
                have HRL := Lib.hid hRL
                rw [hN] at hNb
                have hmul : N * nn ≤ 131072 := Nat.le_trans (Nat.mul_le_mul hNb hnn) (by omega)
                obtain ⟨X, hX⟩ : ∃ X, N * nn = X := ⟨_, rfl⟩
                rw [hX] at hmul hrt
                have e2 : (N : Int) * (nn : Int) = (X : Int) := by rw [← Int.natCast_mul, hX]
                have e1 : ((rmC (some { c0 with L := MF }) : Nat) : Int) + ((tkC (some { c0 with L := MF }) : Nat) : Int) = (X : Int) := by rw [← Int.natCast_add, hrt]
                have HCC := Lib.hid (fun W (hb : Below wr.heap.size wr W) => show W.cell? ⟨w.heap.size, 0, none⟩ = some (.int .i64 s) ∧ W.cell? ⟨w.heap.size, 1, none⟩ = some (.int .i64 p) ∧ W.cell? ⟨w.heap.size, 2, none⟩ = some (.int .i64 b) from by
                  obtain ⟨_, q0, q1, q2⟩ := HT0.out W (btr HOJ.out.bel hb (Nat.le_refl _))
                  exact ⟨q0, q1, q2⟩)
                generalize rmC (some { c0 with L := MF }) = rm at *
                generalize tkC (some { c0 with L := MF }) = tk at *
                generalize runs (some { c0 with L := MF }) = RR at *
                clear hoj hpj hrj hlj hN hX hrt
                go_wp2_with fail
                go_region_held3 (fun w' => w'.cell? ⟨w.heap.size, 0, none⟩ = some (.int .i64 s) ∧ w'.cell? ⟨w.heap.size, 1, none⟩ = some (.int .i64 p) ∧ w'.cell? ⟨w.heap.size, 2, none⟩ = some (.int .i64 b))
                  (first | exact HCC.out _ (Below.refl _ _) | exact HCC.out _ (belowN (Below.refl _ _) _) | exact HCC.out _ hb9 | exact HCC.out _ hb8 | exact HCC.out _ hb7 | exact HCC.out _ hb6)
                  (first
                  | (go_at_call 21; refine (RO.out _).mono ?_; rintro e w9 ⟨rfl, hb⟩; have hb9 := btr hb8 hb (Nat.le_refl _); clear hb)
                  | (go_at_call 20; refine (HSO.out _ hb7).mono ?_; rintro e w8 ⟨P8, c8, rfl, _, _, hb⟩; have hb8 := btr hb7 hb (Nat.le_refl _); clear hb; rw [HRL.out])
                  | (go_at_call 19; refine (HTO.out _ hb6).mono ?_; rintro e w7 ⟨rfl, hb⟩; have hb7 := btr hb6 hb (Nat.le_refl _); clear hb)
                  | (go_at_call 18; refine (HRO.out _ (belowN (Below.refl _ _) _)).mono ?_; rintro e w6 ⟨rfl, hb⟩; have hb6 := btr (belowN (Below.refl wr.heap.size wr) _) hb (Nat.le_refl _); clear hb))
                have HO9 := Lib.hid (HOJ.out.below hb9)
                have hr9 := HRJ.out.below hb9
                have HR9 := Lib.hid (show Row W2.heap.size w9 O5 (.slice P7 zs.length c7) zs from ⟨hr9.own, fun g hg ho => hr9.ap g hg (.inl ho)⟩)
                clear hb6 hb7 hb8 hb9 hr9 t0 t1 t2 HRO HTO HSO
                go_wp2_with fail
                go_roundw
                case rel => exact ⟨k + 1, by omega, by go_num, MF, O5, zs, HO9.out, HPJ.out, HR9.out⟩
                case measure => simp [intOf]; omega
          · have d1 : (x.k == 1) = false := by simpa using hk1
            have HD := Lib.hid (ho.call x HB2.out.size hv (H60.out k x hx))
            have HE := Lib.hid (dkD_some { c0 with L := M } x)
            clear ho hp hrw
            go_wp2_with fail
            refine HD.out.mono ?_
            rintro e w4 ⟨rfl, O4, ho4, hs4⟩
            have HO4 := Lib.hid ho4
            have HR4 := Lib.hid (HRW.out.step hs4)
            obtain ⟨_, _, _, e1, _, k1, k2, k3, hv4⟩ := HAX.out _ ho4.bel
            injection e1 with e1
            injection e1 with e1 e2
            subst e1 e2
            obtain ⟨A3, c3, rfl, hz3⟩ := hv4.v
            have HZ3 := Lib.hid hz3
            have hn3 := hv4.n
            have HDA := Lib.hid (fun c' => dk_all (c := { c0 with L := M }) (c' := c') (x := x) hk1)
            have HDP := Lib.hid (fun c' => dk_put (c := { c0 with L := M }) (c' := c') (x := x))
            obtain ⟨M', hM'⟩ := HE.out
            rw [hM'] at HO4
            have HM' := Lib.hid hM'
            clear ho4 hs4 hv4 hz3 hM' hv hx g1 g2 g3 HD HE
            by_cases hq : x.k = 2 ∧ dkE (some { c0 with L := M }) x = 0
            · have hL' := HDP.out _ hq HM'.out
              have hL' : M' = live (offL M x.l) := hL'
              have HWI := Lib.hid (without_any P A3 cp' c3 xs x.l w4 (by omega) hn3 (CAt.row HR4.out.own) (CAt.of HZ3.out (Nat.le_trans HB2.out.size HO4.out.bel.size)))
              have HPP := Lib.hid (allI_put (zs := x.l) HP.out)
              rw [← hL'] at HPP
              obtain ⟨hq1, hq2⟩ := hq
              rw [hq2]
              rw [hq1] at k1
              clear hL' HDA HDP HM'
              go_wp2_with fail
              refine HWI.out.mono ?_
              rintro e w5 ⟨A4, c4, rfl, hrow5, hb5⟩
              have hl4 := HO4.out.ob.lt
              have HR5 := Lib.hid (show Row W2.heap.size w5 O4 _ _ from ⟨owns_base hrow5 HO4.out.bel.size, fun g hg ho => by have := (hrow5.lt g hg).1; have := hl4 g ho; omega⟩)
              have HO5 := Lib.hid (HO4.out.below hb5)
              clear hrow5 hb5 hl4 HWI
              go_wp2_with fail
              go_roundw
              case rel => exact ⟨k + 1, by omega, by go_num, M', O4, _, HO5.out, HPP.out, HR5.out⟩
              case measure => simp [intOf]; omega
            · have hAE := HDA.out _ hq HM'.out
              have HAE := Lib.hid (show allI M' = allI M from hAE)
              clear hAE HDA HDP HM'
              generalize dkE (some { c0 with L := M }) x = er at *
              by_cases he : er = 0
              · subst he
                have hk2 : (x.k == 2) = false := by simpa using fun h => hq ⟨h, rfl⟩
                clear hq
                go_wp2_with fail
                go_roundw
                case rel => exact ⟨k + 1, by omega, by go_num, M', O4, xs, HO4.out, by rw [HAE.out]; exact HP.out, HR4.out⟩
                case measure => simp [intOf]; omega
              · have he2 : (er == 0) = false := by simpa using he
                clear hq he
                go_wp2_with fail
                go_roundw
                case rel => exact ⟨k + 1, by omega, by go_num, M', O4, xs, HO4.out, by rw [HAE.out]; exact HP.out, HR4.out⟩
                case measure => simp [intOf]; omega
        · have HTK := Lib.hid (cTaken_any ho.ob)
          have HBF := Lib.hid (btr HB2.out ho.bel (Nat.le_refl _))
          have hlen := allI_len hp
          clear ho hp hrw
          go_wp2_with fail
          refine HTK.out.mono ?_
          rintro e w4 ⟨rfl, hb⟩
          have HB4 := Lib.hid (btr HBF.out hb (Nat.le_refl _))
          rw [show tkC (some { c0 with L := M }) = xs.length from hlen.symm]
          clear hb hlen
          go_wp2_with fail
          refine (HAL.out _).mono ?_
          rintro e w5 ⟨rfl, hb⟩
          have HF := Lib.hid (btr HB4.out hb (Nat.le_refl _))
          clear hb
          go_wp2_with fail
          go_ret
          exact ⟨rfl, HF.out⟩

end Go.Proofs.Ytjacbkaeploabaa
