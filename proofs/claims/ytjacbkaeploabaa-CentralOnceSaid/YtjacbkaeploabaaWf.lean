/- The statement about what is swept. -/
import Derived.Test.YtjacbkaeploabaaWd
import Derived.Test.YtjacbkaeploabaaWe
import Derived.Test.YtjacbkaeploabaaMi
namespace Go.Proofs.Ytjacbkaeploabaa
open Go.RowKit Go.Shelf

theorem eq_run_no {a b c d : Int} (h : a ≠ c) (w : World) : (binOp .eql 45 (.agg #[.int .i64 a, .int .i64 b]) (.agg #[.int .i64 c, .int .i64 d])).run Try.prog w = .ok (.bool false) w := by
  have u3 := Try.underlying3
  have hS : Try.prog.underlying 45 = some (.struct (Try.prog.fieldsOf 45)) := by kernel_rfl
  have hp : Try.prog.stoodInHeld 45 = false := by kernel_rfl
  have hac : (a == c) = false := by simpa using h
  rw [run_eql_struct, show (10000 : Nat) = 9999 + 1 from rfl, run_equalIn_agg w 9999 45 _ _ hS hp]
  simp only [Program.fieldsOf, Try.underlying45]
  go_simp
/-- The runs of spans. -/
def rsM (M : List Mo) : List (Nat × Nat) := M.map (fun m => (m.s, m.g))
theorem rsM_at {M : List Mo} {i : Nat} {m : Mo} (h : M[i]? = some m) : (rsM M)[i]? = some (m.s, m.g) := by unfold rsM; rw [List.getElem?_map, h]; rfl
theorem rsM_len (M : List Mo) : (rsM M).length = M.length := List.length_map ..

set_option maxRecDepth 100000 in
set_option maxHeartbeats 4000000 in
theorem swept_walk (s p b : Int) (A : Option Addr) (cp : Nat) (l : List Ak) (A2 : Option Addr) (cp2 : Nat) (zs : List Int) (w : World) (hl : l.length ≤ 9223372036854775807) (hA : ActsAt w w.heap.size A l) (hz : zs.length ≤ 9223372036854775807) (hA2 : ZAt w w.heap.size A2 zs) :
    Calls Try.prog 5 #[.agg #[.int .i64 s, .int .i64 p, .int .i64 b], .slice A l.length cp, .slice A2 zs.length cp2] w (Yes w) := by
  have HAL := Lib.hid alive_any
  obtain ⟨W2, hW0, hB2, hs0, x0, x1, x2⟩ := fresh3 w (.int .i64 s) (.int .i64 p) (.int .i64 b) 23
  have T0 : Tri W2 w.heap.size (.int .i64 s) (.int .i64 p) (.int .i64 b) := Tri.mk (by omega) x0 x1 x2
  have HT0 := Lib.hid (fun W (hb : Below W2.heap.size W2 W) => T0.below hb T0.lt)
  have HG1 := Lib.hid (great_any A cp l W2 hl (hA.below hB2))
  have HMD := Lib.hid (fun W (hb : Below w.heap.size w W) h60 => made_law s p b A cp l W hl h60 hb.size (hA.below hb))
  have HB2 := Lib.hid hB2
  have HZ := Lib.hid hA2
  obtain ⟨n, hn⟩ : ∃ n, zs.length = n := ⟨_, rfl⟩
  have HN := Lib.hid hn
  rw [hn] at hz ⊢
  obtain ⟨L, hL⟩ : ∃ L, l.length = L := ⟨_, rfl⟩
  rw [hL] at hl HG1 HMD ⊢
  clear T0 hA hs0 hB2 hL hA2 hn
  by_cases hg : grB l = true
  · rw [hg] at HG1
    go_enter Try.func5, Try.ntmps5
    go_wp2_with fail
    refine HG1.out.mono ?_
    rintro e _ ⟨rfl, rfl⟩
    go_wp2_with fail
    refine (HAL.out _).mono ?_
    rintro e w2 ⟨rfl, hb⟩
    have HF := Lib.hid (btr HB2.out hb (Nat.le_refl _))
    clear hb
    go_wp2_with fail
    go_ret
    exact ⟨rfl, HF.out⟩
  · have hg' : grB l = false := by simpa using hg
    rw [hg'] at HG1
    have H60 := Lib.hid (grB_no hg').2
    clear hg hg'
    by_cases hbig : 60 < n
    · go_enter Try.func5, Try.ntmps5
      go_wp2_with fail
      refine HG1.out.mono ?_
      rintro e _ ⟨rfl, rfl⟩
      have d60 : decide (60 < (n : Int)) = true := decide_eq_true (by omega)
      go_wp2_with fail
      refine (HAL.out _).mono ?_
      rintro e w2 ⟨rfl, hb⟩
      have HF := Lib.hid (btr HB2.out hb (Nat.le_refl _))
      clear hb
      go_wp2_with fail
      go_ret
      exact ⟨rfl, HF.out⟩
    have hn60 : n ≤ 60 := by omega
    have d60 : decide (60 < (n : Int)) = false := decide_eq_false (by omega)
    go_enter Try.func5, Try.ntmps5
    go_wp2_with fail
    refine HG1.out.mono ?_
    rintro e _ ⟨rfl, rfl⟩
    clear x0 x1 x2
    obtain ⟨_, t0, t1, t2⟩ := HT0.out _ (Below.refl _ _)
    go_wp2_with fail
    obtain ⟨om, hom⟩ : ∃ om, runO (newC ⟨s, p, b⟩) l = om := ⟨_, rfl⟩
    rw [hom] at HMD
    refine (HMD.out _ HB2.out H60.out).mono ?_
    intro e w3 hm1
    cases om with
    | none =>
      obtain ⟨rfl, hb3⟩ := hm1.no
      have HB3 := Lib.hid (btr HB2.out hb3 (Nat.le_refl _))
      clear hm1 hb3 t0 t1 t2
      go_wp2_with fail
      refine (HAL.out _).mono ?_
      rintro e w2 ⟨rfl, hb⟩
      have HF := Lib.hid (btr HB3.out hb (Nat.le_refl _))
      clear hb
      go_wp2_with fail
      go_ret
      exact ⟨rfl, HF.out⟩
    | some c =>
      obtain ⟨B1, rfl, ho1⟩ := hm1.yes
      have HO := Lib.hid (Own2.of ho1)
      have HWF := Lib.hid (show CWf c from by obtain ⟨_, _, _, _, h⟩ := ho1.1; exact h.wf)
      have HWF := Lib.hid (show CWf c from by obtain ⟨_, _, _, _, h⟩ := ho1.1; exact h.wf)
      clear hm1 ho1 t0 t1 t2 hbig
      go_wp2_with fail
      refine HO.out.spans.mono ?_
      rintro e w4 ⟨P4, c4, rfl, hr4, ho4, hb4⟩
      have HO4 := Lib.hid ho4
      have LR := Lib.hid hr4
      have HPT := Lib.hid (ho4.put A2 cp2 zs (by rw [HN.out]; exact hn60) (fun x hx hne ho => by
        cases zs with
        | nil => exact hne rfl
        | cons z t =>
          obtain ⟨_, bb, o, e, hlt, _⟩ := HZ.out 0 z rfl
          rw [e] at hx
          injection hx with hx
          subst hx
          have h1 := ho.1
          have := HB2.out.size
          simp at h1
          omega) ((HZ.out.below (btr HB2.out ho4.bel (Nat.le_refl _))).more (by have := HB2.out.size; have := ho4.bel.size; omega)))
      rw [HN.out] at HPT
      clear hr4 ho4 hb4
      by_cases her : ptEr (some c) zs = 0
      · obtain ⟨e1, e2⟩ := ptEr_ok her
        have HC2 := Lib.hid (show CWf { c with L := offL c.L zs } from HWF.out.off zs)
        have hold : runs (some c) = rsM (offL c.L zs) := by unfold rsM offL runs; rw [List.map_map]; rfl
        rw [her, e1, e2] at HPT
        rw [hold] at LR
        rw [hold]
        clear her e1 e2 hold
        generalize offL c.L zs = M at *
        go_wp2_with fail
        refine HPT.out.mono ?_
        rintro e w5 ⟨P5, c5, rfl, O5, hr5, _, ho5, hs5⟩
        have HO5 := Lib.hid ho5
        have LG := Lib.hid (show RKp w5 O5 P5 (rsM (dead M)) from hr5)
        have LR5 := Lib.hid (LR.out.step hs5)
        rw [show (List.map (fun m => (m.s, m.g)) (dead M)).length = (dead M).length from List.length_map ..]
        clear hr5 ho5 hs5 HPT LR
        rw [rsM_len]
        go_wp2_with fail
        have HC3 := Lib.hid (show CWf { c with L := live M } from by obtain ⟨_, _, _, _, h⟩ := HO5.out.ob; exact h.wf)
        have hlM : M.length ≤ 1024 := HC2.out.len
        have hdl := dl_len M
        refine (taken_any HO5.out.ob).mono ?_
        rintro e w6 ⟨P6, c6, rfl, hl6, _, hb6⟩
        have HO6 := Lib.hid (HO5.out.below hb6)
        have LG6 := Lib.hid (LG.out.below hb6)
        have LR6 := Lib.hid (LR5.out.below hb6)
        have LT := Lib.hid hl6
        rw [show (({ c with L := live M } : Ce).L.map tc).length = (live M).length from List.length_map ..]
        clear hl6 hb6
        go_wp2_with fail
        refine HO6.out.spans.mono ?_
        rintro e w7 ⟨P7, c7, rfl, hr7, ho7, hb7⟩
        have HO7 := Lib.hid ho7
        have LL := Lib.hid (show RKp w7 _ P7 (rsM (live M)) from hr7)
        have LG7 := Lib.hid (LG6.out.below hb7)
        have LR7 := Lib.hid (LR6.out.below hb7)
        have LT7 := Lib.hid (LT.out.below hb7)
        rw [show (runs (some { c with L := live M })).length = (live M).length from List.length_map ..]
        clear hr7 ho7 hb7 LT
        have HDM := Lib.hid (dN_le M)
        have HLP := Lib.hid (fun i m (h : (live M)[i]? = some m) => live_pos h)
        obtain ⟨nl, hnl⟩ : ∃ nl, (live M).length = nl := ⟨_, rfl⟩
        obtain ⟨nd, hnd⟩ : ∃ nd, (dead M).length = nd := ⟨_, rfl⟩
        obtain ⟨nm, hnm⟩ : ∃ nm, M.length = nm := ⟨_, rfl⟩
        have HNL := Lib.hid hnl
        have HND := Lib.hid hnd
        have HNM := Lib.hid hnm
        rw [hnl, hnd, hnm] at hdl
        rw [hnm] at hlM
        rw [hnl, hnd, hnm]
        clear hnl hnd hnm
        go_wp2_with fail
        go_loopw [13] (fun i wv => ∃ k : Nat, k ≤ nl ∧ i = .int .i64 k ∧ Below w7.heap.size w7 wv) (fun i _ => nl - (intOf i).toNat)
        case atStart => exact ⟨0, by omega, rfl, Below.refl _ _⟩
        case round =>
          obtain ⟨k, hk, rfl, hb⟩ := hrel
          have HB := Lib.hid hb
          by_cases hlt : k < nl
          · obtain ⟨m, hm⟩ : ∃ m, (live M)[k]? = some m := ⟨_, List.getElem?_eq_getElem (by have := HNL.out; omega)⟩
            obtain ⟨g, rfl, _, g1⟩ := (LT7.out.below hb) k (tc m) (by show ((live M).map tc)[k]? = _; rw [List.getElem?_map, hm]; rfl)
            have htc := HLP.out k m hm
            have h0 : ((tc m : Int) == 0) = false := by simp; omega
            clear hb hm
            generalize tc m = tm at *
            go_wp2_with fail
            go_roundw
            case rel => exact ⟨k + 1, by omega, by go_num, HB.out⟩
            case measure => simp [intOf]; omega
          · have HO8 := Lib.hid (HO7.out.below hb)
            have LG8 := Lib.hid (LG7.out.below hb)
            have LR8 := Lib.hid (LR7.out.below hb)
            have LL8 := Lib.hid (LL.out.below hb)
            have HSW := Lib.hid (HO8.out.sweep)
            rw [show swV (some { c with L := live M }) = [] from by show ((dead (live M)).map _) = []; rw [dead_live]; rfl] at HSW
            have hsum : ((nd : Int) + nl) = nm := by omega
            clear hb LT7
            go_wp2_with fail
            refine HSW.out.mono ?_
            rintro e w9 ⟨P9, c9, rfl, O9, _, _, ho9, hs9⟩
            have HO9 := Lib.hid ho9
            have LG9 := Lib.hid (LG8.out.step hs9)
            have LR9 := Lib.hid (LR8.out.step hs9)
            have LL9 := Lib.hid (LL8.out.step hs9)
            clear ho9 hs9 HSW
            go_wp2_with fail
            go_loopw [14, 15, 16] (fun a b i wv => ∃ j : Nat, j ≤ nm ∧ i = .int .i64 j ∧ a = .int .i64 (dN M j : Nat) ∧ b = .int .i64 (lN M j : Nat) ∧ Below w9.heap.size w9 wv) (fun _ _ i _ => nm - (intOf i).toNat)
            case atStart => exact ⟨0, by omega, rfl, rfl, rfl, Below.refl _ _⟩
            case round =>
              obtain ⟨j, hj, rfl, rfl, rfl, hb⟩ := hrel
              have HB := Lib.hid hb
              by_cases hlt2 : j < nm
              · obtain ⟨m, hm⟩ : ∃ m, M[j]? = some m := ⟨_, List.getElem?_eq_getElem (by have := HNM.out; omega)⟩
                obtain ⟨g4, rfl, _, k1, k2⟩ := (LR9.out.below hb).1 j m.s m.g (rsM_at hm)
                have HNX := Lib.hid (dN_next hm)
                have hle := HDM.out j
                rw [HND.out, HNL.out] at hle
                by_cases ht : tc m = 0
                · obtain ⟨g5, rfl, _, k3, k4⟩ := (LG9.out.below hb).1 (dN M j) m.s m.g (rsM_at (dead_at hm ht))
                  have hlt3 : dN M j < nd := by rw [← HND.out]; exact (List.getElem?_eq_some_iff.1 (dead_at hm ht)).1
                  rw [if_pos ht, if_pos ht, Nat.add_zero] at HNX
                  have heq := eq_run m.s m.g
                  have d1 : decide ((dN M j : Int) < (nd : Int)) = true := decide_eq_true (by omega)
                  clear hm ht hb
                  generalize dN M j = dj at *
                  generalize lN M j = lj at *
                  generalize m.s = sx at *
                  generalize m.g = gx at *
                  go_wp2_with fail
                  go_quiet (fail)
                  have HQ := Lib.hid (belowN HB.out nq)
                  go_wp2_with fail
                  go_roundw
                  case rel => exact ⟨j + 1, by omega, by go_num, by rw [HNX.out.1]; go_num, by rw [HNX.out.2]; rfl, HQ.out⟩
                  case measure => simp [intOf]; omega
                · obtain ⟨g6, rfl, _, k5, k6⟩ := (LL9.out.below hb).1 (lN M j) m.s m.g (rsM_at (live_at hm ht))
                  have hlt4 : lN M j < nl := by rw [← HNL.out]; exact (List.getElem?_eq_some_iff.1 (live_at hm ht)).1
                  rw [if_neg ht, if_neg ht, Nat.add_zero] at HNX
                  have heq := eq_run m.s m.g
                  have d2 : decide ((lN M j : Int) < (nl : Int)) = true := decide_eq_true (by omega)
                  have hk5 : ∀ n, (wr.drewN n).cell? ⟨g6, lN M j * 2, none⟩ = some (.int .i64 (m.s : Nat)) := fun n => k5
                  have hk6 : ∀ n, (wr.drewN n).cell? ⟨g6, lN M j * 2 + 1, none⟩ = some (.int .i64 (m.g : Nat)) := fun n => k6
                  have hk1 : ∀ n, (wr.drewN n).cell? ⟨g4, j * 2, none⟩ = some (.int .i64 (m.s : Nat)) := fun n => k1
                  have hk2 : ∀ n, (wr.drewN n).cell? ⟨g4, j * 2 + 1, none⟩ = some (.int .i64 (m.g : Nat)) := fun n => k2
                  by_cases hlt3 : dN M j < nd
                  · obtain ⟨y, hy⟩ : ∃ y, (dead M)[dN M j]? = some y := ⟨_, List.getElem?_eq_getElem (by rw [HND.out]; exact hlt3)⟩
                    have hne := dead_other (c := { c with L := M }) HC2.out hm ht hy
                    obtain ⟨g5, rfl, _, k3, k4⟩ := (LG9.out.below hb).1 (dN M j) y.s y.g (rsM_at hy)
                    have hno := eq_run_no (a := (y.s : Int)) (b := (y.g : Int)) (c := (m.s : Int)) (d := (m.g : Int)) (by omega)
                    have d1 : decide ((dN M j : Int) < (nd : Int)) = true := decide_eq_true (by omega)
                    clear hm ht hb hy hne
                    generalize dN M j = dj at *
                    generalize lN M j = lj at *
                    generalize m.s = sx at *
                    generalize m.g = gx at *
                    generalize y.s = sy at *
                    generalize y.g = gy at *
                    go_wp2_with fail
                    go_quiet (fail)
                    have HQ := Lib.hid (belowN HB.out nq)
                    have l1 := hk5 nq
                    have l2 := hk6 nq
                    have l3 := hk1 nq
                    have l4 := hk2 nq
                    clear k1 k2 k3 k4 k5 k6 hk1 hk2 hk5 hk6
                    generalize wr.drewN nq = wr2 at *
                    go_wp2_with fail
                    go_quiet (fail)
                    have HQ2 := Lib.hid (belowN HQ.out nq)
                    go_wp2_with fail
                    go_roundw
                    case rel => exact ⟨j + 1, by omega, by go_num, by rw [HNX.out.1]; rfl, by rw [HNX.out.2]; go_num, HQ2.out⟩
                    case measure => simp [intOf]; omega
                  · have d1 : decide ((dN M j : Int) < (nd : Int)) = false := decide_eq_false (by omega)
                    clear hm ht hb
                    generalize dN M j = dj at *
                    generalize lN M j = lj at *
                    generalize m.s = sx at *
                    generalize m.g = gx at *
                    go_wp2_with fail
                    go_quiet (fail)
                    have HQ := Lib.hid (belowN HB.out nq)
                    have l1 := hk5 nq
                    have l2 := hk6 nq
                    have l3 := hk1 nq
                    have l4 := hk2 nq
                    clear k1 k2 k5 k6 hk1 hk2 hk5 hk6
                    generalize wr.drewN nq = wr2 at *
                    go_wp2_with fail
                    go_quiet (fail)
                    have HQ2 := Lib.hid (belowN HQ.out nq)
                    go_wp2_with fail
                    go_roundw
                    case rel => exact ⟨j + 1, by omega, by go_num, by rw [HNX.out.1]; rfl, by rw [HNX.out.2]; go_num, HQ2.out⟩
                    case measure => simp [intOf]; omega
              · have HBF := Lib.hid (btr HB2.out (btr HO9.out.bel hb (Nat.le_refl _)) (Nat.le_refl _))
                clear hb
                generalize dN M j = dj at *
                generalize lN M j = lj at *
                go_wp2_with fail
                refine (HAL.out _).mono ?_
                rintro e w10 ⟨rfl, hb⟩
                have HF := Lib.hid (btr HBF.out hb (Nat.le_refl _))
                clear hb
                go_wp2_with fail
                go_ret
                exact ⟨rfl, HF.out⟩
      · have e1 := (ptEr_bad her).1
        have e2 := (ptEr_bad her).2
        obtain ⟨M, hM⟩ : ∃ M, c.L = M := ⟨_, rfl⟩
        have HC2 := Lib.hid (show CWf { c with L := M } from by rw [← hM]; exact HWF.out)
        have her2 : (ptEr (some c) zs == 0) = false := by simpa using her
        rw [e1, e2] at HPT
        rw [show runs (some c) = rsM M from by rw [← hM]; rfl] at LR ⊢
        clear her e1 e2
        generalize ptEr (some c) zs = er at *
        rw [rsM_len]
        go_wp2_with fail
        refine HPT.out.mono ?_
        rintro e w4' ⟨P4', c4', rfl, O4', _, _, ho4, hs4⟩
        have HO4 := Lib.hid ho4
        have LR4 := Lib.hid (LR.out.step hs4)
        have HSW0 := Lib.hid (ho4.sweep)
        rw [show swV (some c) = rsM (dead M) from by rw [← hM]; rfl, show swD (some c) = some { c with L := live M } from by rw [← hM]; rfl, rsM_len] at HSW0
        clear ho4 hs4 HPT LR
        clear hM
        go_wp2_with fail
        refine HSW0.out.mono ?_
        rintro e w5 ⟨P5, c5, rfl, O5, hr5, _, ho5, hs5⟩
        have HO5 := Lib.hid ho5
        have LG := Lib.hid (show RKp w5 O5 P5 (rsM (dead M)) from hr5)
        have LR5 := Lib.hid (LR4.out.step hs5)
        clear hr5 ho5 hs5 HSW0 LR4
        go_wp2_with fail
        have HC3 := Lib.hid (show CWf { c with L := live M } from by obtain ⟨_, _, _, _, h⟩ := HO5.out.ob; exact h.wf)
        have hlM : M.length ≤ 1024 := HC2.out.len
        have hdl := dl_len M
        refine (taken_any HO5.out.ob).mono ?_
        rintro e w6 ⟨P6, c6, rfl, hl6, _, hb6⟩
        have HO6 := Lib.hid (HO5.out.below hb6)
        have LG6 := Lib.hid (LG.out.below hb6)
        have LR6 := Lib.hid (LR5.out.below hb6)
        have LT := Lib.hid hl6
        rw [show (({ c with L := live M } : Ce).L.map tc).length = (live M).length from List.length_map ..]
        clear hl6 hb6
        go_wp2_with fail
        refine HO6.out.spans.mono ?_
        rintro e w7 ⟨P7, c7, rfl, hr7, ho7, hb7⟩
        have HO7 := Lib.hid ho7
        have LL := Lib.hid (show RKp w7 _ P7 (rsM (live M)) from hr7)
        have LG7 := Lib.hid (LG6.out.below hb7)
        have LR7 := Lib.hid (LR6.out.below hb7)
        have LT7 := Lib.hid (LT.out.below hb7)
        rw [show (runs (some { c with L := live M })).length = (live M).length from List.length_map ..]
        clear hr7 ho7 hb7 LT
        have HDM := Lib.hid (dN_le M)
        have HLP := Lib.hid (fun i m (h : (live M)[i]? = some m) => live_pos h)
        obtain ⟨nl, hnl⟩ : ∃ nl, (live M).length = nl := ⟨_, rfl⟩
        obtain ⟨nd, hnd⟩ : ∃ nd, (dead M).length = nd := ⟨_, rfl⟩
        obtain ⟨nm, hnm⟩ : ∃ nm, M.length = nm := ⟨_, rfl⟩
        have HNL := Lib.hid hnl
        have HND := Lib.hid hnd
        have HNM := Lib.hid hnm
        rw [hnl, hnd, hnm] at hdl
        rw [hnm] at hlM
        rw [hnl, hnd, hnm]
        clear hnl hnd hnm
        go_wp2_with fail
        go_loopw [13] (fun i wv => ∃ k : Nat, k ≤ nl ∧ i = .int .i64 k ∧ Below w7.heap.size w7 wv) (fun i _ => nl - (intOf i).toNat)
        case atStart => exact ⟨0, by omega, rfl, Below.refl _ _⟩
        case round =>
          obtain ⟨k, hk, rfl, hb⟩ := hrel
          have HB := Lib.hid hb
          by_cases hlt : k < nl
          · obtain ⟨m, hm⟩ : ∃ m, (live M)[k]? = some m := ⟨_, List.getElem?_eq_getElem (by have := HNL.out; omega)⟩
            obtain ⟨g, rfl, _, g1⟩ := (LT7.out.below hb) k (tc m) (by show ((live M).map tc)[k]? = _; rw [List.getElem?_map, hm]; rfl)
            have htc := HLP.out k m hm
            have h0 : ((tc m : Int) == 0) = false := by simp; omega
            clear hb hm
            generalize tc m = tm at *
            go_wp2_with fail
            go_roundw
            case rel => exact ⟨k + 1, by omega, by go_num, HB.out⟩
            case measure => simp [intOf]; omega
          · have HO8 := Lib.hid (HO7.out.below hb)
            have LG8 := Lib.hid (LG7.out.below hb)
            have LR8 := Lib.hid (LR7.out.below hb)
            have LL8 := Lib.hid (LL.out.below hb)
            have HSW := Lib.hid (HO8.out.sweep)
            rw [show swV (some { c with L := live M }) = [] from by show ((dead (live M)).map _) = []; rw [dead_live]; rfl] at HSW
            have hsum : ((nd : Int) + nl) = nm := by omega
            clear hb LT7
            go_wp2_with fail
            refine HSW.out.mono ?_
            rintro e w9 ⟨P9, c9, rfl, O9, _, _, ho9, hs9⟩
            have HO9 := Lib.hid ho9
            have LG9 := Lib.hid (LG8.out.step hs9)
            have LR9 := Lib.hid (LR8.out.step hs9)
            have LL9 := Lib.hid (LL8.out.step hs9)
            clear ho9 hs9 HSW
            go_wp2_with fail
            go_loopw [14, 15, 16] (fun a b i wv => ∃ j : Nat, j ≤ nm ∧ i = .int .i64 j ∧ a = .int .i64 (dN M j : Nat) ∧ b = .int .i64 (lN M j : Nat) ∧ Below w9.heap.size w9 wv) (fun _ _ i _ => nm - (intOf i).toNat)
            case atStart => exact ⟨0, by omega, rfl, rfl, rfl, Below.refl _ _⟩
            case round =>
              obtain ⟨j, hj, rfl, rfl, rfl, hb⟩ := hrel
              have HB := Lib.hid hb
              by_cases hlt2 : j < nm
              · obtain ⟨m, hm⟩ : ∃ m, M[j]? = some m := ⟨_, List.getElem?_eq_getElem (by have := HNM.out; omega)⟩
                obtain ⟨g4, rfl, _, k1, k2⟩ := (LR9.out.below hb).1 j m.s m.g (rsM_at hm)
                have HNX := Lib.hid (dN_next hm)
                have hle := HDM.out j
                rw [HND.out, HNL.out] at hle
                by_cases ht : tc m = 0
                · obtain ⟨g5, rfl, _, k3, k4⟩ := (LG9.out.below hb).1 (dN M j) m.s m.g (rsM_at (dead_at hm ht))
                  have hlt3 : dN M j < nd := by rw [← HND.out]; exact (List.getElem?_eq_some_iff.1 (dead_at hm ht)).1
                  rw [if_pos ht, if_pos ht, Nat.add_zero] at HNX
                  have heq := eq_run m.s m.g
                  have d1 : decide ((dN M j : Int) < (nd : Int)) = true := decide_eq_true (by omega)
                  clear hm ht hb
                  generalize dN M j = dj at *
                  generalize lN M j = lj at *
                  generalize m.s = sx at *
                  generalize m.g = gx at *
                  go_wp2_with fail
                  go_quiet (fail)
                  have HQ := Lib.hid (belowN HB.out nq)
                  go_wp2_with fail
                  go_roundw
                  case rel => exact ⟨j + 1, by omega, by go_num, by rw [HNX.out.1]; go_num, by rw [HNX.out.2]; rfl, HQ.out⟩
                  case measure => simp [intOf]; omega
                · obtain ⟨g6, rfl, _, k5, k6⟩ := (LL9.out.below hb).1 (lN M j) m.s m.g (rsM_at (live_at hm ht))
                  have hlt4 : lN M j < nl := by rw [← HNL.out]; exact (List.getElem?_eq_some_iff.1 (live_at hm ht)).1
                  rw [if_neg ht, if_neg ht, Nat.add_zero] at HNX
                  have heq := eq_run m.s m.g
                  have d2 : decide ((lN M j : Int) < (nl : Int)) = true := decide_eq_true (by omega)
                  have hk5 : ∀ n, (wr.drewN n).cell? ⟨g6, lN M j * 2, none⟩ = some (.int .i64 (m.s : Nat)) := fun n => k5
                  have hk6 : ∀ n, (wr.drewN n).cell? ⟨g6, lN M j * 2 + 1, none⟩ = some (.int .i64 (m.g : Nat)) := fun n => k6
                  have hk1 : ∀ n, (wr.drewN n).cell? ⟨g4, j * 2, none⟩ = some (.int .i64 (m.s : Nat)) := fun n => k1
                  have hk2 : ∀ n, (wr.drewN n).cell? ⟨g4, j * 2 + 1, none⟩ = some (.int .i64 (m.g : Nat)) := fun n => k2
                  by_cases hlt3 : dN M j < nd
                  · obtain ⟨y, hy⟩ : ∃ y, (dead M)[dN M j]? = some y := ⟨_, List.getElem?_eq_getElem (by rw [HND.out]; exact hlt3)⟩
                    have hne := dead_other (c := { c with L := M }) HC2.out hm ht hy
                    obtain ⟨g5, rfl, _, k3, k4⟩ := (LG9.out.below hb).1 (dN M j) y.s y.g (rsM_at hy)
                    have hno := eq_run_no (a := (y.s : Int)) (b := (y.g : Int)) (c := (m.s : Int)) (d := (m.g : Int)) (by omega)
                    have d1 : decide ((dN M j : Int) < (nd : Int)) = true := decide_eq_true (by omega)
                    clear hm ht hb hy hne
                    generalize dN M j = dj at *
                    generalize lN M j = lj at *
                    generalize m.s = sx at *
                    generalize m.g = gx at *
                    generalize y.s = sy at *
                    generalize y.g = gy at *
                    go_wp2_with fail
                    go_quiet (fail)
                    have HQ := Lib.hid (belowN HB.out nq)
                    have l1 := hk5 nq
                    have l2 := hk6 nq
                    have l3 := hk1 nq
                    have l4 := hk2 nq
                    clear k1 k2 k3 k4 k5 k6 hk1 hk2 hk5 hk6
                    generalize wr.drewN nq = wr2 at *
                    go_wp2_with fail
                    go_quiet (fail)
                    have HQ2 := Lib.hid (belowN HQ.out nq)
                    go_wp2_with fail
                    go_roundw
                    case rel => exact ⟨j + 1, by omega, by go_num, by rw [HNX.out.1]; rfl, by rw [HNX.out.2]; go_num, HQ2.out⟩
                    case measure => simp [intOf]; omega
                  · have d1 : decide ((dN M j : Int) < (nd : Int)) = false := decide_eq_false (by omega)
                    clear hm ht hb
                    generalize dN M j = dj at *
                    generalize lN M j = lj at *
                    generalize m.s = sx at *
                    generalize m.g = gx at *
                    go_wp2_with fail
                    go_quiet (fail)
                    have HQ := Lib.hid (belowN HB.out nq)
                    have l1 := hk5 nq
                    have l2 := hk6 nq
                    have l3 := hk1 nq
                    have l4 := hk2 nq
                    clear k1 k2 k5 k6 hk1 hk2 hk5 hk6
                    generalize wr.drewN nq = wr2 at *
                    go_wp2_with fail
                    go_quiet (fail)
                    have HQ2 := Lib.hid (belowN HQ.out nq)
                    go_wp2_with fail
                    go_roundw
                    case rel => exact ⟨j + 1, by omega, by go_num, by rw [HNX.out.1]; rfl, by rw [HNX.out.2]; go_num, HQ2.out⟩
                    case measure => simp [intOf]; omega
              · have HBF := Lib.hid (btr HB2.out (btr HO9.out.bel hb (Nat.le_refl _)) (Nat.le_refl _))
                clear hb
                generalize dN M j = dj at *
                generalize lN M j = lj at *
                go_wp2_with fail
                refine (HAL.out _).mono ?_
                rintro e w10 ⟨rfl, hb⟩
                have HF := Lib.hid (btr HBF.out hb (Nat.le_refl _))
                clear hb
                go_wp2_with fail
                go_ret
                exact ⟨rfl, HF.out⟩

end Go.Proofs.Ytjacbkaeploabaa
