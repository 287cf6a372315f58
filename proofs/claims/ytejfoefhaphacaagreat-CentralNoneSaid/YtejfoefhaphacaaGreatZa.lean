/- The document's span: made, At, Run, Right, Fits, New. -/
import Derived.Test.YtejfoefhaphacaaGreatLm
namespace Go.Proofs.YtejfoefhaphacaaGreat
open Go.RowKit Go.Shelf

set_option maxHeartbeats 400000 in
theorem rmade_any {O : Nat → Prop} {B A c : Nat} {m : Mo} {w : World} (h : SpA true w O B A c m) : Calls Tryz.prog 58 #[.pointer (some ⟨B, 0, none⟩)] w fun e w' => e = .returned (.bool true) ∧ w = w' := by
  have c4 : w.cell? ⟨B, 4, none⟩ = some (.slice (some ⟨A, 0, none⟩) m.n c) := h.cells.2.2.2.2
  have hn := h.wf.n1
  have hn2 := h.wf.n2
  clear h
  go_enter Tryz.func58, Tryz.ntmps58
  go_wp2
  go_ret
  exact ⟨ret_bool (by simp; omega), rfl⟩
set_option maxHeartbeats 400000 in
theorem rmade_no {O : Nat → Prop} {v : Value} {w : World} (h : NoS w O v) : Calls Tryz.prog 58 #[v] w fun e w' => e = .returned (.bool false) ∧ w = w' := by
  rcases h with rfl | ⟨B, rfl, _, hc⟩
  · go_enter Tryz.func58, Tryz.ntmps58
    go_wp2
    go_ret
    exact ⟨rfl, rfl⟩
  · go_enter Tryz.func58, Tryz.ntmps58
    go_wp2
    go_ret
    exact ⟨rfl, rfl⟩

set_option maxHeartbeats 400000 in
theorem at_any {O : Nat → Prop} {B A c : Nat} {m : Mo} {w : World} (h : SpA true w O B A c m) (i : Nat) (hi : i ≤ m.n) :
    Calls Tryz.prog 69 #[.pointer (some ⟨B, 0, none⟩), .int .i64 i] w fun e w' => e = .returned (.int .i64 (adr m i)) ∧ ∃ j, w' = w.drewN j := by
  obtain ⟨q1, q2, q3⟩ := adrW h.wf hi
  have HA := Lib.hid (adrI m i)
  have c0 : w.cell? ⟨B, 3, none⟩ = some (.int .i64 m.s) := h.cells.2.2.2.1
  have c1 : w.cell? ⟨B, 0, none⟩ = some (.int .i64 m.z) := h.cells.1
  clear h hi
  go_enter Tryz.func69, Tryz.ntmps69
  go_wp2
  go_quiet (fail)
  go_wp2
  go_ret
  exact ⟨ret_int HA.out, _, rfl⟩


set_option maxRecDepth 100000 in
set_option maxHeartbeats 1000000 in
theorem rRun_any {O : Nat → Prop} {v : Value} {om : Option Mo} {w : World} (h : Ob true w O v om) :
    Calls Tryz.prog 66 #[v] w fun e w' => e = .returned (runV om) ∧ Below w.heap.size w w' := by
  have hb := bnew w (.cells #[.int .i64 0, .int .i64 0] 55)
  replace h := h.below hb
  have HB := Lib.hid hb
  clear hb
  cases om with
  | none =>
    have HM := Lib.hid (rmade_no h.1)
    clear h
    go_enter Tryz.func66, Tryz.ntmps66
    go_wp2_with (go_at_call 58; refine HM.out.mono ?_; rintro e w1 ⟨rfl, rfl⟩)
    exact bodyPost_ret (v := .agg #[.int .i64 0, .int .i64 0]) (by simp [results, Tryz.results66, go_sem]) rfl ⟨rfl, bnew _ _⟩
  | some m =>
    obtain ⟨B, A, c, rfl, h⟩ := h
    have HM := Lib.hid (rmade_any h)
    obtain ⟨W0, hW⟩ : ∃ W0, W0 = w.alloc (.cells #[.int .i64 0, .int .i64 0] 55) := ⟨_, rfl⟩
    rw [← hW] at h
    have d3 : W0.cell? ⟨B, 3, none⟩ = some (.int .i64 m.s) := h.cells.2.2.2.1
    have d1 : W0.cell? ⟨B, 1, none⟩ = some (.int .i64 m.g) := h.cells.2.1
    rw [hW] at d3 d1
    clear h hW W0
    go_enter Tryz.func66, Tryz.ntmps66
    go_wp2_with (go_at_call 58; refine HM.out.mono ?_; rintro e w1 ⟨rfl, rfl⟩)
    go_region
    all_goals
      (try go_wp2)
      exact bodyPost_ret (v := .agg #[.int .i64 m.s, .int .i64 m.g]) (by simp [results, Tryz.results66, go_sem]) rfl ⟨rfl, by first | exact bnew _ _ | exact belowN (bnew _ _) _⟩

set_option maxRecDepth 100000 in
set_option maxHeartbeats 1000000 in
theorem Right_any (s p b : Int) (w : World) :
    Calls Tryz.prog 20 #[.agg #[.int .i64 s, .int .i64 p, .int .i64 b]] w fun e w' => e = .returned (.bool (okC ⟨s, p, b⟩)) ∧ Below w.heap.size w w' := by
  go_enter Tryz.func20, Tryz.ntmps20
  go_wp2
  all_goals
    go_ret
    refine ⟨ret_bool ?_, bnew _ _⟩
    unfold okC
    rw [Bool.eq_iff_iff]
    simp only [decide_eq_true_eq, Bool.false_eq_true, false_iff]
    omega

set_option maxRecDepth 100000 in
set_option maxHeartbeats 1000000 in
theorem Fits_any (st s p b : Int) (w : World) :
    Calls Tryz.prog 90 #[.int .i64 st, .agg #[.int .i64 s, .int .i64 p, .int .i64 b]] w fun e w' => e = .returned (.bool (fitB st ⟨s, p, b⟩)) ∧ Below w.heap.size w w' := by
  have HR := Lib.hid (Right_any s p b)
  obtain ⟨W0, hW, hB0, hsz, x0, x1, x2⟩ := new3 w (.int .i64 s) (.int .i64 p) (.int .i64 b) 23
  have HB0 := Lib.hid hB0
  have HX := Lib.hid (fun (w1 : World) (hb1 : Below W0.heap.size W0 w1) => (hb1.cell (p := ⟨w.heap.size, 1, none⟩) (Nat.lt_of_succ_le hsz)).trans x1)
  cases hok : okC ⟨s, p, b⟩ with
  | false =>
    rw [hok] at HR
    have HE := Lib.hid (show fitB st ⟨s, p, b⟩ = false by unfold fitB; rw [hok]; rfl)
    clear hB0 hsz hok
    go_enter Tryz.func90, Tryz.ntmps90
    go_wp2_with (go_at_call 20; refine (HR.out _).mono ?_; rintro e w1 ⟨rfl, hb1⟩; have HB1 := Lib.hid (HB0.out.trans (hb1.mono HB0.out.size)); have c1 := HX.out w1 hb1; clear hb1)
    go_ret
    exact ⟨ret_bool HE.out.symm, HB1.out⟩
  | true =>
    obtain ⟨a1, a2, a3, a4, a5, a6, a7, a8⟩ := okC_bd hok
    dsimp only at a4 a5
    rw [hok] at HR
    have HE := Lib.hid (show fitB st ⟨s, p, b⟩ = decide (0 ≤ st ∧ st ≤ 1024 - p) by unfold fitB; rw [hok, Bool.true_and])
    obtain ⟨d3, d4⟩ := w64 (1024 - p) (by omega)
    clear hB0 hsz hok a1 a2 a3 a6 a7 a8
    go_enter Tryz.func90, Tryz.ntmps90
    go_wp2_with (go_at_call 20; refine (HR.out _).mono ?_; rintro e w1 ⟨rfl, hb1⟩; have HB1 := Lib.hid (HB0.out.trans (hb1.mono HB0.out.size)); have c1 := HX.out w1 hb1; clear hb1)
    all_goals
      go_ret
      refine ⟨ret_bool ?_, HB1.out⟩
      rw [HE.out, Bool.eq_iff_iff]
      simp only [decide_eq_true_eq, Bool.false_eq_true, false_iff]
      omega

set_option maxRecDepth 100000 in
set_option maxHeartbeats 1000000 in
theorem rNew_any (st s p b : Int) (w : World) :
    Calls Tryz.prog 59 #[.int .i64 st, .agg #[.int .i64 s, .int .i64 p, .int .i64 b]] w (NewP true w (newO st ⟨s, p, b⟩) (newE st ⟨s, p, b⟩)) := by
  have HF := Lib.hid (Fits_any st s p b)
  cases hf : fitB st ⟨s, p, b⟩ with
  | true =>
    have hE : newE st ⟨s, p, b⟩ = 0 := if_pos hf
    have hO : newO st ⟨s, p, b⟩ = some (newM st ⟨s, p, b⟩) := if_pos hf
    rw [hE, hO]
    rw [hf] at HF
    have hwf := newM_wf hf
    obtain ⟨hok, f1, f2⟩ := fit_get hf
    obtain ⟨a1, a2, a3, a4, a5, a6, a7, a8⟩ := okC_bd hok
    dsimp only at f2 a1 a2 a3 a4 a5 a6 a7 a8
    have HO := Lib.hid (fun W => RObjects_any s p b W a4 a5 a1 a2)
    obtain ⟨S, rfl⟩ : ∃ S : Nat, st = (S : Int) := ⟨st.toNat, by omega⟩
    obtain ⟨Z, rfl⟩ : ∃ S : Nat, s = (S : Int) := ⟨s.toNat, by omega⟩
    obtain ⟨G, rfl⟩ : ∃ S : Nat, p = (S : Int) := ⟨p.toNat, by omega⟩
    obtain ⟨T, rfl⟩ : ∃ S : Nat, b = (S : Int) := ⟨b.toNat, by omega⟩
    have hn1 := hwf.n1
    have hn2 := hwf.n2
    have hme : newM (S : Int) ⟨Z, G, T⟩ = ⟨S, Z, G, T, G * 256 / Z, fun _ => false⟩ := rfl
    rw [hme] at hwf hn1 hn2 ⊢
    rw [show (G : Int) * 256 / Z = ((G * 256 / Z : Nat) : Int) from rfl] at HO
    dsimp only at hn1 hn2
    obtain ⟨n, hn⟩ : ∃ n, G * 256 / Z = n := ⟨_, rfl⟩
    rw [hn] at hn1 hn2 hwf HO ⊢
    obtain ⟨i, hi, hz0, hz1, hz2⟩ := info_parts info4
    have hmk := fun w => run_make (P := Tryz.prog) w 97 4 i (.bool false) Tryz.underlying97 hi hz0 .i64 .i64 n n (by omega) (Int.le_refl _) (by rw [hz2]; omega) (by omega)
    rw [hz1] at hmk
    simp only [Int.toNat_natCast, Value.cells, Nat.mul_one] at hmk
    have HN := Lib.hid (fun W0 W hb hW => new_sp true w W0 W ⟨S, Z, G, T, n, fun _ => false⟩ 4 99 (by decide) (by decide) hb hwf (fun _ => rfl) hW)
    obtain ⟨W0, hW, hB0, hsz, x0, x1, x2⟩ := new3 w (.int .i64 Z) (.int .i64 G) (.int .i64 T) 23
    have HB0 := Lib.hid hB0
    have HX := Lib.hid (fun (w1 : World) (hb1 : Below W0.heap.size W0 w1) => And.intro ((hb1.cell (p := ⟨w.heap.size, 0, none⟩) (Nat.lt_of_succ_le hsz)).trans x0) (And.intro ((hb1.cell (p := ⟨w.heap.size, 1, none⟩) (Nat.lt_of_succ_le hsz)).trans x1) ((hb1.cell (p := ⟨w.heap.size, 2, none⟩) (Nat.lt_of_succ_le hsz)).trans x2)))
    have HZ := Lib.hid hsz
    clear hwf hme hE hO hf hok hi hz0 hz1 hz2 hn a1 a2 a3 a4 a5 a6 a7 a8 f1 f2 hB0 hsz
    go_enter Tryz.func59, Tryz.ntmps59
    go_wp2_with (go_at_call 90; refine (HF.out _).mono ?_; rintro e w1 ⟨rfl, hb1⟩; have HB1 := Lib.hid (HB0.out.trans (hb1.mono HB0.out.size)); have HS1 := Lib.hid hb1.size; obtain ⟨c0, c1, c2⟩ := HX.out w1 hb1; clear hb1)
    have HK := Lib.hid (fun (w2 w3 : World) (hb : Below w1.heap.size w1 w2) (hb2 : Below w2.heap.size w2 w3) => hb.trans (hb2.mono hb.size))
    have HC := Lib.hid (fun (w2 : World) (hb : Below w1.heap.size w1 w2) => And.intro ((hb.cell (p := ⟨w.heap.size, 0, none⟩) (Nat.lt_of_lt_of_le (Nat.lt_of_succ_le HZ.out) HS1.out)).trans c0) (And.intro ((hb.cell (p := ⟨w.heap.size, 1, none⟩) (Nat.lt_of_lt_of_le (Nat.lt_of_succ_le HZ.out) HS1.out)).trans c1) ((hb.cell (p := ⟨w.heap.size, 2, none⟩) (Nat.lt_of_lt_of_le (Nat.lt_of_succ_le HZ.out) HS1.out)).trans c2)))
    go_region_held3 (fun w' => w'.cell? ⟨w.heap.size, 0, none⟩ = some (.int .i64 Z) ∧ w'.cell? ⟨w.heap.size, 1, none⟩ = some (.int .i64 G) ∧ w'.cell? ⟨w.heap.size, 2, none⟩ = some (.int .i64 T)) (first | exact ⟨c0, c1, c2⟩ | exact HC.out _ (belowN (Below.refl _ _) _) | exact HC.out _ (HK.out _ _ (belowN (Below.refl _ _) _) hb2) | exact HC.out _ (HK.out _ _ (belowN (Below.refl _ _) _) (hb2.alloc hb2.size _)) | exact HC.out _ (HK.out _ _ (belowN (Below.refl _ _) _) ((hb2.alloc hb2.size _).alloc (hb2.alloc hb2.size _).size _))) (first | (go_at_call 41; refine (HO.out _).mono ?_; rintro e w2 ⟨rfl, hb2⟩))
    go_wp2
    go_ret2
    exact ⟨_, rfl, ⟨_, _, _, by simp, (HN.out _ _ (HB1.out.trans ((belowN (Below.refl _ _) _ |>.trans hb2).mono HB1.out.size)) rfl).1⟩, (fun h => nomatch h), (HN.out _ _ (HB1.out.trans ((belowN (Below.refl _ _) _ |>.trans hb2).mono HB1.out.size)) rfl).2⟩
  | false =>
    have hf : ¬ fitB st ⟨s, p, b⟩ = true := by rw [hf]; exact Bool.noConfusion
    have hE : newE st ⟨s, p, b⟩ = 1 := if_neg hf
    have hO : newO st ⟨s, p, b⟩ = none := if_neg hf
    rw [hE, hO]
    clear hE hO
    rw [Bool.not_eq_true] at hf
    rw [hf] at HF
    clear hf
    go_enter Tryz.func59, Tryz.ntmps59
    go_wp2_with (go_at_call 90; refine (HF.out _).mono ?_; rintro e w1 ⟨rfl, hb1⟩; have HB1 := Lib.hid ((bnew w _).trans (hb1.mono (bnew w _).size)); clear hb1)
    go_ret2
    exact NewP.bad rfl HB1.out


end Go.Proofs.YtejfoefhaphacaaGreat
