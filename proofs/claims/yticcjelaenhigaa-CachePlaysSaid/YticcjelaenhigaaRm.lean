/- The document's cache: Scavenge. -/
import Derived.Test.YticcjelaenhigaaRl
namespace Go.Proofs.Yticcjelaenhigaa
open Go.RowKit Go.Lib

section
variable {w wr : World} {O O' : Nat → Prop} {B t l i j ct cl ci cj : Nat} {c : Tc} {f : Kl → List Int} {K' : List Kl} {D : List Nat} {V : Value} {X : List Bx} {V' : Nat → Value} {n : Nat} {k k1 : Kl}
theorem ScI.scL (h : ScI w wr O B t l i j ct cl ci cj c f (K'.set n (outK k (scavN k))) D V X O' V') (hk : K'[n]? = some k) (hw : KWf k) : ∃ V4, ScI w (wr.setCell ⟨i, n, Option.none⟩ (.int .i64 (scavL k : Nat))) O B t l i j ct cl ci cj c f (K'.set n { outK k (scavN k) with lim := scavL k }) D V X O' V4 := by
  have hl := (List.getElem?_eq_some_iff.1 hk).1
  have h2 : (K'.set n (outK k (scavN k)))[n]? = some (outK k (scavN k)) := by rw [List.getElem?_set_self hl]
  obtain ⟨V4, h4⟩ := h.limS h2 (scavL_bd hw).1 (scavL_bd hw).2
  rw [List.set_set] at h4
  exact ⟨V4, h4⟩
theorem ScI.scO (h : ScI w wr O B t l i j ct cl ci cj c f (K'.set n k1) D V X O' V') (hk : K'[n]? = some k) {q : Nat} (hq : q ≤ k1.l.length) (e : ({ k1 with lo := q } : Kl) = scavK k) : ∃ V4, ScI w (wr.setCell ⟨j, n, Option.none⟩ (.int .i64 (q : Nat))) O B t l i j ct cl ci cj c f (K'.set n (scavK k)) D V X O' V4 := by
  have hl := (List.getElem?_eq_some_iff.1 hk).1
  have h2 : (K'.set n k1)[n]? = some k1 := by rw [List.getElem?_set_self hl]
  obtain ⟨V4, h4⟩ := h.lowS h2 hq
  rw [List.set_set, e] at h4
  exact ⟨V4, h4⟩
end

set_option linter.unusedSimpArgs false in
set_option maxRecDepth 100000 in
set_option maxHeartbeats 8000000 in
theorem dScavenge_any {O : Nat → Prop} {v : Value} {om : Option Tc} {w : World} (h : TOb true w O v om) : Calls Try.prog 48 #[v] w (RmsP true w O v scavV scavK om) := by
  cases om with
  | none =>
    obtain rfl := dno h
    have HM := Lib.hid (dmade_no w)
    have HP := Lib.hid (rms_no (f := scavV) (g := scavK) h (Below.refl _ _))
    clear h
    go_enter Try.func48, Try.ntmps48
    go_wp2_with (go_at_call 43; refine HM.out.mono ?_; rintro e w1 ⟨rfl, rfl⟩)
    go_ret
    exact HP.out
  | some c =>
    obtain ⟨i0, hi, hz0, hz1, hz2⟩ := info_parts infoBt
    obtain ⟨B, t, l, i, j, ct, cl, ci, cj, V, rfl, h⟩ := h
    have HM := Lib.hid (dmade_yes h)
    have H0 := Lib.hid (show ScI w w O B t l i j ct cl ci cj c scavV (onK scavK (List.range 0) c.K) (List.range 0) (.slice none 0 0) [] O V from
      ⟨by rw [show List.range 0 = [] from rfl, onK_nil]; exact h, fun q hq => .inl hq, Keep.refl _ _, World.ownsRow_nil _ _ _ _, rfl, fun x hx => (by cases hx), fun q hq => (by cases hq)⟩)
    obtain ⟨N, hN⟩ : ∃ N, c.K.length = N := ⟨_, rfl⟩
    have HN := Lib.hid hN
    have hN40 : N ≤ 40 := by rw [← hN]; exact h.wf.n40
    have HKW := Lib.hid h.wf.k
    have NE := Lib.hid (show i ≠ B ∧ i ≠ t ∧ j ≠ B ∧ j ≠ l from ⟨h.ne.2.2.1, fun e => h.ne.2.2.2.2.2.1 e.symm, h.ne.2.2.2.1, fun e => h.ne.2.2.2.2.2.2.2.2.1 e.symm⟩)
    clear h hN
    go_enter Try.func48, Try.ntmps48
    go_wp2_with (go_at_call 43; refine HM.out.mono ?_; rintro e w1 ⟨rfl, rfl⟩)
    go_loopw [3, 4] (fun va iv wr => ∃ (n : Nat) (X : List Bx) (O' : Nat → Prop) (V' : Nat → Value), n ≤ N ∧ iv = .int .i64 n ∧ ScI w wr O B t l i j ct cl ci cj c scavV (onK scavK (List.range n) c.K) (List.range n) va X O' V') (fun _ iv _ => N - (intOf iv).toNat)
    case atStart => exact ⟨0, _, _, _, Nat.zero_le _, rfl, H0.out⟩
    case round =>
      clear H0
      obtain ⟨n, X, O', V', hn, rfl, hS⟩ := hrel
      have HS := Lib.hid hS
      obtain ⟨A, cc, rfl⟩ := owns_form hS.row
      have h40 := hS.len (by omega)
      obtain ⟨p, hp⟩ : ∃ p, X.length = p := ⟨_, rfl⟩
      have HPP := Lib.hid hp
      have c00 := hS.rc.cells.1
      rw [show ({ c with K := onK scavK (List.range n) c.K } : Tc).K.length = N from by rw [← HN.out]; exact onK_len _ _ _] at c00
      rw [hp] at h40 ⊢
      by_cases hlt : n < N
      · obtain ⟨k, hk⟩ : ∃ k, c.K[n]? = some k := ⟨_, List.getElem?_eq_getElem (by have := HN.out; omega)⟩
        have hkh := onK_here (g := scavK) hk
        have hlN : (onK scavK (List.range n) c.K).length = N := by rw [onK_len]; exact HN.out
        have HKH := Lib.hid (And.intro hk (And.intro hkh hlN))
        obtain ⟨_, _, _, c4, _, _, _, c8, _⟩ := hS.cls (N := N) hlN hkh
        have hkw := HKW.out k (List.mem_of_getElem? hk)
        have HW := Lib.hid hkw
        have hle := scavN_le hkw
        have HO := Lib.hid (doldest_any hS.rc hkh (Nat.min_eq_left hle))
        have hm256 := hkw.len
        have hm128 := hkw.m128
        have hb32 := hkw.b32
        have hlow := hkw.low
        obtain ⟨m, hm⟩ : ∃ m, scavN k = m := ⟨_, rfl⟩
        have HMM := Lib.hid hm
        have hm2 : (k.lo + 1) / 2 = m := hm
        obtain ⟨L, hL⟩ : ∃ L, k.l.length = L := ⟨_, rfl⟩
        obtain ⟨lo, hlo⟩ : ∃ lo, k.lo = lo := ⟨_, rfl⟩
        obtain ⟨lm, hlm⟩ : ∃ lm, k.lim = lm := ⟨_, rfl⟩
        obtain ⟨bb, hbb⟩ : ∃ bb, k.b = bb := ⟨_, rfl⟩
        have HLT := Lib.hid (And.intro hL (And.intro hlm hbb))
        rw [hm] at HO hle
        rw [hlo] at c8 hm2 hlow
        rw [hL] at hm256 hlow hle
        rw [hlm] at hm128
        rw [hbb] at hb32
        obtain ⟨q, hq⟩ : ∃ q, L - m = q := ⟨_, rfl⟩
        have HQQ := Lib.hid (And.intro hq hle)
        have HCL := Lib.hid (fun (wq : World) (D2 : List Nat) (V2 : Value) (X2 : List Bx) (O3 : Nat → Prop) (V3 : Nat → Value) (lm2 lo2 : Nat) (hs : ScI w wq O B t l i j ct cl ci cj c scavV ((onK scavK (List.range n) c.K).set n { outK k (scavN k) with lim := lm2, lo := lo2 }) D2 V2 X2 O3 V3) => show wq.cell? ⟨B, 0, none⟩ = some (.slice (some ⟨t, 0, none⟩) N ct) ∧ wq.cell? ⟨B, 2, none⟩ = some (.slice (some ⟨l, 0, none⟩) N cl) ∧ wq.cell? ⟨B, 3, none⟩ = some (.slice (some ⟨i, 0, none⟩) N ci) ∧ wq.cell? ⟨B, 4, none⟩ = some (.slice (some ⟨j, 0, none⟩) N cj) ∧ (∃ A cp, wq.cell? ⟨l, n, none⟩ = some (.slice A q cp)) ∧ wq.cell? ⟨i, n, none⟩ = some (.int .i64 (lm2 : Nat)) ∧ wq.cell? ⟨t, n * 3 + 2, none⟩ = some (.int .i64 (bb : Nat)) ∧ wq.cell? ⟨j, n, none⟩ = some (.int .i64 (lo2 : Nat)) ∧ wq.frozen? ⟨i, n, none⟩ = false ∧ wq.frozen? ⟨j, n, none⟩ = false from by
          have h1 := hs.cls (N := N) (n := n) (by rw [List.length_set]; exact hlN) (List.getElem?_set_self (by omega))
          have e1 : ({ outK k (scavN k) with lim := lm2, lo := lo2 } : Kl).l.length = q := by show (k.l.drop (scavN k)).length = q; rw [List.length_drop, hL, hm]; exact hq
          rw [e1] at h1
          rw [← hbb]
          exact h1)
        have HSL := Lib.hid (show scavL k = if bb < lm then max (lm - bb) bb else lm from by unfold scavL; rw [hlm, hbb])
        have HAR := Lib.hid (show wrap64 ((lo : Int) + 1) = (lo : Int) + 1 ∧ IntKind.i64.wrap ((lo : Int) + 1) = (lo : Int) + 1 ∧ ((lo : Int) + 1).tdiv 2 = (m : Int) ∧ ((lo : Int) + 1) / 2 = (m : Int) ∧ wrap64 (m : Int) = m ∧ IntKind.i64.wrap (m : Int) = m from
          ⟨(w64 _ (by omega)).1, (w64 _ (by omega)).2, by rw [Int.tdiv_eq_ediv_of_nonneg (by omega)]; omega, by omega, (w64 _ (by omega)).1, (w64 _ (by omega)).2⟩)
        have HLO := Lib.hid (show outK k (scavN k) = { outK k (scavN k) with lim := lm, lo := min lo q } from by
          unfold outK
          rw [hm]
          rw [show k.l.length - m = q from by rw [hL]; exact hq, hlo, hlm])
        have hn2 : (n : Int) < (N : Int) := by omega
        have hn0 : (0 : Int) ≤ (n : Int) := by omega
        have hmL : m ≤ 256 := by omega
        clear hS hk hkh hlN hm hp hkw hm2 hL hlo hlm hbb hq hle hlow
        rcases Nat.eq_zero_or_pos m with hm0 | hm0
        · subst hm0
          obtain ⟨a1, a2, a3, a4, a5, a6⟩ := HAR.out
          go_wp2_with (go_at_call 70; refine HO.out.mono ?_; rintro e w2 ⟨A2, c9, rfl, hrest⟩; obtain ⟨O3, V3, hs3, _⟩ := HS.out.old ⟨A2, c9, rfl, hrest⟩; have HS4 := Lib.hid (hs3.none HKH.out.1 (List.length_eq_zero_iff.1 ((scavV_len HW.out).trans HMM.out))); clear hs3 hrest)
          clear a1 a2 a3 a4 a5 a6 c00 c4 c8
          have h4 := HS4.out
          rw [← HMM.out, HLO.out] at h4
          obtain ⟨y0, _, y3, _, _, y5, y6, _, _, _⟩ := HCL.out _ _ _ _ _ _ _ _ h4
          have HS5 := Lib.hid h4
          clear h4
          rcases Nat.lt_or_ge bb lm with hbl | hbl
          · have d1 : decide ((bb : Int) < (lm : Int)) = true := decide_eq_true (by omega)
            have d2 : decide (bb < lm) = true := decide_eq_true hbl
            have d3 : decide ((lm : Int) > (bb : Int)) = true := decide_eq_true (by omega)
            obtain ⟨dd, hdd⟩ : ∃ dd, lm - bb = dd := ⟨_, rfl⟩
            obtain ⟨r, hr⟩ : ∃ r, max dd bb = r := ⟨_, rfl⟩
            have HR := Lib.hid (show scavL k = r from by rw [HSL.out, if_pos hbl, hdd]; exact hr)
            have f1 : (lm : Int) - (bb : Int) = (dd : Int) := by omega
            have WE := Lib.hid (w64 (dd : Int) (by omega))
            have HRC := Lib.hid (And.intro hr (show dd ≤ 128 from by omega))
            clear hbl hdd hr
            go_quiet (fail)
            go_wp2
            obtain ⟨wb, hwb⟩ : ∃ wb, wb = w2.drewN nq := ⟨_, rfl⟩
            have hs6 := HS5.out.below (w3 := wb) (by rw [hwb]; exact belowN (Below.refl _ _) nq)
            obtain ⟨z0, z2, z3, z4, ⟨A8, cp8, z7⟩, z5, z6, z8, zf5, zf8⟩ := HCL.out _ _ _ _ _ _ _ _ hs6
            have HS6 := Lib.hid hs6
            rw [← hwb]
            clear hwb hs6 y0 y3 y5 y6 d1 d2 d3
            rcases Nat.lt_or_ge dd bb with hdb | hdb
            all_goals
              obtain ⟨hr, _⟩ := HRC.out
              have hmx : max (dd : Int) (bb : Int) = (r : Int) := by omega
              clear hr
              have HKS := Lib.hid (fun v => show (wb.setCell ⟨i, n, none⟩ v).cell? ⟨B, 0, none⟩ = some (.slice (some ⟨t, 0, none⟩) N ct) ∧ (wb.setCell ⟨i, n, none⟩ v).cell? ⟨B, 3, none⟩ = some (.slice (some ⟨i, 0, none⟩) N ci) ∧ (wb.setCell ⟨i, n, none⟩ v).cell? ⟨t, n * 3 + 2, none⟩ = some (.int .i64 bb) from
                ⟨(World.cell?_setCell_other wb _ _ _ (fun e => NE.out.1 (by injection e))).trans z0, (World.cell?_setCell_other wb _ _ _ (fun e => NE.out.1 (by injection e))).trans z3, (World.cell?_setCell_other wb _ _ _ (fun e => NE.out.2.1 (by injection e))).trans z6⟩)
              obtain ⟨we1, we2⟩ := WE.out
              refine wp_region_noPanic ?_
              refine wp_region_held_drew (S := fun w' => w'.cell? ⟨B, 0, none⟩ = some (.slice (some ⟨t, 0, none⟩) N ct) ∧ w'.cell? ⟨B, 3, none⟩ = some (.slice (some ⟨i, 0, none⟩) N ci) ∧ w'.cell? ⟨t, n * 3 + 2, none⟩ = some (.int .i64 bb)) (by kernel_rfl) ?_ ?_
              · first | exact ⟨z0, z3, z6⟩ | exact HKS.out _
              intro hHeld
              refine wpAnyH_take (i := 0) (v := ?_) rfl (by kernel_rfl) (by kernel_rfl) (by kernel_rfl) (fun _ _ _ h => h) (Or.inl ⟨by rfl, ?_⟩) (by assumption) ?_
              rotate_left
              · (intro W hSW; (try dsimp only at hSW); go_simp; try with_reducible rfl)
              (try simp only [Act.put, List.setIfInBounds_toArray, List.set_cons_zero, List.set_cons_succ])
              refine wpAnyH_take (i := 1) (v := ?_) rfl (by kernel_rfl) (by kernel_rfl) (by kernel_rfl) (fun _ _ _ h => h) (Or.inl ⟨by rfl, ?_⟩) (by assumption) ?_
              rotate_left
              · (intro W hSW; (try dsimp only at hSW); go_simp; try with_reducible rfl)
              (try simp only [Act.put, List.setIfInBounds_toArray, List.set_cons_zero, List.set_cons_succ])
              refine wpAnyH_take (i := 2) (v := ?_) rfl (by kernel_rfl) (by kernel_rfl) (by kernel_rfl) (fun _ _ _ h => h) (Or.inl ⟨by rfl, ?_⟩) (by assumption) ?_
              rotate_left
              · (intro W hSW; (try dsimp only at hSW); go_simp; try with_reducible rfl)
              (try simp only [Act.put, List.setIfInBounds_toArray, List.set_cons_zero, List.set_cons_succ])
              refine wpAnyH_take (i := 3) (v := ?_) rfl (by kernel_rfl) (by kernel_rfl) (by kernel_rfl) (fun _ _ _ h => h) (Or.inl ⟨by rfl, ?_⟩) (by assumption) ?_
              rotate_left
              · (intro W hSW; (try dsimp only at hSW); go_simp; try with_reducible rfl)
              (try simp only [Act.put, List.setIfInBounds_toArray, List.set_cons_zero, List.set_cons_succ])
              refine wpAnyH_take (i := 4) (v := ?_) rfl (by kernel_rfl) (by kernel_rfl) (by kernel_rfl) (fun _ _ _ h => h) (Or.inl ⟨by rfl, ?_⟩) (by assumption) ?_
              rotate_left
              · (intro W hSW; (try dsimp only at hSW); go_simp; try with_reducible rfl)
              (try simp only [Act.put, List.setIfInBounds_toArray, List.set_cons_zero, List.set_cons_succ])
              refine wpAnyH_take (i := 5) (v := ?_) rfl (by kernel_rfl) (by kernel_rfl) (by kernel_rfl) (fun _ _ _ h => h) (Or.inl ⟨by rfl, ?_⟩) (by assumption) ?_
              rotate_left
              · (intro W hSW; (try dsimp only at hSW); go_simp; try with_reducible rfl)
              (try simp only [Act.put, List.setIfInBounds_toArray, List.set_cons_zero, List.set_cons_succ])
              refine wpAnyH_take (i := 6) (v := ?_) rfl (by kernel_rfl) (by kernel_rfl) (by kernel_rfl) (fun _ _ _ h => h) (Or.inl ⟨by rfl, ?_⟩) (by assumption) ?_
              rotate_left
              · (intro W hSW; (try dsimp only at hSW); go_simp; try with_reducible rfl)
              (try simp only [Act.put, List.setIfInBounds_toArray, List.set_cons_zero, List.set_cons_succ])
              refine wpAnyH_take (i := 7) (v := ?_) rfl (by kernel_rfl) (by kernel_rfl) (by kernel_rfl) (fun _ _ _ h => h) (Or.inl ⟨by rfl, ?_⟩) (by assumption) ?_
              rotate_left
              · (intro W hSW; (try dsimp only at hSW); go_simp; try with_reducible rfl)
              (try simp only [Act.put, List.setIfInBounds_toArray, List.set_cons_zero, List.set_cons_succ])
              refine wpAnyH_take (i := 8) (v := ?_) rfl (by kernel_rfl) (by kernel_rfl) (by kernel_rfl) (fun _ _ _ h => h) (Or.inl ⟨by rfl, ?_⟩) (by assumption) ?_
              rotate_left
              · (intro W hSW; (try dsimp only at hSW); go_simp; try with_reducible rfl)
              (try simp only [Act.put, List.setIfInBounds_toArray, List.set_cons_zero, List.set_cons_succ])
              refine wpAnyH_take (i := 9) (v := ?_) rfl (by kernel_rfl) (by kernel_rfl) (by kernel_rfl) (fun _ _ _ h => h) (Or.inl ⟨by rfl, ?_⟩) (by assumption) ?_
              rotate_left
              · (intro W hSW; (try dsimp only at hSW); go_simp; try with_reducible rfl)
              (try simp only [Act.put, List.setIfInBounds_toArray, List.set_cons_zero, List.set_cons_succ])
              refine wpAnyH_take (i := 10) (v := ?_) rfl (by kernel_rfl) (by kernel_rfl) (by kernel_rfl) (fun _ _ _ h => h) (Or.inl ⟨by rfl, ?_⟩) (by assumption) ?_
              rotate_left
              · (intro W hSW; (try dsimp only at hSW); go_simp; try with_reducible rfl)
              (try simp only [Act.put, List.setIfInBounds_toArray, List.set_cons_zero, List.set_cons_succ])
              refine wpAnyH_take (i := 12) (v := ?_) rfl (by kernel_rfl) (by kernel_rfl) (by kernel_rfl) (fun _ _ _ h => h) (Or.inl ⟨by rfl, ?_⟩) (by assumption) ?_
              rotate_left
              · (intro W hSW; (try dsimp only at hSW); go_simp; try with_reducible rfl)
              (try simp only [Act.put, List.setIfInBounds_toArray, List.set_cons_zero, List.set_cons_succ])
              refine wpAnyH_take (i := 13) (v := ?_) rfl (by kernel_rfl) (by kernel_rfl) (by kernel_rfl) (fun _ _ _ h => h) (Or.inl ⟨by rfl, ?_⟩) (by assumption) ?_
              rotate_left
              · (intro W hSW; (try dsimp only at hSW); go_simp; try with_reducible rfl)
              (try simp only [Act.put, List.setIfInBounds_toArray, List.set_cons_zero, List.set_cons_succ])
              refine wpAnyH_take (i := 14) (v := ?_) rfl (by kernel_rfl) (by kernel_rfl) (by kernel_rfl) (fun _ _ _ h => h) (Or.inl ⟨by rfl, ?_⟩) (by assumption) ?_
              rotate_left
              · (intro W hSW; (try dsimp only at hSW); go_simp; try with_reducible rfl)
              (try simp only [Act.put, List.setIfInBounds_toArray, List.set_cons_zero, List.set_cons_succ])
              refine wpAnyH_take (i := 15) (v := ?_) rfl (by kernel_rfl) (by kernel_rfl) (by kernel_rfl) (fun _ _ _ h => h) (Or.inl ⟨by rfl, ?_⟩) (by assumption) ?_
              rotate_left
              · (intro W hSW; (try dsimp only at hSW); go_simp; try with_reducible rfl)
              (try simp only [Act.put, List.setIfInBounds_toArray, List.set_cons_zero, List.set_cons_succ])
              refine wpAnyH_take (i := 16) (v := ?_) rfl (by kernel_rfl) (by kernel_rfl) (by kernel_rfl) (fun _ _ _ h => h) (Or.inl ⟨by rfl, ?_⟩) (by assumption) ?_
              rotate_left
              · (intro W hSW; (try dsimp only at hSW); go_simp; try with_reducible rfl)
              (try simp only [Act.put, List.setIfInBounds_toArray, List.set_cons_zero, List.set_cons_succ])
              refine wpAnyH_take (i := 17) (v := ?_) rfl (by kernel_rfl) (by kernel_rfl) (by kernel_rfl) (fun _ _ _ h => h) (Or.inl ⟨by rfl, ?_⟩) (by assumption) ?_
              rotate_left
              · (intro W hSW; (try dsimp only at hSW); go_simp; try with_reducible rfl)
              (try simp only [Act.put, List.setIfInBounds_toArray, List.set_cons_zero, List.set_cons_succ])
              refine wpAnyH_take (i := 18) (v := ?_) rfl (by kernel_rfl) (by kernel_rfl) (by kernel_rfl) (fun _ _ _ h => h) (Or.inl ⟨by rfl, ?_⟩) (by assumption) ?_
              rotate_left
              · (intro W hSW; (try dsimp only at hSW); go_simp; try with_reducible rfl)
              (try simp only [Act.put, List.setIfInBounds_toArray, List.set_cons_zero, List.set_cons_succ])
              refine wpAnyH_take (i := 19) (v := ?_) rfl (by kernel_rfl) (by kernel_rfl) (by kernel_rfl) (fun _ _ _ h => h) (Or.inl ⟨by rfl, ?_⟩) (by assumption) ?_
              rotate_left
              · (intro W hSW; (try dsimp only at hSW); go_simp; try with_reducible rfl)
              (try simp only [Act.put, List.setIfInBounds_toArray, List.set_cons_zero, List.set_cons_succ])
              refine wpAnyH_take (i := 21) (v := ?_) rfl (by kernel_rfl) (by kernel_rfl) (by kernel_rfl) (fun _ _ _ h => h) (Or.inl ⟨by rfl, ?_⟩) (by assumption) ?_
              rotate_left
              · (intro W hSW; (try dsimp only at hSW); go_simp; try with_reducible rfl)
              (try simp only [Act.put, List.setIfInBounds_toArray, List.set_cons_zero, List.set_cons_succ])
              refine wpAnyH_take (i := 22) (v := ?_) rfl (by kernel_rfl) (by kernel_rfl) (by kernel_rfl) (fun _ _ _ h => h) (Or.inl ⟨by rfl, ?_⟩) (by assumption) ?_
              rotate_left
              · (intro W hSW; (try dsimp only at hSW); go_simp; try with_reducible rfl)
              (try simp only [Act.put, List.setIfInBounds_toArray, List.set_cons_zero, List.set_cons_succ])
              refine wpAnyH_take (i := 23) (v := ?_) rfl (by kernel_rfl) (by kernel_rfl) (by kernel_rfl) (fun _ _ _ h => h) (Or.inl ⟨by rfl, ?_⟩) (by assumption) ?_
              rotate_left
              · (intro W hSW; (try dsimp only at hSW); go_simp; try with_reducible rfl)
              (try simp only [Act.put, List.setIfInBounds_toArray, List.set_cons_zero, List.set_cons_succ])
              refine wpAnyH_take (i := 24) (v := ?_) rfl (by kernel_rfl) (by kernel_rfl) (by kernel_rfl) (fun _ _ _ h => h) (Or.inl ⟨by rfl, ?_⟩) (by assumption) ?_
              rotate_left
              · (intro W hSW; (try dsimp only at hSW); go_simp; try with_reducible rfl)
              (try simp only [Act.put, List.setIfInBounds_toArray, List.set_cons_zero, List.set_cons_succ])
              refine wpAnyH_take (i := 25) (v := ?_) rfl (by kernel_rfl) (by kernel_rfl) (by kernel_rfl) (fun _ _ _ h => h) (Or.inl ⟨by rfl, ?_⟩) (by assumption) ?_
              rotate_left
              · (intro W hSW; (try dsimp only at hSW); go_simp; try with_reducible rfl)
              (try simp only [Act.put, List.setIfInBounds_toArray, List.set_cons_zero, List.set_cons_succ])
              refine wpAnyH_take (i := 26) (v := ?_) rfl (by kernel_rfl) (by kernel_rfl) (by kernel_rfl) (fun _ _ _ h => h) (Or.inl ⟨by rfl, ?_⟩) (by assumption) ?_
              rotate_left
              · (intro W hSW; (try dsimp only at hSW); go_simp; try with_reducible rfl)
              (try simp only [Act.put, List.setIfInBounds_toArray, List.set_cons_zero, List.set_cons_succ])
              refine wpAnyH_take (i := 27) (v := ?_) rfl (by kernel_rfl) (by kernel_rfl) (by kernel_rfl) (fun _ _ _ h => h) (Or.inl ⟨by rfl, ?_⟩) (by assumption) ?_
              rotate_left
              · (intro W hSW; (try dsimp only at hSW); go_simp; try with_reducible rfl)
              (try simp only [Act.put, List.setIfInBounds_toArray, List.set_cons_zero, List.set_cons_succ])
              refine wpAnyH_take (i := 28) (v := ?_) rfl (by kernel_rfl) (by kernel_rfl) (by kernel_rfl) (fun _ _ _ h => h) (Or.inl ⟨by rfl, ?_⟩) (by assumption) ?_
              rotate_left
              · (intro W hSW; (try dsimp only at hSW); go_simp; try with_reducible rfl)
              (try simp only [Act.put, List.setIfInBounds_toArray, List.set_cons_zero, List.set_cons_succ])
              refine wpAnyH_ready (rs := [11]) (by kernel_rfl) (by simp) ?_
              refine AllReadyH.cons rfl (fun K hK => ?_) ?_
              · go_simp
                refine hK.out _ _ ?_ ?_
                · ((try dsimp only); first | exact ⟨z0, z3, z6⟩ | exact HKS.out _)
                clear hK K hHeld
                intro hHeld
                (try simp only [Act.put, List.setIfInBounds_toArray, List.set_cons_zero, List.set_cons_succ])
                refine wpAnyH_take (i := 20) (v := ?_) rfl (by kernel_rfl) (by kernel_rfl) (by kernel_rfl) (fun _ _ _ h => h) (Or.inl ⟨by rfl, ?_⟩) (by assumption) ?_
                rotate_left
                · (intro W hSW; (try dsimp only at hSW); go_simp; try with_reducible rfl)
                (try simp only [Act.put, List.setIfInBounds_toArray, List.set_cons_zero, List.set_cons_succ])
                refine wpAnyH_ready (rs := [29]) (by kernel_rfl) (by simp) ?_
                refine AllReadyH.cons rfl (fun K hK => ?_) ?_
                · go_simp
                  refine hK.out _ _ ?_ ?_
                  · ((try dsimp only); first | exact ⟨z0, z3, z6⟩ | exact HKS.out _)
                  clear hK K hHeld
                  intro hHeld
                  (try simp only [Act.put, List.setIfInBounds_toArray, List.set_cons_zero, List.set_cons_succ])
                  refine wpAnyH_take (i := 30) (v := ?_) rfl (by kernel_rfl) (by kernel_rfl) (by kernel_rfl) (fun _ _ _ h => h) (Or.inl ⟨by rfl, ?_⟩) (by assumption) ?_
                  rotate_left
                  · (intro W hSW; (try dsimp only at hSW); go_simp; try with_reducible rfl)
                  (try simp only [Act.put, List.setIfInBounds_toArray, List.set_cons_zero, List.set_cons_succ])
                  refine wpAnyH_ready (rs := [31]) (by kernel_rfl) (by simp) ?_
                  refine AllReadyH.cons rfl (fun K hK => ?_) ?_
                  · go_simp
                    refine hK.out _ _ ?_ ?_
                    · ((try dsimp only); first | exact ⟨z0, z3, z6⟩ | exact HKS.out _)
                    clear hK K hHeld
                    intro hHeld
                    (try simp only [Act.put, List.setIfInBounds_toArray, List.set_cons_zero, List.set_cons_succ])
                    refine wpAnyH_done (by kernel_rfl) ?_ _
                    refine NoPanic.normal ?_
                    clear hHeld
                    go_wp2
                    clear we1 we2
                    have hs7 := HS6.out
                    rw [← HLO.out] at hs7
                    obtain ⟨V7, hs7⟩ := hs7.scL HKH.out.2.1 HW.out
                    rw [HR.out] at hs7
                    have HMX := Lib.hid hmx
                    try rw [show ((dd : Nat) : Int) = (r : Int) from by have := HMX.out; omega]
                    try rw [show ((bb : Nat) : Int) = (r : Int) from by have := HMX.out; omega]
                    obtain ⟨wc, hwc⟩ : ∃ wc, wc = (wb.setCell ⟨i, n, none⟩ (.int .i64 (r : Nat))).drew := ⟨_, rfl⟩
                    have hs8 := hs7.below (w3 := wc) (by rw [hwc]; exact belowN (Below.refl _ _) 1)
                    have hs9 := hs8
                    rw [show ({ outK k (scavN k) with lim := r } : Kl) = { outK k (scavN k) with lim := r, lo := (outK k (scavN k)).lo } from rfl] at hs9
                    obtain ⟨_, x2, _, x4, ⟨A6, cp6, x7⟩, _, _, x8, _, xf8⟩ := HCL.out _ _ _ _ _ _ _ _ hs9
                    have HS8 := Lib.hid hs8
                    rw [← hwc]
                    clear hwc hs7 hs8 hs9 z0 z2 z3 z4 z5 z6 z7 z8 zf5 zf8 hmx f1
                    have HKJ := Lib.hid (fun v => show (wc.setCell ⟨j, n, none⟩ v).cell? ⟨B, 4, none⟩ = some (.slice (some ⟨j, 0, none⟩) N cj) ∧ (wc.setCell ⟨j, n, none⟩ v).cell? ⟨B, 2, none⟩ = some (.slice (some ⟨l, 0, none⟩) N cl) ∧ (wc.setCell ⟨j, n, none⟩ v).cell? ⟨l, n, none⟩ = some (.slice A6 q cp6) from
                      ⟨(World.cell?_setCell_other wc _ _ _ (fun e => NE.out.2.2.1 (by injection e))).trans x4, (World.cell?_setCell_other wc _ _ _ (fun e => NE.out.2.2.1 (by injection e))).trans x2, (World.cell?_setCell_other wc _ _ _ (fun e => NE.out.2.2.2 (by injection e))).trans x7⟩)
                    go_region_held3 (fun w' => w'.cell? ⟨B, 4, none⟩ = some (.slice (some ⟨j, 0, none⟩) N cj) ∧ w'.cell? ⟨B, 2, none⟩ = some (.slice (some ⟨l, 0, none⟩) N cl) ∧ w'.cell? ⟨l, n, none⟩ = some (.slice A6 q cp6)) (first | exact ⟨x4, x2, x7⟩ | exact HKJ.out _) (fail)
                    go_wp2
                    go_roundw
                    case rel =>
                      obtain ⟨V9, hs10⟩ := HS8.out.scO (q := q) HKH.out.2.1 (by show q ≤ (k.l.drop (scavN k)).length; rw [List.length_drop, HLT.out.1, HMM.out]; have := HQQ.out.1; omega) (by unfold scavK outK; rw [HR.out]; rw [show k.l.length - scavN k = q from by rw [HLT.out.1, HMM.out]; exact HQQ.out.1])
                      have hs11 := hs10.below (w3 := ((wc.setCell ⟨j, n, none⟩ (.int .i64 (q : Nat))).drew)) (belowN (Below.refl _ _) 1)
                      rw [onK_succ HKH.out.1, ← List.range_succ] at hs11
                      exact ⟨n + 1, X, O3, _, by omega, by go_num, by have h5 := HPP.out; subst h5; exact hs11⟩
                    case measure => simp [intOf]; omega
                  exact AllReadyH.nil
                exact AllReadyH.nil
              exact AllReadyH.nil
          · have d1 : decide ((bb : Int) < (lm : Int)) = false := decide_eq_false (by omega)
            have d2 : decide (bb < lm) = false := decide_eq_false (by omega)
            have d3 : decide ((lm : Int) > (bb : Int)) = false := decide_eq_false (by omega)
            have HR := Lib.hid (show scavL k = lm from by rw [HSL.out, if_neg (by omega)])
            clear hbl
            go_quiet (fail)
            go_wp2
            obtain ⟨wb, hwb⟩ : ∃ wb, wb = w2.drewN nq := ⟨_, rfl⟩
            have hs6 := HS5.out.below (w3 := wb) (by rw [hwb]; exact belowN (Below.refl _ _) nq)
            obtain ⟨_, x2, _, x4, ⟨A6, cp6, x7⟩, _, _, x8, _, xf8⟩ := HCL.out _ _ _ _ _ _ _ _ hs6
            have HS6 := Lib.hid hs6
            rw [← hwb]
            clear hwb hs6 y0 y3 y5 y6 d1 d2 d3
            have HKJ := Lib.hid (fun v => show (wb.setCell ⟨j, n, none⟩ v).cell? ⟨B, 4, none⟩ = some (.slice (some ⟨j, 0, none⟩) N cj) ∧ (wb.setCell ⟨j, n, none⟩ v).cell? ⟨B, 2, none⟩ = some (.slice (some ⟨l, 0, none⟩) N cl) ∧ (wb.setCell ⟨j, n, none⟩ v).cell? ⟨l, n, none⟩ = some (.slice A6 q cp6) from
              ⟨(World.cell?_setCell_other wb _ _ _ (fun e => NE.out.2.2.1 (by injection e))).trans x4, (World.cell?_setCell_other wb _ _ _ (fun e => NE.out.2.2.1 (by injection e))).trans x2, (World.cell?_setCell_other wb _ _ _ (fun e => NE.out.2.2.2 (by injection e))).trans x7⟩)
            go_region_held3 (fun w' => w'.cell? ⟨B, 4, none⟩ = some (.slice (some ⟨j, 0, none⟩) N cj) ∧ w'.cell? ⟨B, 2, none⟩ = some (.slice (some ⟨l, 0, none⟩) N cl) ∧ w'.cell? ⟨l, n, none⟩ = some (.slice A6 q cp6)) (first | exact ⟨x4, x2, x7⟩ | exact HKJ.out _) (fail)
            go_wp2
            go_roundw
            case rel =>
              obtain ⟨V9, hs10⟩ := HS6.out.scO (q := q) HKH.out.2.1 (by show q ≤ (k.l.drop (scavN k)).length; rw [List.length_drop, HLT.out.1, HMM.out]; have := HQQ.out.1; omega) (by unfold scavK outK; rw [HR.out]; rw [show k.l.length - scavN k = q from by rw [HLT.out.1, HMM.out]; exact HQQ.out.1])
              have hs11 := hs10.below (w3 := ((wb.setCell ⟨j, n, none⟩ (.int .i64 (q : Nat))).drew)) (belowN (Below.refl _ _) 1)
              rw [onK_succ HKH.out.1, ← List.range_succ] at hs11
              exact ⟨n + 1, X, O3, _, by omega, by go_num, by have h5 := HPP.out; subst h5; exact hs11⟩
            case measure => simp [intOf]; omega
        · have hmpos : ¬ (m : Int) ≤ 0 := by omega
          obtain ⟨a1, a2, a3, a4, a5, a6⟩ := HAR.out
          go_wp2_with (first
            | (go_at_call 70; refine HO.out.mono ?_; rintro e w2 ⟨A2, c9, rfl, hrest⟩; obtain ⟨O3, V3, hs3, hi3⟩ := HS.out.old ⟨A2, c9, rfl, hrest⟩; have HS3 := Lib.hid hs3; have HI3 := Lib.hid hi3; have HSZ := Lib.hid hs3.kp.size; clear hs3 hi3 hrest a1 a2 a3 a4 a5 a6)
            | (at_builtin; refine wpList_append_own_at _ rfl _ _ 58 rfl w.heap.size 61 i0 (.agg #[.int .i64 0, .slice none 0 0]) 2 32 undBts hi hz0 hz1 hz2 rfl (by decide) (.slice A p cc) p (cellsX X) rfl (by have := HS3.out.row; rw [HPP.out] at this; exact this.alloc _) ⟨w2.heap.size, 0, none⟩ 1 1 [.int .i64 (n : Nat), .slice A2 m c9] rfl rfl (cells2_new w2 _ _ _) (one2 _ _ _ _) (by unfold maxLen; omega) (by omega) (by have := HSZ.out; simp; omega) ?_; intro v' w3 hown hgr hnil hat; have hs4 := HS3.out.one (f := scavV) (k := k) (x := n) (A' := A2) (c' := c9) (V2 := v') HKH.out.1 (fun e => by have h5 := scavV_len HW.out; rw [e, HMM.out] at h5; simp at h5; omega) (by rw [show scavV k = k.l.take m from by unfold scavV; rw [HMM.out]]; exact HI3.out) (by rw [HPP.out, scavV_len HW.out, HMM.out]; exact hown) (by rw [HPP.out]; exact hgr) (by rw [HPP.out]; exact hat); have HS4 := Lib.hid hs4; obtain ⟨A9, cc9, rfl⟩ := owns_form hown; clear hs4 hown hgr hnil hat))
          clear c00 c4 c8
          have h4 := HS4.out
          rw [← HMM.out, HLO.out] at h4
          obtain ⟨y0, _, y3, _, _, y5, y6, _, _, _⟩ := HCL.out _ _ _ _ _ _ _ _ h4
          have HS5 := Lib.hid h4
          clear h4
          rcases Nat.lt_or_ge bb lm with hbl | hbl
          · have d1 : decide ((bb : Int) < (lm : Int)) = true := decide_eq_true (by omega)
            have d2 : decide (bb < lm) = true := decide_eq_true hbl
            have d3 : decide ((lm : Int) > (bb : Int)) = true := decide_eq_true (by omega)
            obtain ⟨dd, hdd⟩ : ∃ dd, lm - bb = dd := ⟨_, rfl⟩
            obtain ⟨r, hr⟩ : ∃ r, max dd bb = r := ⟨_, rfl⟩
            have HR := Lib.hid (show scavL k = r from by rw [HSL.out, if_pos hbl, hdd]; exact hr)
            have f1 : (lm : Int) - (bb : Int) = (dd : Int) := by omega
            have WE := Lib.hid (w64 (dd : Int) (by omega))
            have HRC := Lib.hid (And.intro hr (show dd ≤ 128 from by omega))
            clear hbl hdd hr
            go_quiet (fail)
            go_wp2
            obtain ⟨wb, hwb⟩ : ∃ wb, wb = w3.drewN nq := ⟨_, rfl⟩
            have hs6 := HS5.out.below (w3 := wb) (by rw [hwb]; exact belowN (Below.refl _ _) nq)
            obtain ⟨z0, z2, z3, z4, ⟨A8, cp8, z7⟩, z5, z6, z8, zf5, zf8⟩ := HCL.out _ _ _ _ _ _ _ _ hs6
            have HS6 := Lib.hid hs6
            rw [← hwb]
            clear hwb hs6 y0 y3 y5 y6 d1 d2 d3
            rcases Nat.lt_or_ge dd bb with hdb | hdb
            all_goals
              obtain ⟨hr, _⟩ := HRC.out
              have hmx : max (dd : Int) (bb : Int) = (r : Int) := by omega
              clear hr
              have HKS := Lib.hid (fun v => show (wb.setCell ⟨i, n, none⟩ v).cell? ⟨B, 0, none⟩ = some (.slice (some ⟨t, 0, none⟩) N ct) ∧ (wb.setCell ⟨i, n, none⟩ v).cell? ⟨B, 3, none⟩ = some (.slice (some ⟨i, 0, none⟩) N ci) ∧ (wb.setCell ⟨i, n, none⟩ v).cell? ⟨t, n * 3 + 2, none⟩ = some (.int .i64 bb) from
                ⟨(World.cell?_setCell_other wb _ _ _ (fun e => NE.out.1 (by injection e))).trans z0, (World.cell?_setCell_other wb _ _ _ (fun e => NE.out.1 (by injection e))).trans z3, (World.cell?_setCell_other wb _ _ _ (fun e => NE.out.2.1 (by injection e))).trans z6⟩)
              obtain ⟨we1, we2⟩ := WE.out
              refine wp_region_noPanic ?_
              refine wp_region_held_drew (S := fun w' => w'.cell? ⟨B, 0, none⟩ = some (.slice (some ⟨t, 0, none⟩) N ct) ∧ w'.cell? ⟨B, 3, none⟩ = some (.slice (some ⟨i, 0, none⟩) N ci) ∧ w'.cell? ⟨t, n * 3 + 2, none⟩ = some (.int .i64 bb)) (by kernel_rfl) ?_ ?_
              · first | exact ⟨z0, z3, z6⟩ | exact HKS.out _
              intro hHeld
              refine wpAnyH_take (i := 0) (v := ?_) rfl (by kernel_rfl) (by kernel_rfl) (by kernel_rfl) (fun _ _ _ h => h) (Or.inl ⟨by rfl, ?_⟩) (by assumption) ?_
              rotate_left
              · (intro W hSW; (try dsimp only at hSW); go_simp; try with_reducible rfl)
              (try simp only [Act.put, List.setIfInBounds_toArray, List.set_cons_zero, List.set_cons_succ])
              refine wpAnyH_take (i := 1) (v := ?_) rfl (by kernel_rfl) (by kernel_rfl) (by kernel_rfl) (fun _ _ _ h => h) (Or.inl ⟨by rfl, ?_⟩) (by assumption) ?_
              rotate_left
              · (intro W hSW; (try dsimp only at hSW); go_simp; try with_reducible rfl)
              (try simp only [Act.put, List.setIfInBounds_toArray, List.set_cons_zero, List.set_cons_succ])
              refine wpAnyH_take (i := 2) (v := ?_) rfl (by kernel_rfl) (by kernel_rfl) (by kernel_rfl) (fun _ _ _ h => h) (Or.inl ⟨by rfl, ?_⟩) (by assumption) ?_
              rotate_left
              · (intro W hSW; (try dsimp only at hSW); go_simp; try with_reducible rfl)
              (try simp only [Act.put, List.setIfInBounds_toArray, List.set_cons_zero, List.set_cons_succ])
              refine wpAnyH_take (i := 3) (v := ?_) rfl (by kernel_rfl) (by kernel_rfl) (by kernel_rfl) (fun _ _ _ h => h) (Or.inl ⟨by rfl, ?_⟩) (by assumption) ?_
              rotate_left
              · (intro W hSW; (try dsimp only at hSW); go_simp; try with_reducible rfl)
              (try simp only [Act.put, List.setIfInBounds_toArray, List.set_cons_zero, List.set_cons_succ])
              refine wpAnyH_take (i := 4) (v := ?_) rfl (by kernel_rfl) (by kernel_rfl) (by kernel_rfl) (fun _ _ _ h => h) (Or.inl ⟨by rfl, ?_⟩) (by assumption) ?_
              rotate_left
              · (intro W hSW; (try dsimp only at hSW); go_simp; try with_reducible rfl)
              (try simp only [Act.put, List.setIfInBounds_toArray, List.set_cons_zero, List.set_cons_succ])
              refine wpAnyH_take (i := 5) (v := ?_) rfl (by kernel_rfl) (by kernel_rfl) (by kernel_rfl) (fun _ _ _ h => h) (Or.inl ⟨by rfl, ?_⟩) (by assumption) ?_
              rotate_left
              · (intro W hSW; (try dsimp only at hSW); go_simp; try with_reducible rfl)
              (try simp only [Act.put, List.setIfInBounds_toArray, List.set_cons_zero, List.set_cons_succ])
              refine wpAnyH_take (i := 6) (v := ?_) rfl (by kernel_rfl) (by kernel_rfl) (by kernel_rfl) (fun _ _ _ h => h) (Or.inl ⟨by rfl, ?_⟩) (by assumption) ?_
              rotate_left
              · (intro W hSW; (try dsimp only at hSW); go_simp; try with_reducible rfl)
              (try simp only [Act.put, List.setIfInBounds_toArray, List.set_cons_zero, List.set_cons_succ])
              refine wpAnyH_take (i := 7) (v := ?_) rfl (by kernel_rfl) (by kernel_rfl) (by kernel_rfl) (fun _ _ _ h => h) (Or.inl ⟨by rfl, ?_⟩) (by assumption) ?_
              rotate_left
              · (intro W hSW; (try dsimp only at hSW); go_simp; try with_reducible rfl)
              (try simp only [Act.put, List.setIfInBounds_toArray, List.set_cons_zero, List.set_cons_succ])
              refine wpAnyH_take (i := 8) (v := ?_) rfl (by kernel_rfl) (by kernel_rfl) (by kernel_rfl) (fun _ _ _ h => h) (Or.inl ⟨by rfl, ?_⟩) (by assumption) ?_
              rotate_left
              · (intro W hSW; (try dsimp only at hSW); go_simp; try with_reducible rfl)
              (try simp only [Act.put, List.setIfInBounds_toArray, List.set_cons_zero, List.set_cons_succ])
              refine wpAnyH_take (i := 9) (v := ?_) rfl (by kernel_rfl) (by kernel_rfl) (by kernel_rfl) (fun _ _ _ h => h) (Or.inl ⟨by rfl, ?_⟩) (by assumption) ?_
              rotate_left
              · (intro W hSW; (try dsimp only at hSW); go_simp; try with_reducible rfl)
              (try simp only [Act.put, List.setIfInBounds_toArray, List.set_cons_zero, List.set_cons_succ])
              refine wpAnyH_take (i := 10) (v := ?_) rfl (by kernel_rfl) (by kernel_rfl) (by kernel_rfl) (fun _ _ _ h => h) (Or.inl ⟨by rfl, ?_⟩) (by assumption) ?_
              rotate_left
              · (intro W hSW; (try dsimp only at hSW); go_simp; try with_reducible rfl)
              (try simp only [Act.put, List.setIfInBounds_toArray, List.set_cons_zero, List.set_cons_succ])
              refine wpAnyH_take (i := 12) (v := ?_) rfl (by kernel_rfl) (by kernel_rfl) (by kernel_rfl) (fun _ _ _ h => h) (Or.inl ⟨by rfl, ?_⟩) (by assumption) ?_
              rotate_left
              · (intro W hSW; (try dsimp only at hSW); go_simp; try with_reducible rfl)
              (try simp only [Act.put, List.setIfInBounds_toArray, List.set_cons_zero, List.set_cons_succ])
              refine wpAnyH_take (i := 13) (v := ?_) rfl (by kernel_rfl) (by kernel_rfl) (by kernel_rfl) (fun _ _ _ h => h) (Or.inl ⟨by rfl, ?_⟩) (by assumption) ?_
              rotate_left
              · (intro W hSW; (try dsimp only at hSW); go_simp; try with_reducible rfl)
              (try simp only [Act.put, List.setIfInBounds_toArray, List.set_cons_zero, List.set_cons_succ])
              refine wpAnyH_take (i := 14) (v := ?_) rfl (by kernel_rfl) (by kernel_rfl) (by kernel_rfl) (fun _ _ _ h => h) (Or.inl ⟨by rfl, ?_⟩) (by assumption) ?_
              rotate_left
              · (intro W hSW; (try dsimp only at hSW); go_simp; try with_reducible rfl)
              (try simp only [Act.put, List.setIfInBounds_toArray, List.set_cons_zero, List.set_cons_succ])
              refine wpAnyH_take (i := 15) (v := ?_) rfl (by kernel_rfl) (by kernel_rfl) (by kernel_rfl) (fun _ _ _ h => h) (Or.inl ⟨by rfl, ?_⟩) (by assumption) ?_
              rotate_left
              · (intro W hSW; (try dsimp only at hSW); go_simp; try with_reducible rfl)
              (try simp only [Act.put, List.setIfInBounds_toArray, List.set_cons_zero, List.set_cons_succ])
              refine wpAnyH_take (i := 16) (v := ?_) rfl (by kernel_rfl) (by kernel_rfl) (by kernel_rfl) (fun _ _ _ h => h) (Or.inl ⟨by rfl, ?_⟩) (by assumption) ?_
              rotate_left
              · (intro W hSW; (try dsimp only at hSW); go_simp; try with_reducible rfl)
              (try simp only [Act.put, List.setIfInBounds_toArray, List.set_cons_zero, List.set_cons_succ])
              refine wpAnyH_take (i := 17) (v := ?_) rfl (by kernel_rfl) (by kernel_rfl) (by kernel_rfl) (fun _ _ _ h => h) (Or.inl ⟨by rfl, ?_⟩) (by assumption) ?_
              rotate_left
              · (intro W hSW; (try dsimp only at hSW); go_simp; try with_reducible rfl)
              (try simp only [Act.put, List.setIfInBounds_toArray, List.set_cons_zero, List.set_cons_succ])
              refine wpAnyH_take (i := 18) (v := ?_) rfl (by kernel_rfl) (by kernel_rfl) (by kernel_rfl) (fun _ _ _ h => h) (Or.inl ⟨by rfl, ?_⟩) (by assumption) ?_
              rotate_left
              · (intro W hSW; (try dsimp only at hSW); go_simp; try with_reducible rfl)
              (try simp only [Act.put, List.setIfInBounds_toArray, List.set_cons_zero, List.set_cons_succ])
              refine wpAnyH_take (i := 19) (v := ?_) rfl (by kernel_rfl) (by kernel_rfl) (by kernel_rfl) (fun _ _ _ h => h) (Or.inl ⟨by rfl, ?_⟩) (by assumption) ?_
              rotate_left
              · (intro W hSW; (try dsimp only at hSW); go_simp; try with_reducible rfl)
              (try simp only [Act.put, List.setIfInBounds_toArray, List.set_cons_zero, List.set_cons_succ])
              refine wpAnyH_take (i := 21) (v := ?_) rfl (by kernel_rfl) (by kernel_rfl) (by kernel_rfl) (fun _ _ _ h => h) (Or.inl ⟨by rfl, ?_⟩) (by assumption) ?_
              rotate_left
              · (intro W hSW; (try dsimp only at hSW); go_simp; try with_reducible rfl)
              (try simp only [Act.put, List.setIfInBounds_toArray, List.set_cons_zero, List.set_cons_succ])
              refine wpAnyH_take (i := 22) (v := ?_) rfl (by kernel_rfl) (by kernel_rfl) (by kernel_rfl) (fun _ _ _ h => h) (Or.inl ⟨by rfl, ?_⟩) (by assumption) ?_
              rotate_left
              · (intro W hSW; (try dsimp only at hSW); go_simp; try with_reducible rfl)
              (try simp only [Act.put, List.setIfInBounds_toArray, List.set_cons_zero, List.set_cons_succ])
              refine wpAnyH_take (i := 23) (v := ?_) rfl (by kernel_rfl) (by kernel_rfl) (by kernel_rfl) (fun _ _ _ h => h) (Or.inl ⟨by rfl, ?_⟩) (by assumption) ?_
              rotate_left
              · (intro W hSW; (try dsimp only at hSW); go_simp; try with_reducible rfl)
              (try simp only [Act.put, List.setIfInBounds_toArray, List.set_cons_zero, List.set_cons_succ])
              refine wpAnyH_take (i := 24) (v := ?_) rfl (by kernel_rfl) (by kernel_rfl) (by kernel_rfl) (fun _ _ _ h => h) (Or.inl ⟨by rfl, ?_⟩) (by assumption) ?_
              rotate_left
              · (intro W hSW; (try dsimp only at hSW); go_simp; try with_reducible rfl)
              (try simp only [Act.put, List.setIfInBounds_toArray, List.set_cons_zero, List.set_cons_succ])
              refine wpAnyH_take (i := 25) (v := ?_) rfl (by kernel_rfl) (by kernel_rfl) (by kernel_rfl) (fun _ _ _ h => h) (Or.inl ⟨by rfl, ?_⟩) (by assumption) ?_
              rotate_left
              · (intro W hSW; (try dsimp only at hSW); go_simp; try with_reducible rfl)
              (try simp only [Act.put, List.setIfInBounds_toArray, List.set_cons_zero, List.set_cons_succ])
              refine wpAnyH_take (i := 26) (v := ?_) rfl (by kernel_rfl) (by kernel_rfl) (by kernel_rfl) (fun _ _ _ h => h) (Or.inl ⟨by rfl, ?_⟩) (by assumption) ?_
              rotate_left
              · (intro W hSW; (try dsimp only at hSW); go_simp; try with_reducible rfl)
              (try simp only [Act.put, List.setIfInBounds_toArray, List.set_cons_zero, List.set_cons_succ])
              refine wpAnyH_take (i := 27) (v := ?_) rfl (by kernel_rfl) (by kernel_rfl) (by kernel_rfl) (fun _ _ _ h => h) (Or.inl ⟨by rfl, ?_⟩) (by assumption) ?_
              rotate_left
              · (intro W hSW; (try dsimp only at hSW); go_simp; try with_reducible rfl)
              (try simp only [Act.put, List.setIfInBounds_toArray, List.set_cons_zero, List.set_cons_succ])
              refine wpAnyH_take (i := 28) (v := ?_) rfl (by kernel_rfl) (by kernel_rfl) (by kernel_rfl) (fun _ _ _ h => h) (Or.inl ⟨by rfl, ?_⟩) (by assumption) ?_
              rotate_left
              · (intro W hSW; (try dsimp only at hSW); go_simp; try with_reducible rfl)
              (try simp only [Act.put, List.setIfInBounds_toArray, List.set_cons_zero, List.set_cons_succ])
              refine wpAnyH_ready (rs := [11]) (by kernel_rfl) (by simp) ?_
              refine AllReadyH.cons rfl (fun K hK => ?_) ?_
              · go_simp
                refine hK.out _ _ ?_ ?_
                · ((try dsimp only); first | exact ⟨z0, z3, z6⟩ | exact HKS.out _)
                clear hK K hHeld
                intro hHeld
                (try simp only [Act.put, List.setIfInBounds_toArray, List.set_cons_zero, List.set_cons_succ])
                refine wpAnyH_take (i := 20) (v := ?_) rfl (by kernel_rfl) (by kernel_rfl) (by kernel_rfl) (fun _ _ _ h => h) (Or.inl ⟨by rfl, ?_⟩) (by assumption) ?_
                rotate_left
                · (intro W hSW; (try dsimp only at hSW); go_simp; try with_reducible rfl)
                (try simp only [Act.put, List.setIfInBounds_toArray, List.set_cons_zero, List.set_cons_succ])
                refine wpAnyH_ready (rs := [29]) (by kernel_rfl) (by simp) ?_
                refine AllReadyH.cons rfl (fun K hK => ?_) ?_
                · go_simp
                  refine hK.out _ _ ?_ ?_
                  · ((try dsimp only); first | exact ⟨z0, z3, z6⟩ | exact HKS.out _)
                  clear hK K hHeld
                  intro hHeld
                  (try simp only [Act.put, List.setIfInBounds_toArray, List.set_cons_zero, List.set_cons_succ])
                  refine wpAnyH_take (i := 30) (v := ?_) rfl (by kernel_rfl) (by kernel_rfl) (by kernel_rfl) (fun _ _ _ h => h) (Or.inl ⟨by rfl, ?_⟩) (by assumption) ?_
                  rotate_left
                  · (intro W hSW; (try dsimp only at hSW); go_simp; try with_reducible rfl)
                  (try simp only [Act.put, List.setIfInBounds_toArray, List.set_cons_zero, List.set_cons_succ])
                  refine wpAnyH_ready (rs := [31]) (by kernel_rfl) (by simp) ?_
                  refine AllReadyH.cons rfl (fun K hK => ?_) ?_
                  · go_simp
                    refine hK.out _ _ ?_ ?_
                    · ((try dsimp only); first | exact ⟨z0, z3, z6⟩ | exact HKS.out _)
                    clear hK K hHeld
                    intro hHeld
                    (try simp only [Act.put, List.setIfInBounds_toArray, List.set_cons_zero, List.set_cons_succ])
                    refine wpAnyH_done (by kernel_rfl) ?_ _
                    refine NoPanic.normal ?_
                    clear hHeld
                    go_wp2
                    clear we1 we2
                    have hs7 := HS6.out
                    rw [← HLO.out] at hs7
                    obtain ⟨V7, hs7⟩ := hs7.scL HKH.out.2.1 HW.out
                    rw [HR.out] at hs7
                    have HMX := Lib.hid hmx
                    try rw [show ((dd : Nat) : Int) = (r : Int) from by have := HMX.out; omega]
                    try rw [show ((bb : Nat) : Int) = (r : Int) from by have := HMX.out; omega]
                    obtain ⟨wc, hwc⟩ : ∃ wc, wc = (wb.setCell ⟨i, n, none⟩ (.int .i64 (r : Nat))).drew := ⟨_, rfl⟩
                    have hs8 := hs7.below (w3 := wc) (by rw [hwc]; exact belowN (Below.refl _ _) 1)
                    have hs9 := hs8
                    rw [show ({ outK k (scavN k) with lim := r } : Kl) = { outK k (scavN k) with lim := r, lo := (outK k (scavN k)).lo } from rfl] at hs9
                    obtain ⟨_, x2, _, x4, ⟨A6, cp6, x7⟩, _, _, x8, _, xf8⟩ := HCL.out _ _ _ _ _ _ _ _ hs9
                    have HS8 := Lib.hid hs8
                    rw [← hwc]
                    clear hwc hs7 hs8 hs9 z0 z2 z3 z4 z5 z6 z7 z8 zf5 zf8 hmx f1
                    have HKJ := Lib.hid (fun v => show (wc.setCell ⟨j, n, none⟩ v).cell? ⟨B, 4, none⟩ = some (.slice (some ⟨j, 0, none⟩) N cj) ∧ (wc.setCell ⟨j, n, none⟩ v).cell? ⟨B, 2, none⟩ = some (.slice (some ⟨l, 0, none⟩) N cl) ∧ (wc.setCell ⟨j, n, none⟩ v).cell? ⟨l, n, none⟩ = some (.slice A6 q cp6) from
                      ⟨(World.cell?_setCell_other wc _ _ _ (fun e => NE.out.2.2.1 (by injection e))).trans x4, (World.cell?_setCell_other wc _ _ _ (fun e => NE.out.2.2.1 (by injection e))).trans x2, (World.cell?_setCell_other wc _ _ _ (fun e => NE.out.2.2.2 (by injection e))).trans x7⟩)
                    go_region_held3 (fun w' => w'.cell? ⟨B, 4, none⟩ = some (.slice (some ⟨j, 0, none⟩) N cj) ∧ w'.cell? ⟨B, 2, none⟩ = some (.slice (some ⟨l, 0, none⟩) N cl) ∧ w'.cell? ⟨l, n, none⟩ = some (.slice A6 q cp6)) (first | exact ⟨x4, x2, x7⟩ | exact HKJ.out _) (fail)
                    go_wp2
                    go_roundw
                    case rel =>
                      obtain ⟨V9, hs10⟩ := HS8.out.scO (q := q) HKH.out.2.1 (by show q ≤ (k.l.drop (scavN k)).length; rw [List.length_drop, HLT.out.1, HMM.out]; have := HQQ.out.1; omega) (by unfold scavK outK; rw [HR.out]; rw [show k.l.length - scavN k = q from by rw [HLT.out.1, HMM.out]; exact HQQ.out.1])
                      have hs11 := hs10.below (w3 := ((wc.setCell ⟨j, n, none⟩ (.int .i64 (q : Nat))).drew)) (belowN (Below.refl _ _) 1)
                      rw [onK_succ HKH.out.1, ← List.range_succ] at hs11
                      exact ⟨n + 1, _, O3, _, by omega, by go_num, hs11⟩
                    case measure => simp [intOf]; omega
                  exact AllReadyH.nil
                exact AllReadyH.nil
              exact AllReadyH.nil
          · have d1 : decide ((bb : Int) < (lm : Int)) = false := decide_eq_false (by omega)
            have d2 : decide (bb < lm) = false := decide_eq_false (by omega)
            have d3 : decide ((lm : Int) > (bb : Int)) = false := decide_eq_false (by omega)
            have HR := Lib.hid (show scavL k = lm from by rw [HSL.out, if_neg (by omega)])
            clear hbl
            go_quiet (fail)
            go_wp2
            obtain ⟨wb, hwb⟩ : ∃ wb, wb = w3.drewN nq := ⟨_, rfl⟩
            have hs6 := HS5.out.below (w3 := wb) (by rw [hwb]; exact belowN (Below.refl _ _) nq)
            obtain ⟨_, x2, _, x4, ⟨A6, cp6, x7⟩, _, _, x8, _, xf8⟩ := HCL.out _ _ _ _ _ _ _ _ hs6
            have HS6 := Lib.hid hs6
            rw [← hwb]
            clear hwb hs6 y0 y3 y5 y6 d1 d2 d3
            have HKJ := Lib.hid (fun v => show (wb.setCell ⟨j, n, none⟩ v).cell? ⟨B, 4, none⟩ = some (.slice (some ⟨j, 0, none⟩) N cj) ∧ (wb.setCell ⟨j, n, none⟩ v).cell? ⟨B, 2, none⟩ = some (.slice (some ⟨l, 0, none⟩) N cl) ∧ (wb.setCell ⟨j, n, none⟩ v).cell? ⟨l, n, none⟩ = some (.slice A6 q cp6) from
              ⟨(World.cell?_setCell_other wb _ _ _ (fun e => NE.out.2.2.1 (by injection e))).trans x4, (World.cell?_setCell_other wb _ _ _ (fun e => NE.out.2.2.1 (by injection e))).trans x2, (World.cell?_setCell_other wb _ _ _ (fun e => NE.out.2.2.2 (by injection e))).trans x7⟩)
            go_region_held3 (fun w' => w'.cell? ⟨B, 4, none⟩ = some (.slice (some ⟨j, 0, none⟩) N cj) ∧ w'.cell? ⟨B, 2, none⟩ = some (.slice (some ⟨l, 0, none⟩) N cl) ∧ w'.cell? ⟨l, n, none⟩ = some (.slice A6 q cp6)) (first | exact ⟨x4, x2, x7⟩ | exact HKJ.out _) (fail)
            go_wp2
            go_roundw
            case rel =>
              obtain ⟨V9, hs10⟩ := HS6.out.scO (q := q) HKH.out.2.1 (by show q ≤ (k.l.drop (scavN k)).length; rw [List.length_drop, HLT.out.1, HMM.out]; have := HQQ.out.1; omega) (by unfold scavK outK; rw [HR.out]; rw [show k.l.length - scavN k = q from by rw [HLT.out.1, HMM.out]; exact HQQ.out.1])
              have hs11 := hs10.below (w3 := ((wb.setCell ⟨j, n, none⟩ (.int .i64 (q : Nat))).drew)) (belowN (Below.refl _ _) 1)
              rw [onK_succ HKH.out.1, ← List.range_succ] at hs11
              exact ⟨n + 1, _, O3, _, by omega, by go_num, hs11⟩
            case measure => simp [intOf]; omega
      · obtain rfl : n = N := by omega
        have hE := HS.out
        rw [show List.range n = List.range c.K.length from by rw [HN.out]] at hE
        have hE := hE.end
        rw [hp] at hE
        have HE := Lib.hid hE
        clear hE hS hp
        go_wp2_with fail
        go_ret
        exact HE.out
end Go.Proofs.Yticcjelaenhigaa
