/- Package cache: Fill, Put. -/
import Derived.Test.YticcjelaenhigaaPb
namespace Go.Proofs.Yticcjelaenhigaa
open Go.RowKit Go.Lib

set_option maxHeartbeats 1000000 in
theorem cFill_any {O P : Nat → Prop} {v : Value} {om : Option Tc} {w : World} {x : Int} {A : Option Addr} {c' : Nat} {z : List Int} (h : TOb false w O v om) (hx : InR x) (hz : IAt P w A z) (hzO : ∀ g, P g → ¬ O g) (hzl : z.length ≤ 9223372036854775807) : Calls Try.prog 26 #[v, .int .i64 x, .slice A z.length c'] w (FlP false w O v om x z) := by
  cases hk : atK om x with
  | none =>
    have HF := Lib.hid (cfind_no h hk hx)
    have HP := Lib.hid (fl_no (z := z) h (Below.refl _ _) hk)
    obtain ⟨er, he, e1, e2, _⟩ := errK_ne om x hk
    rw [he] at HF HP
    clear h hk he hz
    generalize z.length = n at *
    go_enter Try.func26, Try.ntmps26
    go_wp2_with (go_at_call 56; refine HF.out.mono ?_; rintro e w1 ⟨rfl, rfl⟩)
    go_ret
    exact HP.out
  | some k =>
    cases om with
    | none => cases hk
    | some c =>
      obtain ⟨B, M, Q, p, F, rfl, h⟩ := h
      obtain ⟨_, hxl, hK, _⟩ := h.wf.at hk
      have HF := Lib.hid (cfind_yes h hk hx)
      have hob := h.each _ k hK
      have HA := Lib.hid (ladd_any (c := c') hob hz (fun g hg hf => hzO g hg (h.sub _ hxl g hf).1) hzl)
      have HP1 := Lib.hid (fun (w1 : World) (hb : 256 < k.l.length + z.length) (hm : Below w.heap.size w w1) => show FlP false w O (.pointer (some ⟨B, 0, none⟩)) (some c) x z (.returned (.int .i64 6)) w1 from by
        have e2 : flE (some c) x z = 6 := by unfold flE; rw [hk]; exact if_pos hb
        have e3 : flD (some c) x z = some c := by unfold flD; rw [hk]; exact if_pos hb
        exact ⟨by rw [e2], by rw [e3]; exact TMut.same ⟨B, M, Q, p, F, rfl, h⟩ hm⟩)
      have HP2 := Lib.hid (fun (w1 : World) (hb : ¬ 256 < k.l.length + z.length) (hm : KMut w (F x.toNat) (p x.toNat) (addK k z) w1) => show FlP false w O (.pointer (some ⟨B, 0, none⟩)) (some c) x z (.returned (.int .i64 0)) w1 from by
        have e2 : flE (some c) x z = 0 := by unfold flE; rw [hk]; exact if_neg hb
        have e3 : flD (some c) x z = some { c with K := c.K.set x.toNat (addK k z) } := by unfold flD; rw [hk]; dsimp only; rw [if_neg hb]; rfl
        exact ⟨by rw [e2], by rw [e3]; exact h.mut hK hm⟩)
      unfold AdP at HA
      generalize p x.toNat = px at *
      generalize z.length = zn at *
      clear h hk hob hK hz
      by_cases hb : 256 < k.l.length + zn
      · have HB := Lib.hid hb
        clear hb
        go_enter Try.func26, Try.ntmps26
        go_wp2_with (first
          | (go_at_call 56; refine HF.out.mono ?_; rintro e w1 ⟨rfl, rfl⟩)
          | (go_at_call 60; refine HA.out.mono ?_; rintro e w1 ⟨hm, _⟩; obtain ⟨rfl, hm2⟩ := hm HB.out; have HMM := Lib.hid hm2; clear hm hm2))
        go_ret
        exact HP1.out _ HB.out HMM.out
      · have HB := Lib.hid hb
        clear hb
        go_enter Try.func26, Try.ntmps26
        go_wp2_with (first
          | (go_at_call 56; refine HF.out.mono ?_; rintro e w1 ⟨rfl, rfl⟩)
          | (go_at_call 60; refine HA.out.mono ?_; rintro e w1 ⟨_, hm⟩; obtain ⟨rfl, hm2⟩ := hm HB.out; have HMM := Lib.hid hm2; clear hm hm2))
        go_ret
        exact HP2.out _ HB.out HMM.out

theorem iatOne (w : World) (a : Int) (ha : InR a) : IAt (fun g => g = w.heap.size) (w.alloc (.cells #[.int .i64 a] 3)) (some ⟨w.heap.size, 0, none⟩) [a] := fun i u hi => by
  cases i with
  | zero =>
    simp at hi
    subst hi
    exact ⟨_, 0, rfl, by simp, rfl, cell_block (heap_alloc_new w _) rfl, ha⟩
  | succ i => simp at hi
set_option maxHeartbeats 2000000 in
theorem cPut_any {O : Nat → Prop} {v : Value} {om : Option Tc} {w : World} {x a : Int} (h : TOb false w O v om) (hx : InR x) (ha : InR a) : Calls Try.prog 38 #[v, .int .i64 x, .int .i64 a] w (PtP false w O v om x a) := by
  cases hk : atK om x with
  | none =>
    have HF := Lib.hid (cfind_no h hk hx)
    have HP := Lib.hid (pt_no (a := a) h (Below.refl _ _) hk)
    obtain ⟨er, he, e1, e2, _⟩ := errK_ne om x hk
    rw [he] at HF HP
    clear h hk he
    go_enter Try.func38, Try.ntmps38
    go_wp2_with (go_at_call 56; refine HF.out.mono ?_; rintro e w1 ⟨rfl, rfl⟩)
    go_ret2
    exact HP.out
  | some k =>
    cases om with
    | none => cases hk
    | some c =>
      obtain ⟨B, M, Q, p, F, rfl, h⟩ := h
      obtain ⟨_, hxl, hK, hwf⟩ := h.wf.at hk
      have HF := Lib.hid (cfind_yes h hk hx)
      have hob := h.each _ k hK
      obtain ⟨W0, hW0⟩ : ∃ W0, w.alloc (.cells #[.int .i64 a] 3) = W0 := ⟨_, rfl⟩
      have hb0 : Below w.heap.size w W0 := by rw [← hW0]; exact bnew _ _
      have hia : IAt (fun g => g = w.heap.size) W0 (some ⟨w.heap.size, 0, none⟩) [a] := by rw [← hW0]; exact iatOne w a ha
      have HA := Lib.hid (ladd_any (c := 1) (hob.below hb0) hia (fun g hg hf => by have := hob.lt _ hf; omega) (show 1 ≤ 9223372036854775807 by omega))
      have HB0 := Lib.hid hb0
      have HH := Lib.hid (And.intro h (And.intro hK hk))
      have HKM := Lib.hid (fun (w1 : World) (hm : KMut W0 (F x.toNat) (p x.toNat) (addK k [a]) w1) => show KOb w1 (Ext (F x.toNat) w w1) (p x.toNat) (addK k [a]) ∧ Keep (F x.toNat) w w1 from
        ⟨hm.1.mono (fun j hj => by
          rcases hj with hj | hj
          · exact .inl hj
          · exact .inr ⟨Nat.le_trans hb0.size hj.1, hj.2⟩) (Ext.lt hob.lt (Nat.le_trans hb0.size hm.2.size)), (Keep.of hb0).trans (hm.2.mono fun j _ hj => .inl hj)⟩)
      have hbig0 : addK k [a] = { k with l := k.l ++ [a] } := rfl
      unfold AdP at HA
      rw [show ([a] : List Int).length = 1 from rfl] at HA
      by_cases hb : 256 < k.l.length + 1
      · have HB := Lib.hid hb
        have HP1 := Lib.hid (fun (w1 : World) (hm : Below W0.heap.size W0 w1) => show PtP false w O (.pointer (some ⟨B, 0, none⟩)) (some c) x a (.returned (.tuple #[.slice none 0 0, .int .i64 6])) w1 from by
          have e1 : ptV (some c) x a = [] := by unfold ptV; rw [hk]; exact if_pos hb
          have e2 : ptE (some c) x = 6 := by unfold ptE; rw [hk]; exact if_pos hb
          have e3 : ptD (some c) x a = some c := by unfold ptD; rw [hk]; exact if_pos hb
          have hbw := btr hb0 hm (Nat.le_refl _)
          exact ⟨none, 0, by rw [e1, e2]; rfl, O, by rw [e3]; exact ⟨B, M, Q, p, F, rfl, h.below hbw⟩, fun j hj => .inl hj, Keep.of hbw, by rw [e1]; exact IAt.nil _ _ _⟩)
        generalize p x.toNat = px at *
        clear h hk hob hK hb hwf HKM hbig0 hia hb0
        go_enter Try.func38, Try.ntmps38
        go_wp2_with (first
          | (go_at_call 56; refine HF.out.mono ?_; rintro e w1 ⟨rfl, rfl⟩)
          | (go_at_call 60; refine HA.out.mono ?_; rintro e w1 ⟨hm, _⟩; obtain ⟨rfl, hm2⟩ := hm HB.out; have HMM := Lib.hid hm2; clear hm hm2))
        go_ret2
        exact HP1.out _ HMM.out
      · have HB := Lib.hid hb
        obtain ⟨k1, hk1⟩ : ∃ k1, addK k [a] = k1 := ⟨_, rfl⟩
        have hl1 : k1.l.length = k.l.length + 1 := by rw [← hk1, hbig0]; simp
        have hlim1 : k1.lim = k.lim := by rw [← hk1]; rfl
        rw [hk1] at HA HKM
        have HC := Lib.hid (fun (w1 : World) (hm : KOb w1 (Ext (F x.toNat) w w1) (p x.toNat) k1) => show ∃ (A1 : Option Addr) (c1 : Nat), w1.cell? ⟨p x.toNat, 2, none⟩ = some (.slice A1 (k.l.length + 1) c1) ∧ w1.cell? ⟨p x.toNat, 3, none⟩ = some (.int .i64 k.lim) from by
          obtain ⟨V, hm⟩ := hm
          obtain ⟨A1, c1, rfl, _, _⟩ := hm.form
          rw [← hl1, ← hlim1]
          exact ⟨A1, c1, hm.cells.2.2.1, hm.cells.2.2.2.1⟩)
        have e2 : ptE (some c) x = 0 := by unfold ptE; rw [hk]; exact if_neg hb
        have e3 : ptD (some c) x a = some { c with K := c.K.set x.toNat (ptK k a) } := by unfold ptD; rw [hk]; dsimp only; rw [if_neg hb]; rfl
        have e1 : ptV (some c) x a = ptL k a := by unfold ptV; rw [hk]; exact if_neg hb
        have hlim := hwf.m128
        by_cases hle : k.l.length + 1 ≤ k.lim
        · have HP := Lib.hid (fun (w1 w2 : World) (q : Nat) (hm : KOb w1 (Ext (F x.toNat) w w1) (p x.toNat) k1) (hkp : Keep (F x.toNat) w w1) (hw : w2 = w1.drewN q) => show PtP false w O (.pointer (some ⟨B, 0, none⟩)) (some c) x a (.returned (.tuple #[.slice none 0 0, .int .i64 0])) w2 from by
            have e4 : ptL k a = [] := if_pos hle
            have e5 : ptK k a = k1 := by rw [← hk1]; exact if_pos hle
            subst hw
            have hbq : Below w1.heap.size w1 (w1.drewN q) := belowN (Below.refl _ _) q
            have ht := h.turn hK (hm.below hbq) (keepN hkp q) (fun j hj => hj)
            refine ⟨none, 0, by rw [e1, e2, e4]; rfl, _, by rw [e3, e5]; exact ht, fun j hj => ?_, (keepN hkp q).mono (fun j _ hj => (h.sub _ hxl j hj).1), by rw [e1, e4]; exact IAt.nil _ _ _⟩
            rcases hj with hj | hj
            · exact .inl hj
            · rcases hj with hj | hj
              · exact .inl (h.sub _ hxl j hj).1
              · exact .inr hj)
          generalize p x.toNat = px at *
          generalize k.l.length = n at *
          generalize k.lim = m at *
          have d1 : decide (((n + 1 : Nat) : Int) ≤ (m : Int)) = true := decide_eq_true (by omega)
          have d2 : decide (n + 1 ≤ m) = true := decide_eq_true hle
          clear h hk hob hK hb hwf hia hb0 hk1 hl1 hlim1 hbig0 e1 e2 e3
          go_enter Try.func38, Try.ntmps38
          go_wp2_with (first
            | (go_at_call 56; refine HF.out.mono ?_; rintro e w1 ⟨rfl, rfl⟩)
            | (go_at_call 60; refine HA.out.mono ?_; rintro e w1 ⟨_, hm⟩; obtain ⟨rfl, hm2⟩ := hm HB.out; have HMM := Lib.hid (HKM.out _ hm2); obtain ⟨A1, c1, y1, y2⟩ := HC.out _ HMM.out.1; clear hm hm2))
          go_quiet (fail)
          go_wp2
          go_ret2
          exact HP.out _ _ _ HMM.out.1 HMM.out.2 rfl
        · have HO := Lib.hid (fun (w1 : World) (q : Nat) (hm : KOb w1 (Ext (F x.toNat) w w1) (p x.toNat) k1) => loverflow_any (hm.below (belowN (Below.refl _ w1) q)))
          have HP := Lib.hid (fun (w1 w2 : World) (q : Nat) (e : Value) (hm : KOb w1 (Ext (F x.toNat) w w1) (p x.toNat) k1) (hkp : Keep (F x.toNat) w w1) (ho : OlP (w1.drewN q) (Ext (F x.toNat) w w1) (p x.toNat) (overN k1) k1.l (overK k1) (.returned e) w2) => show PtP false w O (.pointer (some ⟨B, 0, none⟩)) (some c) x a (.returned (.tuple #[e, .int .i64 0])) w2 from by
            obtain ⟨A1, c1, he, h3, h4, h5⟩ := ho
            injection he with he
            subst he
            have e4 : ptL k a = k1.l.take (overN k1) := by rw [← hk1]; exact if_neg hle
            have e5 : ptK k a = overK k1 := by rw [← hk1]; exact if_neg hle
            have hlo : (k1.l.take (overN k1)).length = overN k1 := by rw [List.length_take]; show min (min _ _) _ = min _ _; omega
            have hz1 : w.heap.size ≤ w1.heap.size := hkp.size
            have hkp2 : Keep (F x.toNat) w w2 := (keepN hkp q).trans (h5.mono fun j _ hj => hj)
            have ht := h.turn hK h4 hkp2 (fun j hj => by
              rcases hj with hj | hj
              · exact .inl hj
              · exact .inr ⟨hj.1, Nat.lt_of_lt_of_le hj.2 h5.size⟩)
            refine ⟨A1, c1, by rw [e1, e2, e4, hlo], _, by rw [e3, e5]; exact ht, fun j hj => ?_, hkp2.mono (fun j _ hj => (h.sub _ hxl j hj).1), by
              rw [e1, e4]
              refine h3.mono fun g hg hgw => ⟨Nat.le_trans hz1 hgw, fun hx => ?_⟩
              have hgw : w1.heap.size ≤ g := hgw
              rcases hx with hx | hx | hx
              · have := h.lt g hx; omega
              · have := hob.lt g hx; omega
              · have := hx.2; omega⟩
            rcases hj with hj | hj
            · exact .inl hj
            · rcases hj with hj | hj
              · exact .inl (h.sub _ hxl j hj).1
              · exact .inr ⟨hj.1, Nat.lt_of_lt_of_le hj.2 h5.size⟩)
          generalize p x.toNat = px at *
          generalize k.l.length = n at *
          generalize k.lim = m at *
          have d1 : decide (((n + 1 : Nat) : Int) ≤ (m : Int)) = false := decide_eq_false (by omega)
          have d2 : decide (n + 1 ≤ m) = false := decide_eq_false hle
          clear h hk hob hK hb hwf hia hb0 hk1 hl1 hlim1 hbig0 e1 e2 e3
          go_enter Try.func38, Try.ntmps38
          go_wp2_with (first
            | (go_at_call 56; refine HF.out.mono ?_; rintro e w1 ⟨rfl, rfl⟩)
            | (go_at_call 60; refine HA.out.mono ?_; rintro e w1 ⟨_, hm⟩; obtain ⟨rfl, hm2⟩ := hm HB.out; have HMM := Lib.hid (HKM.out _ hm2); obtain ⟨A1, c1, y1, y2⟩ := HC.out _ HMM.out.1; clear hm hm2))
          go_quiet (fail)
          have HOO := Lib.hid (HO.out _ nq HMM.out.1)
          clear y1 y2
          go_wp2_with (go_at_call 66; refine HOO.out.mono ?_; rintro e w3 ⟨A3, c3, rfl, h3⟩; have HQ := Lib.hid h3; clear h3)
          go_ret2
          exact HP.out _ _ _ _ HMM.out.1 HMM.out.2 ⟨A3, c3, rfl, HQ.out⟩
end Go.Proofs.Yticcjelaenhigaa
