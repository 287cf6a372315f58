/- Package cache, its lists: scavenge, clone; what the two ways of removing leave. -/
import Derived.Test.YticcjelaenhigaaLc
namespace Go.Proofs.Yticcjelaenhigaa
open Go.RowKit Go.Lib

/-- What one of the two ways of removing objects returns and leaves: the list owns what it did. -/
def RmP (w : World) (O : Nat → Prop) (p : Nat) (l : List Int) (k' : Kl) (e : Ending) (w' : World) : Prop := ∃ A c, e = .returned (.slice A l.length c) ∧ IAt (fun g => w.heap.size ≤ g) w' A l ∧ KOb w' O p k' ∧ Keep O w w'
theorem kF_lo (k : Kl) (V : Value) (n : Nat) : ∀ i, i < 5 → (if i = 4 then Value.int .i64 (n : Int) else kF k V i) = kF { k with lo := n } V i := fun i hi => by
  rcases five hi with rfl | rfl | rfl | rfl | rfl <;> rfl
theorem scavV_len {k : Kl} (h : KWf k) : (scavV k).length = scavN k := by unfold scavV; rw [List.length_take]; have := scavN_le h; omega
theorem drainV_len (k : Kl) : (drainV k).length = k.l.length := by unfold drainV; rw [List.length_take]; omega
set_option maxRecDepth 100000 in
set_option maxHeartbeats 2000000 in
theorem lscavenge_any {w : World} {O : Nat → Prop} {p : Nat} {k : Kl} (h : KOb w O p k) : Calls Try.prog 63 #[.pointer (some ⟨p, 0, none⟩)] w (RmP w O p (scavV k) (scavK k)) := by
  obtain ⟨V, h⟩ := h
  have hlen := h.wf.len
  have hm := h.wf.m128
  have hm1 := h.wf.m1
  have hb := h.wf.b32
  have hbb := h.wf.b1
  have hlo := h.wf.low
  have hwf1 : KWf { k with lim := scavL k } := ⟨h.wf.s8, h.wf.s512, h.wf.b1, h.wf.b32, (scavL_bd h.wf).1, (scavL_bd h.wf).2, h.wf.low, h.wf.len⟩
  have HU := Lib.hid (fun (n : Nat) (w' : World) (e : n = scavL k) (hcl : Cl w' p 5 (fun i => if i = 3 then Value.int .i64 (n : Int) else kF k V i)) (hk : Keep (fun j => j = p) w w') => show KAt w' O p V { k with lim := scavL k } from h.set hwf1 rfl (hcl.congr fun i hi => by rw [kF_lim k V n i hi, e]) hk)
  have HO := Lib.hid (fun (w1 : World) (hk : KOb w1 O p { k with lim := scavL k }) => loldest_any (m := scavN k) hk (scavN_le h.wf))
  have HL := Lib.hid (show scavL k = if k.b < k.lim then max (k.lim - k.b) k.b else k.lim from rfl)
  have c1 := h.cells.2.1
  have c3 := h.cells.2.2.2.1
  have c4 := h.cells.2.2.2.2
  have f3 := h.hd.free 3 (by omega)
  have HY := Lib.hid (fun (w2 : World) (hk : KOb w2 O p (outK { k with lim := scavL k } (scavN k))) => show ∃ V3, KAt w2 O p V3 (outK { k with lim := scavL k } (scavN k)) ∧ w2.cell? ⟨p, 2, none⟩ = some V3 ∧ w2.frozen? ⟨p, 4, none⟩ = false ∧ ∃ u, w2.cell? ⟨p, 4, none⟩ = some u from by
    obtain ⟨V3, hk⟩ := hk
    exact ⟨V3, hk, hk.cells.2.2.1, hk.hd.free 4 (by omega), _, hk.cells.2.2.2.2⟩)
  have HYF := Lib.hid (fun (w2 : World) (V3 : Value) (hk : KAt w2 O p V3 (outK { k with lim := scavL k } (scavN k))) => show ∃ A3 c3, V3 = .slice A3 (k.l.length - scavN k) c3 from by
    obtain ⟨A3, c3, e, _, _⟩ := hk.form
    rw [show (outK { k with lim := scavL k } (scavN k)).l.length = k.l.length - scavN k from List.length_drop] at e
    exact ⟨A3, c3, e⟩)
  have HFIN := Lib.hid (fun (w1 w2 w3 : World) (A1 : Option Addr) (c5 : Nat) (V3 : Value) (hk : Keep (fun j => j = p) w w1) (hp : IAt (fun g => w1.heap.size ≤ g) w2 A1 (k.l.take (scavN k)) ∧ KOb w2 O p (outK { k with lim := scavL k } (scavN k)) ∧ Keep O w1 w2) (hv : KAt w2 O p V3 (outK { k with lim := scavL k } (scavN k))) (h3 : w3 = w2.setCell ⟨p, 4, none⟩ (.int .i64 ((k.l.length - scavN k : Nat) : Int))) => show RmP w O p (scavV k) (scavK k) (.returned (.slice A1 (scavN k) c5)) w3 from by
    obtain ⟨e2, e3, e4⟩ := hp
    have k3 : Keep (fun j => j = p) w2 w3 := by rw [h3]; exact keep_set (F := fun j => j = p) (Keep.refl _ _) rfl _
    refine ⟨A1, c5, by rw [scavV_len h.wf], ?_, ⟨V3, hv.set (k' := scavK k) (scavK_wf h.wf) rfl ?_ k3⟩, ((hk.mono (fun j _ e => by subst e; exact h.ob)).trans (e4.mono fun j _ h => .inl h)).trans (k3.mono fun j _ e => by subst e; exact .inl h.ob)⟩
    · exact (e2.keep k3 (fun j h5 h6 => by have h7 := h.lt _ h.ob; rw [← h6] at h7; have := hk.size; omega)).mono (fun j _ h => Nat.le_trans hk.size h)
    · rw [h3]
      refine (hv.hd.set 4 _).congr fun i hi => ?_
      rw [kF_lo _ _ _ i hi]; rfl)
  have HK := Lib.hid (And.intro h.hd h.ob)
  obtain ⟨n, hn⟩ : ∃ n, k.l.length - scavN k = n := ⟨_, rfl⟩
  obtain ⟨r, hr⟩ : ∃ r, scavN k = r := ⟨_, rfl⟩
  have hr2 : (k.lo + 1) / 2 = r := hr
  obtain ⟨m, hm0⟩ : ∃ m, k.lim = m := ⟨_, rfl⟩
  obtain ⟨b, hb0⟩ : ∃ b, k.b = b := ⟨_, rfl⟩
  obtain ⟨lo, hlo0⟩ : ∃ lo, k.lo = lo := ⟨_, rfl⟩
  have HLM := Lib.hid hm0
  rw [hn] at HYF HFIN
  rw [hr] at HFIN HO HY HYF
  rw [hm0] at c3 hm hm1 HL
  rw [hb0] at c1 hb hbb HL
  rw [hlo0] at hr2 hlo c4
  have HQ := Lib.hid (show wrap64 ((lo : Int) + 1) = (lo : Int) + 1 ∧ IntKind.i64.wrap ((lo : Int) + 1) = (lo : Int) + 1 ∧ ((lo : Int) + 1).tdiv 2 = (r : Int) ∧ ((lo : Int) + 1) / 2 = (r : Int) ∧ wrap64 (r : Int) = r ∧ IntKind.i64.wrap (r : Int) = r from
    ⟨(w64 _ (by omega)).1, (w64 _ (by omega)).2, by rw [Int.tdiv_eq_ediv_of_nonneg (by omega)]; omega, by omega, (w64 _ (by omega)).1, (w64 _ (by omega)).2⟩)
  have HF0 := Lib.hid (fun (w' : World) (hcl : Cl w' p 5 (kF k V)) (hk : Keep (fun j => j = p) w w') (hx : ¬ b < m) => show KAt w' O p V { k with lim := scavL k } from HU.out m w' (by rw [HL.out, if_neg hx]) (hcl.congr fun i hi => by
      by_cases e : i = 3
      · subst e; rw [if_pos rfl, ← HLM.out]; rfl
      · rw [if_neg e]) hk)
  clear h hn hr hm0 hb0 hlo0 hr2 hlen hlo hwf1
  by_cases hlt : b < m
  · have d1 : decide ((b : Int) < (m : Int)) = true := decide_eq_true (by omega)
    have d2 : decide (b < m) = true := decide_eq_true hlt
    rw [if_pos hlt] at HL
    obtain ⟨D, hD⟩ : ∃ D, m - b = D := ⟨_, rfl⟩
    rw [hD] at HL
    have e0 : (m : Int) - (b : Int) = (D : Int) := by omega
    have HE := Lib.hid (w64 (D : Int) (by omega))
    obtain ⟨g1, g2⟩ := HE.out
    have hD2 : ¬ (D ≤ b ∧ b < D) := by omega
    by_cases hdb : D < b
    · skip
      go_enter Try.func63, Try.ntmps63
      go_wp2
      go_quiet (fail)
      go_wp2
      go_region
      have hW := HU.out (b) _ (by rw [HL.out]; omega) ((HK.out.1.drewN (nq + 1)).set 3 (.int .i64 ((b : Nat) : Int))) (keep_set (F := fun j => j = p) (keepN (Keep.refl _ _) (nq + 1)) rfl _)
      have hkW : Keep (fun j => j = p) w ((w.drewN (nq + 1)).setCell ⟨p, 3, none⟩ (.int .i64 ((b : Nat) : Int))) := keep_set (F := fun j => j = p) (keepN (Keep.refl _ _) (nq + 1)) rfl _
      have HW := Lib.hid hW
      have HKW := Lib.hid hkW
      clear hW hkW
      have HOC := Lib.hid (HO.out _ (⟨_, HW.out⟩))
      clear e0 g1 g2 d1 d2
      have q1 := HQ.out.1
      have q2 := HQ.out.2.1
      obtain ⟨q3, q4, q5, q6⟩ := HQ.out.2.2
      go_wp2_with (go_at_call 65; refine HOC.out.mono ?_; rintro e w2 ⟨A1, c5, rfl, e2, e3, e4⟩; have HP := Lib.hid (And.intro e2 (And.intro e3 e4)); obtain ⟨V3, HV3, y2, y4, u4, y5⟩ := HY.out _ e3; have HV3 := Lib.hid HV3; obtain ⟨A3, c3', rfl⟩ := HYF.out _ _ HV3.out; clear e2 e3 e4 q1 q2 q3 q4 q5 q6 c1 c3 c4 f3)
      all_goals
        go_ret
        exact HFIN.out _ _ _ _ _ _ HKW.out HP.out HV3.out rfl
    · have hdb2 : b ≤ D := by omega
      go_enter Try.func63, Try.ntmps63
      go_wp2
      go_quiet (fail)
      go_wp2
      go_region
      have hW := HU.out (D) _ (by rw [HL.out]; omega) ((HK.out.1.drewN (nq + 1)).set 3 (.int .i64 ((D : Nat) : Int))) (keep_set (F := fun j => j = p) (keepN (Keep.refl _ _) (nq + 1)) rfl _)
      have hkW : Keep (fun j => j = p) w ((w.drewN (nq + 1)).setCell ⟨p, 3, none⟩ (.int .i64 ((D : Nat) : Int))) := keep_set (F := fun j => j = p) (keepN (Keep.refl _ _) (nq + 1)) rfl _
      have HW := Lib.hid hW
      have HKW := Lib.hid hkW
      clear hW hkW
      have HOC := Lib.hid (HO.out _ (⟨_, HW.out⟩))
      clear e0 g1 g2 d1 d2
      have q1 := HQ.out.1
      have q2 := HQ.out.2.1
      obtain ⟨q3, q4, q5, q6⟩ := HQ.out.2.2
      go_wp2_with (go_at_call 65; refine HOC.out.mono ?_; rintro e w2 ⟨A1, c5, rfl, e2, e3, e4⟩; have HP := Lib.hid (And.intro e2 (And.intro e3 e4)); obtain ⟨V3, HV3, y2, y4, u4, y5⟩ := HY.out _ e3; have HV3 := Lib.hid HV3; obtain ⟨A3, c3', rfl⟩ := HYF.out _ _ HV3.out; clear e2 e3 e4 q1 q2 q3 q4 q5 q6 c1 c3 c4 f3)
      all_goals
        go_ret
        exact HFIN.out _ _ _ _ _ _ HKW.out HP.out HV3.out rfl
  · have d1 : decide ((b : Int) < (m : Int)) = false := decide_eq_false (by omega)
    have d2 : decide (b < m) = false := decide_eq_false hlt
    go_enter Try.func63, Try.ntmps63
    go_wp2
    go_quiet (fail)
    have hW := HF0.out (w.drewN nq) (HK.out.1.drewN nq) (keepN (Keep.refl _ _) nq) hlt
    have hkW : Keep (fun j => j = p) w (w.drewN nq) := keepN (Keep.refl _ _) nq
    have HW := Lib.hid hW
    have HKW := Lib.hid hkW
    clear hW hkW
    have HOC := Lib.hid (HO.out _ (⟨_, HW.out⟩))
    have q1 := HQ.out.1
    have q2 := HQ.out.2.1
    obtain ⟨q3, q4, q5, q6⟩ := HQ.out.2.2
    go_wp2_with (go_at_call 65; refine HOC.out.mono ?_; rintro e w2 ⟨A1, c5, rfl, e2, e3, e4⟩; have HP := Lib.hid (And.intro e2 (And.intro e3 e4)); obtain ⟨V3, HV3, y2, y4, u4, y5⟩ := HY.out _ e3; have HV3 := Lib.hid HV3; obtain ⟨A3, c3', rfl⟩ := HYF.out _ _ HV3.out; clear e2 e3 e4 q1 q2 q3 q4 q5 q6 c1 c3 c4 f3)
    all_goals
      go_ret
      exact HFIN.out _ _ _ _ _ _ HKW.out HP.out HV3.out rfl
end Go.Proofs.Yticcjelaenhigaa
