/- Package cache, its lists: oldest, overflow, scavenge, clone. -/
import Derived.Test.YticcjelaenhigaaLb
namespace Go.Proofs.Yticcjelaenhigaa
open Go.RowKit Go.Lib

/-- A row of one's own, as a slice that is read. -/
theorem own_off {w : World} {base n : Nat} {v : Value} {xs : List Value} (h : w.ownsRow base 3 1 v n xs) : OffR w 3 v xs ∧ ∀ g, v.ownBlock = some g → base ≤ g := ⟨OffR.of_own h, fun g hg => (h.lt g hg).1⟩
theorem kF_out (k : Kl) (V V' : Value) (n : Nat) (l : List Int) : ∀ i, i < 5 → (if i = 4 then Value.int .i64 (n : Int) else if i = 2 then V' else kF k V i) = kF { k with l := l, lo := n } V' i := kF_pop k V V' n l
/-- What oldest returns and leaves: the list owns what it did. -/
def OlP (w : World) (O : Nat → Prop) (p m : Nat) (l : List Int) (k' : Kl) (e : Ending) (w' : World) : Prop := ∃ A c, e = .returned (.slice A m c) ∧ IAt (fun g => w.heap.size ≤ g) w' A (l.take m) ∧ KOb w' O p k' ∧ Keep O w w'
theorem ol_post {w w1 w2 w3 w4 : World} {O : Nat → Prop} {p m c1 c : Nat} {A A1 : Option Addr} {k : Kl} {n lo : Nat} (h : KAt w O p (.slice A n c) k) (hn : k.l.length = n) (_ : m ≤ n)
    (h1 : w1.ownsRow w.heap.size 3 1 (.slice A1 m c1) m (cZ (k.l.take m))) (hb1 : Below w.heap.size w w1)
    (h2 : OffR w2 3 (.slice A (n - m) c) (cZ (k.l.drop m))) (hk2 : Keep (fun j => (Value.slice A n c).ownBlock = some j) w1 w2)
    (h3 : w3 = w2.setCell ⟨p, 2, none⟩ (.slice A (n - m) c)) (q : Nat) (hlo : lo = min k.lo (n - m)) (h4 : w4 = (w3.drewN q).setCell ⟨p, 4, none⟩ (.int .i64 (lo : Nat))) : OlP w O p m k.l (outK k m) (.returned (.slice A1 m c1)) w4 := by
  have hp2 : w2.heap[p]? = w.heap[p]? := (hk2.block p (Nat.lt_of_lt_of_le h.hd.lt hb1.size) (fun e => (h.rowO p e).2 rfl)).trans (hb1.block p h.hd.lt)
  have kO : Keep O w w2 := (Keep.of (O := O) hb1).trans (hk2.mono fun j _ e => .inl (h.rowO j e).1)
  have k24 : Keep (fun j => j = p) w2 w4 := by
    rw [h4, h3]
    exact keep_set (F := fun j => j = p) (keepN (keep_set (F := fun j => j = p) (Keep.refl _ _) rfl _) q) rfl _
  have hown : ∀ g, (Value.slice A (n - m) c).ownBlock = some g → (Value.slice A n c).ownBlock = some g := fun g hg => by cases A with | none => cases hg | some a => exact hg
  refine ⟨A1, c1, rfl, ?_, ⟨.slice A (n - m) c, outK_wf h.wf m, ?_, ?_, fun g hg => h.rowO g (hown g hg), h.ob, fun a ha => h.inr a (List.mem_of_mem_drop ha), fun j ho => Nat.lt_of_lt_of_le (h.lt j ho) (Nat.le_trans kO.size k24.size)⟩, kO.trans (k24.mono fun j _ e => by subst e; exact .inl h.ob)⟩
  · have i1 : IAt (fun g => w.heap.size ≤ g) w1 A1 (k.l.take m) := (own_off h1).1.iat (own_off h1).2 (fun a ha => h.inr a (List.mem_of_mem_take ha))
    have i2 := i1.keep hk2 (fun j h5 h6 => by have := h.lt j (h.rowO j h6).1; omega)
    exact i2.keep k24 (fun j h5 h6 => by have h7 := h.lt _ h.ob; rw [← h6] at h7; omega)
  · rw [h4, h3]
    refine ((((h.hd.of_block hp2).set 2 _).drewN q).set 4 _).congr fun i hi => ?_
    rw [kF_out k _ _ lo (k.l.drop m) i hi, hlo]
    unfold outK
    rw [hn]
  · exact h2.block fun g hg hl => k24.block g hl (fun e => (h.rowO g (hown g hg)).2 e)

set_option maxRecDepth 100000 in
set_option maxHeartbeats 2000000 in
theorem loldest_any {w : World} {O : Nat → Prop} {p m : Nat} {k : Kl} (h : KOb w O p k) (hm : m ≤ k.l.length) : Calls Try.prog 65 #[.pointer (some ⟨p, 0, none⟩), .int .i64 (m : Nat)] w (OlP w O p m k.l (outK k m)) := by
  obtain ⟨V, h⟩ := h
  obtain ⟨A, c, rfl, h1, h2⟩ := h.form
  obtain ⟨n, hn⟩ : ∃ n, k.l.length = n := ⟨_, rfl⟩
  have hl := h.wf.len
  rw [hn] at h1 hm hl h
  have hc := h.row.cut m (by rw [cZ_len, hn]; exact hm) c (by omega) (Nat.le_refl _)
  rw [cZ_take] at hc
  have HC := Lib.hid (slClone_any A m c (k.l.take m) w (by rw [List.length_take]; omega) (by omega) hc)
  have HD := Lib.hid (fun (w1 : World) (hb : Below w.heap.size w w1) => slDelete_any A n c m k.l w1 hn (by omega) hm (h.row.below hb))
  have HX := Lib.hid (fun (w1 w2 : World) (hb : Below w.heap.size w w1) (hk : Keep (fun j => (Value.slice A n c).ownBlock = some j) w1 w2) => show w2.cell? ⟨p, 2, none⟩ = some (.slice A n c) ∧ w2.frozen? ⟨p, 2, none⟩ = false ∧ w2.cell? ⟨p, 4, none⟩ = some (.int .i64 k.lo) ∧ w2.frozen? ⟨p, 4, none⟩ = false from by
    have hp2 : w2.heap[p]? = w.heap[p]? := (hk.block p (Nat.lt_of_lt_of_le h.hd.lt hb.size) (fun e => (h.rowO p e).2 rfl)).trans (hb.block p h.hd.lt)
    have hcl := h.hd.of_block hp2
    exact ⟨hcl.cell 2 (by omega), hcl.free 2 (by omega), hcl.cell 4 (by omega), hcl.free 4 (by omega)⟩)
  have HF := Lib.hid h
  have HN := Lib.hid (And.intro hn hm)
  have c2 := h.cells.2.2.1
  have hs := sl_to A n c m (by omega)
  obtain ⟨D, hD⟩ : ∃ D, n - m = D := ⟨_, rfl⟩
  have HDD := Lib.hid hD
  obtain ⟨lo, hlo⟩ : ∃ lo, k.lo = lo := ⟨_, rfl⟩
  have HLO := Lib.hid hlo
  rw [hlo] at HX
  clear h hc hn hm hD hlo
  go_enter Try.func65, Try.ntmps65
  go_wp2_with (go_at_call 57; refine HC.out.mono ?_; rintro e w1 ⟨A1, c1, rfl, hrow, hb⟩; have HR := Lib.hid (And.intro hrow hb); have x1 := (HX.out _ _ hb (Keep.refl _ _)).1; clear hrow hb c2)
  go_wp2_with (go_at_call 76; refine (HD.out _ HR.out.2).mono ?_; rintro e w2 ⟨rfl, hrow, hk⟩; have HR2 := Lib.hid (And.intro hrow hk); obtain ⟨y1, y2, y3, y4⟩ := HX.out _ _ HR.out.2 hk; clear hrow hk x1; rw [HDD.out])
  go_region
  go_wp2
  all_goals
    go_ret
    have h1' := HR2.out.1
    rw [HDD.out] at h1'
    refine ol_post (w1 := w1) (w2 := w2) (q := 1) HF.out HN.out.1 HN.out.2 HR.out.1 HR.out.2 HR2.out.1 HR2.out.2 (by rw [HDD.out]) ?_ rfl
    rw [HLO.out, HDD.out]
    omega

/-- What overflow and scavenge return and leave. -/
theorem upK_kF (k : Kl) (V : Value) (n : Nat) (h : n = (upK k).lim) : ∀ i, i < 5 → (if i = 3 then Value.int .i64 (n : Int) else kF k V i) = kF (upK k) V i := fun i hi => by
  rw [kF_lim k V n i hi, h]; rfl
set_option maxRecDepth 100000 in
set_option maxHeartbeats 2000000 in
theorem loverflow_any {w : World} {O : Nat → Prop} {p : Nat} {k : Kl} (h : KOb w O p k) : Calls Try.prog 66 #[.pointer (some ⟨p, 0, none⟩)] w (OlP w O p (overN k) k.l (overK k)) := by
  have hmx : Try.prog.follows .mixedOrders = true := by kernel_rfl
  obtain ⟨V, h⟩ := h
  have hlen := h.wf.len
  have hm := h.wf.m128
  have hb := h.wf.b32
  have HU := Lib.hid (fun (n : Nat) (w' : World) (e : n = (upK k).lim) (hcl : Cl w' p 5 (fun i => if i = 3 then Value.int .i64 (n : Int) else kF k V i)) (hk : Keep (fun j => j = p) w w') => show KAt w' O p V (upK k) from h.set (upK_wf h.wf) rfl (hcl.congr fun i hi => upK_kF k V n e i hi) hk)
  have HO := Lib.hid (fun (w1 : World) (hk : KOb w1 O p (upK k)) => loldest_any (m := overN k) hk (by show min _ _ ≤ k.l.length; omega))
  have HUC := Lib.hid (fun (w1 : World) (hk : KAt w1 O p V (upK k)) => show w1.cell? ⟨p, 1, none⟩ = some (.int .i64 k.b) ∧ w1.cell? ⟨p, 2, none⟩ = some V from ⟨hk.cells.2.1, hk.cells.2.2.1⟩)
  have HL := Lib.hid (show (upK k).lim = if k.lim < k.b then k.lim + 1 else k.lim from rfl)
  have HOV := Lib.hid (show overK k = outK (upK k) (overN k) from rfl)
  have HOW := Lib.hid h.lt
  obtain ⟨A, c, rfl, z1, z2⟩ := h.form
  clear z1 z2
  have c1 := h.cells.2.1
  have c2 := h.cells.2.2.1
  have c3 := h.cells.2.2.2.1
  have f3 := h.hd.free 3 (by omega)
  have HH := Lib.hid h
  obtain ⟨r, hr⟩ : ∃ r, overN k = r := ⟨_, rfl⟩
  have hr2 : min k.b k.l.length = r := hr
  rw [hr] at HO ⊢
  rw [hr] at HOV
  obtain ⟨n, hn⟩ : ∃ n, k.l.length = n := ⟨_, rfl⟩
  rw [hn] at c2 hr2 hlen HUC HU
  have HNN := Lib.hid hn
  obtain ⟨m, hm0⟩ : ∃ m, k.lim = m := ⟨_, rfl⟩
  have HLM := Lib.hid hm0
  obtain ⟨b, hb0⟩ : ∃ b, k.b = b := ⟨_, rfl⟩
  rw [hm0] at c3 hm HL
  rw [hb0] at c1 hb hr2 HUC HL
  have HFIN := Lib.hid (fun (w1 w2 : World) (e : Ending) (hk : Keep (fun j => j = p) w w1) (hp : OlP w1 O p r (upK k).l (outK (upK k) r) e w2) => show OlP w O p r k.l (overK k) e w2 from by
    obtain ⟨A1, c1', e1, e2, e3, e4⟩ := hp
    rw [HOV.out]
    exact ⟨A1, c1', e1, e2.mono (fun j _ h => Nat.le_trans hk.size h), e3, (hk.mono (fun j _ e => by subst e; exact h.ob)).trans (e4.mono fun j _ h => .inl h)⟩)
  have HK := Lib.hid (And.intro h.hd h.ob)
  rw [hn] at HK
  clear h hn hm0 hb0 hr HH
  by_cases hlt : m < b
  · have d1 : decide ((m : Int) < (b : Int)) = true := decide_eq_true (by omega)
    rw [if_pos hlt] at HL
    obtain ⟨q1, q2⟩ := w64 ((m : Int) + 1) (by omega)
    by_cases hbn : b ≤ n
    · obtain rfl : b = r := by omega
      go_enter Try.func66, Try.ntmps66
      go_wp2
      go_quiet (fail)
      go_wp2
      have hW := HU.out (m + 1) _ HL.out.symm ((HK.out.1.drewN nq).set 3 (.int .i64 ((m + 1 : Nat) : Int))) (keep_set (F := fun j => j = p) (keepN (Keep.refl _ _) nq) rfl _)
      have hkW : Keep (fun j => j = p) w ((w.drewN nq).setCell ⟨p, 3, none⟩ (.int .i64 ((m + 1 : Nat) : Int))) := keep_set (F := fun j => j = p) (keepN (Keep.refl _ _) nq) rfl _
      rw [show ((m + 1 : Nat) : Int) = (m : Int) + 1 from by omega] at hW hkW
      obtain ⟨W1, hW1⟩ : ∃ W1, (w.drewN nq).setCell ⟨p, 3, none⟩ (.int .i64 ((m : Int) + 1)) = W1 := ⟨_, rfl⟩
      rw [hW1] at hW hkW ⊢
      have HW := Lib.hid hW
      have HKW := Lib.hid hkW
      clear hW hkW hW1
      obtain ⟨z1, z2⟩ := HUC.out _ HW.out
      have HOC := Lib.hid (HO.out _ (KOb.below ⟨_, HW.out⟩ (belowN (Below.refl _ _) 1)))
      have HKE := Lib.hid (show Keep (fun j => j = p) w W1 from HKW.out)
      clear c1 c2 c3 f3 q1 q2 d1
      go_still_tail 11, hmx
      change wpList _ _ _ _ _ W1.drew
      go_wp2_with (go_at_call 65; refine HOC.out.mono ?_; rintro e w2 ⟨A1, c5, rfl, e2, e3, e4⟩; have HP := Lib.hid (And.intro e2 (And.intro e3 e4)); clear e2 e3 e4)
      go_ret
      exact HFIN.out _ _ _ (keepN HKE.out 1) ⟨A1, c5, rfl, HP.out⟩
    · have hnb : ¬ b ≤ n := hbn
      obtain rfl : n = r := by omega
      go_enter Try.func66, Try.ntmps66
      go_wp2
      go_quiet (fail)
      go_wp2
      have hW := HU.out (m + 1) _ HL.out.symm ((HK.out.1.drewN nq).set 3 (.int .i64 ((m + 1 : Nat) : Int))) (keep_set (F := fun j => j = p) (keepN (Keep.refl _ _) nq) rfl _)
      have hkW : Keep (fun j => j = p) w ((w.drewN nq).setCell ⟨p, 3, none⟩ (.int .i64 ((m + 1 : Nat) : Int))) := keep_set (F := fun j => j = p) (keepN (Keep.refl _ _) nq) rfl _
      rw [show ((m + 1 : Nat) : Int) = (m : Int) + 1 from by omega] at hW hkW
      obtain ⟨W1, hW1⟩ : ∃ W1, (w.drewN nq).setCell ⟨p, 3, none⟩ (.int .i64 ((m : Int) + 1)) = W1 := ⟨_, rfl⟩
      rw [hW1] at hW hkW ⊢
      have HW := Lib.hid hW
      have HKW := Lib.hid hkW
      clear hW hkW hW1
      obtain ⟨z1, z2⟩ := HUC.out _ HW.out
      have HOC := Lib.hid (HO.out _ (KOb.below ⟨_, HW.out⟩ (belowN (Below.refl _ _) 1)))
      have HKE := Lib.hid (show Keep (fun j => j = p) w W1 from HKW.out)
      clear c1 c2 c3 f3 q1 q2 d1
      go_still_tail 11, hmx
      change wpList _ _ _ _ _ W1.drew
      go_wp2_with (go_at_call 65; refine HOC.out.mono ?_; rintro e w2 ⟨A1, c5, rfl, e2, e3, e4⟩; have HP := Lib.hid (And.intro e2 (And.intro e3 e4)); clear e2 e3 e4)
      go_ret
      exact HFIN.out _ _ _ (keepN HKE.out 1) ⟨A1, c5, rfl, HP.out⟩
  · have d1 : decide ((m : Int) < (b : Int)) = false := decide_eq_false (by omega)
    have d2 : decide (m < b) = false := decide_eq_false hlt
    rw [if_neg hlt] at HL
    have HU0 := Lib.hid (fun (w' : World) (hcl : Cl w' p 5 (kF k (.slice A n c))) (hk : Keep (fun j => j = p) w w') => HU.out m w' HL.out.symm (hcl.congr fun i hi => by
      by_cases e : i = 3
      · subst e; rw [if_pos rfl, ← HLM.out]; rfl
      · rw [if_neg e]) hk)
    by_cases hbn : b ≤ n
    · obtain rfl : b = r := by omega
      go_enter Try.func66, Try.ntmps66
      go_wp2
      go_quiet (fail)
      go_wp2
      have hW := HU0.out (w.drewN nq) (HK.out.1.drewN nq) (keepN (Keep.refl _ _) nq)
      have hkW : Keep (fun j => j = p) w (w.drewN nq) := keepN (Keep.refl _ _) nq
      obtain ⟨W1, hW1⟩ : ∃ W1, w.drewN nq = W1 := ⟨_, rfl⟩
      rw [hW1] at hW hkW ⊢
      have HW := Lib.hid hW
      have HKW := Lib.hid hkW
      clear hW hkW hW1
      obtain ⟨z1, z2⟩ := HUC.out _ HW.out
      have HOC := Lib.hid (HO.out _ (KOb.below ⟨_, HW.out⟩ (belowN (Below.refl _ _) 1)))
      have HKE := Lib.hid (show Keep (fun j => j = p) w W1 from HKW.out)
      clear c1 c2 c3 f3 d1 d2
      go_still_tail 11, hmx
      change wpList _ _ _ _ _ W1.drew
      go_wp2_with (go_at_call 65; refine HOC.out.mono ?_; rintro e w2 ⟨A1, c5, rfl, e2, e3, e4⟩; have HP := Lib.hid (And.intro e2 (And.intro e3 e4)); clear e2 e3 e4)
      go_ret
      exact HFIN.out _ _ _ (keepN HKE.out 1) ⟨A1, c5, rfl, HP.out⟩
    · have hnb : ¬ b ≤ n := hbn
      obtain rfl : n = r := by omega
      go_enter Try.func66, Try.ntmps66
      go_wp2
      go_quiet (fail)
      go_wp2
      have hW := HU0.out (w.drewN nq) (HK.out.1.drewN nq) (keepN (Keep.refl _ _) nq)
      have hkW : Keep (fun j => j = p) w (w.drewN nq) := keepN (Keep.refl _ _) nq
      obtain ⟨W1, hW1⟩ : ∃ W1, w.drewN nq = W1 := ⟨_, rfl⟩
      rw [hW1] at hW hkW ⊢
      have HW := Lib.hid hW
      have HKW := Lib.hid hkW
      clear hW hkW hW1
      obtain ⟨z1, z2⟩ := HUC.out _ HW.out
      have HOC := Lib.hid (HO.out _ (KOb.below ⟨_, HW.out⟩ (belowN (Below.refl _ _) 1)))
      have HKE := Lib.hid (show Keep (fun j => j = p) w W1 from HKW.out)
      clear c1 c2 c3 f3 d1 d2
      go_still_tail 11, hmx
      change wpList _ _ _ _ _ W1.drew
      go_wp2_with (go_at_call 65; refine HOC.out.mono ?_; rintro e w2 ⟨A1, c5, rfl, e2, e3, e4⟩; have HP := Lib.hid (And.intro e2 (And.intro e3 e4)); clear e2 e3 e4)
      go_ret
      exact HFIN.out _ _ _ (keepN HKE.out 1) ⟨A1, c5, rfl, HP.out⟩
end Go.Proofs.Yticcjelaenhigaa
