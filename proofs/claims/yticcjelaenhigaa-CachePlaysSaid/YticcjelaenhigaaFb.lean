/- The statements' helpers: a cache of one's own; do, made. -/
import Derived.Test.YticcjelaenhigaaFa
namespace Go.Proofs.Yticcjelaenhigaa
open Go.RowKit Go.Lib

/-- A cache of one's own, since w0. -/
structure Own (r : Bool) (w0 w : World) (v : Value) (om : Option Tc) (O : Nat → Prop) : Prop where
  ob : TOb r w O v om
  nw : ∀ k, O k → w0.heap.size ≤ k
  bel : Below w0.heap.size w0 w
section
variable {r ra rb : Bool} {w00 w0 w w' : World} {v a b : Value} {om om' oa oa' ob ob' : Option Tc} {O O' O1 O2 : Nat → Prop}
theorem Own.turn (h : Own r w0 w v om O) (ht : TOb r w' O' v om') (hs : ∀ j, O' j → Ext O w w' j) (hk : Keep O w w') : Own r w0 w' v om' O' :=
  ⟨ht, fun k hk' => by
    rcases hs k hk' with hk' | hk'
    · exact h.nw k hk'
    · exact Nat.le_trans h.bel.size hk'.1, h.bel.trans (hk.below h.bel.size h.nw)⟩
theorem Own.mut (h : Own r w0 w v om O) (hM : TMut r w O v om' w') : Own r w0 w' v om' (Ext O w w') := h.turn hM.1 (fun _ h => h) hM.2
theorem Own.below (h : Own r w0 w v om O) (hb : Below w.heap.size w w') : Own r w0 w' v om O := ⟨h.ob.below hb, h.nw, btr h.bel hb (Nat.le_refl _)⟩
theorem Own.later (h : Own r w0 w v om O) (hb : Below w00.heap.size w00 w0) : Own r w00 w v om O := ⟨h.ob, fun k hk => Nat.le_trans hb.size (h.nw k hk), btr hb h.bel (Nat.le_refl _)⟩
theorem Own.new (h : TOb r w (Nw w0 w) v om) (hb : Below w0.heap.size w0 w) : Own r w0 w v om (Nw w0 w) := ⟨h, fun _ hk => hk.1, hb⟩
/-- Two caches of one's own, apart. -/
structure Two (ra rb : Bool) (w0 w : World) (a b : Value) (oa ob : Option Tc) (O1 O2 : Nat → Prop) : Prop where
  a : Own ra w0 w a oa O1
  b : Own rb w0 w b ob O2
  d : ∀ k, O1 k → O2 k → False
theorem Two.below (h : Two ra rb w0 w a b oa ob O1 O2) (hb : Below w.heap.size w w') : Two ra rb w0 w' a b oa ob O1 O2 := ⟨h.a.below hb, h.b.below hb, h.d⟩
theorem Two.swap (h : Two ra rb w0 w a b oa ob O1 O2) : Two rb ra w0 w b a ob oa O2 O1 := ⟨h.b, h.a, fun k x y => h.d k y x⟩
theorem Two.left (h : Two ra rb w0 w a b oa ob O1 O2) (ht : TOb ra w' O' a oa') (hs : ∀ j, O' j → Ext O1 w w' j) (hk : Keep O1 w w') : Two ra rb w0 w' a b oa' ob O' O2 :=
  ⟨h.a.turn ht hs hk, ⟨h.b.ob.keep hk (fun k h2 h1 => h.d k h1 h2), h.b.nw, (h.a.turn ht hs hk).bel⟩, fun k h1 h2 => by
    rcases hs k h1 with h1 | h1
    · exact h.d k h1 h2
    · have := h.b.ob.lt k h2; omega⟩
theorem Two.right (h : Two ra rb w0 w a b oa ob O1 O2) (ht : TOb rb w' O' b ob') (hs : ∀ j, O' j → Ext O2 w w' j) (hk : Keep O2 w w') : Two ra rb w0 w' a b oa ob' O1 O' := (h.swap.left ht hs hk).swap
theorem Two.of (h1 : Own ra w0 w a oa O1) (h2 : Own rb w w' b ob O2) : Two ra rb w0 w' a b oa ob O1 O2 :=
  ⟨h1.below h2.bel, h2.later h1.bel, fun k h3 h4 => by have := h1.ob.lt k h3; have := h2.nw k h4; omega⟩
theorem Two.later (h : Two ra rb w0 w a b oa ob O1 O2) (hb : Below w00.heap.size w00 w0) : Two ra rb w00 w a b oa ob O1 O2 := ⟨h.a.later hb, h.b.later hb, h.d⟩
end

theorem newA4 (w : World) (a b c d : Value) (t : TypeId) : ∃ W0, w.alloc (.cells #[a, b, c, d] t) = W0 ∧ Below w.heap.size w W0 ∧ w.heap.size < W0.heap.size ∧ W0.cell? ⟨w.heap.size, 0, none⟩ = some a ∧ W0.cell? ⟨w.heap.size, 1, none⟩ = some b ∧ W0.cell? ⟨w.heap.size, 2, none⟩ = some c ∧ W0.cell? ⟨w.heap.size, 3, none⟩ = some d := by
  refine ⟨_, rfl, bnew _ _, by simp, ?_, ?_, ?_, ?_⟩ <;> exact cell_block (heap_alloc_new w _) rfl
/-- What a call returns and leaves. -/
def DoQ (w : World) (O : Nat → Prop) (v : Value) (od : Option Tc) (lv : List Int) (ev : Int) (e : Ending) (w' : World) : Prop := ∃ A c', e = .returned (.tuple #[.slice A lv.length c', .int .i64 ev]) ∧ ∃ O', TOb false w' O' v od ∧ (∀ j, O' j → Ext O w w' j) ∧ Keep O w w' ∧ IAt (fun g => w.heap.size ≤ g ∧ ¬ O' g) w' A lv
def DoP (w : World) (O : Nat → Prop) (v : Value) (om : Option Tc) (x : Ak) : Ending → World → Prop := DoQ w O v (dkD om x) (dkV om x) (dkE om x)
theorem do_shift {w W0 w' : World} {O O' : Nat → Prop} {v : Value} {od : Option Tc} {A : Option Addr} {l : List Int} (hb : Below w.heap.size w W0) (h1 : TOb false w' O' v od) (h2 : ∀ j, O' j → Ext O W0 w' j) (h3 : Keep O W0 w') (h4 : IAt (fun g => W0.heap.size ≤ g ∧ ¬ O' g) w' A l) :
    ∃ O', TOb false w' O' v od ∧ (∀ j, O' j → Ext O w w' j) ∧ Keep O w w' ∧ IAt (fun g => w.heap.size ≤ g ∧ ¬ O' g) w' A l :=
  ⟨O', h1, fun j hj => by
    rcases h2 j hj with h | h
    · exact .inl h
    · exact .inr ⟨Nat.le_trans hb.size h.1, h.2⟩, (Keep.of hb).trans (h3.mono fun j _ h => .inl h), h4.mono fun g _ h => ⟨Nat.le_trans hb.size h.1, h.2⟩⟩
theorem batV_le {r : Bool} {w : World} {O : Nat → Prop} {v : Value} {om : Option Tc} {f : Kl → List Int} (h : TOb r w O v om) (hf : ∀ k, KWf k → (f k).length ≤ 256) : (batV f om).length ≤ 40 ∧ ∀ x ∈ batV f om, x.2 ≠ [] ∧ x.2.length ≤ 256 := by
  cases om with
  | none => exact ⟨Nat.zero_le _, fun x hx => by cases hx⟩
  | some c =>
    refine ⟨?_, fun x hx => ?_⟩
    · have := batQ_len (hK f c.K) (List.range c.K.length)
      rw [List.length_range] at this
      exact Nat.le_trans this h.wf.n40
    · obtain ⟨h1, h2, h3⟩ := batQ_mem hx
      refine ⟨h3, ?_⟩
      rw [h2]
      unfold hK
      cases hk : c.K[x.1]? with
      | none => exact Nat.zero_le _
      | some k => exact hf k (h.wf.k k (List.mem_of_getElem? hk))
theorem scavV_le (k : Kl) (h : KWf k) : (scavV k).length ≤ 256 := by unfold scavV; rw [List.length_take]; have := h.len; omega
theorem drainV_le (k : Kl) (h : KWf k) : (drainV k).length ≤ 256 := by unfold drainV; rw [List.length_take]; have := h.len; omega

theorem dk0 (om : Option Tc) (x : Ak) (h : x.k = 0) : dkD om x = tkD om x.c ∧ dkE om x = tkE om x.c ∧ dkV om x = if tkE om x.c = 0 then [tkV om x.c] else [] := by
  unfold dkD dkE dkV; rw [if_pos h, if_pos h, if_pos h]; exact ⟨rfl, rfl, rfl⟩
theorem dk1 (om : Option Tc) (x : Ak) (h : x.k = 1) : dkD om x = om ∧ dkE om x = errK om x.c ∧ dkV om x = [] := by
  unfold dkD dkE dkV; simp [h]
theorem dk2 (om : Option Tc) (x : Ak) (h : x.k = 2) : dkD om x = flD om x.c x.l ∧ dkE om x = flE om x.c x.l ∧ dkV om x = [] := by
  unfold dkD dkE dkV; simp [h]
theorem dk3 (om : Option Tc) (x : Ak) (h : x.k = 3) : dkD om x = ptD om x.c x.a ∧ dkE om x = ptE om x.c ∧ dkV om x = ptV om x.c x.a := by
  unfold dkD dkE dkV; simp [h]
theorem dk4 (om : Option Tc) (x : Ak) (h : x.k = 4) : dkD om x = mapK scavK om ∧ dkE om x = 0 ∧ dkV om x = (batV scavV om).flatMap (·.2) := by
  unfold dkD dkE dkV; simp [h]
theorem dk5 (om : Option Tc) (x : Ak) (h : x.k = 5) : dkD om x = mapK drainK om ∧ dkE om x = 0 ∧ dkV om x = (batV drainV om).flatMap (·.2) := by
  unfold dkD dkE dkV; simp [h]
theorem dk6 (om : Option Tc) (x : Ak) (h : ¬ (x.k = 0 ∨ x.k = 1 ∨ x.k = 2 ∨ x.k = 3 ∨ x.k = 4 ∨ x.k = 5)) : dkD om x = om ∧ dkE om x = 0 ∧ dkV om x = [] := by
  have h0 : ¬ x.k = 0 := by omega
  have h1 : ¬ x.k = 1 := by omega
  have h2 : ¬ x.k = 2 := by omega
  have h3 : ¬ x.k = 3 := by omega
  have h4 : ¬ x.k = 4 := by omega
  have h5 : ¬ x.k = 5 := by omega
  unfold dkD dkE dkV; simp [h0, h1, h2, h3, h4, h5]

set_option maxRecDepth 100000 in
set_option maxHeartbeats 4000000 in
theorem do_any {O : Nat → Prop} {v u : Value} {om : Option Tc} {w : World} (x : Ak) (h : TOb false w O v om) {N0 : Nat} (hN0 : N0 ≤ w.heap.size) (hO : ∀ k, O k → N0 ≤ k) (hx : AkV w N0 x u) :
    Calls Try.prog 27 #[v, .agg #[.int .i64 x.k, .int .i64 x.c, .int .i64 x.a, u]] w (DoP w O v om x) := by
  obtain ⟨i0, hi, hz0, hz1, hz2⟩ := info_parts info3
  obtain ⟨kk, kc, ka, l⟩ := x
  dsimp only
  obtain ⟨W0, hW, hb0, hz, c0, c1, c2, c3⟩ := newA4 w (.int .i64 kk) (.int .i64 kc) (.int .i64 ka) u 35
  have h0 := h.below hb0
  have hx0 := hx.below (hb0.mono hN0)
  obtain ⟨A, cap, rfl, hzz⟩ := hx0.v
  have HXV := Lib.hid hx0
  have HB := Lib.hid hb0
  have HS := Lib.hid h0
  dsimp only at hzz
  have hxc : InR kc := hx0.c
  have hxa : InR ka := hx0.a
  have hxn : l.length ≤ 9223372036854775807 := hx0.n
  by_cases k0 : kk = 0
  · subst k0
    obtain ⟨e1, e2, e3⟩ := dk0 om ⟨0, kc, ka, l⟩ rfl
    have HC := Lib.hid (cTake_any h0 hxc)
    unfold DoP
    rw [e1, e2, e3]
    unfold TkP at HC
    obtain ⟨tv, htv⟩ : ∃ tv, tkV om kc = tv := ⟨_, rfl⟩
    obtain ⟨te, hte⟩ : ∃ te, tkE om kc = te := ⟨_, rfl⟩
    rw [htv, hte] at HC ⊢
    clear e1 e2 e3 h h0 hx hx0 hzz hb0 hO hN0 hxc hxa hxn htv hte
    generalize l.length = ll at *
    by_cases hte0 : te = 0
    · subst hte0
      rw [if_pos rfl]
      go_enter Try.func27, Try.ntmps27
      go_wp2_with (first
        | (go_at_call 24; refine HC.out.mono ?_; rintro e w1 ⟨rfl, hM, hr⟩; have HM := Lib.hid (And.intro hM hr); clear hM hr)
        | (at_builtin; refine wpList_append_own _ rfl _ _ 33 rfl w1.heap.size 3 i0 (.int .i64 0) 1 8 undInts hi hz0 hz1 hz2 rfl (by decide) (.slice none 0 0) 0 [] rfl (World.ownsRow_nil _ _ _ _) ⟨w1.heap.size, 0, none⟩ 1 1 [.int .i64 tv] rfl rfl (fun j u hu => by rw [Addr.add_lit, Nat.zero_add]; exact cell_block (heap_alloc_new w1 _) (by simpa using hu)) (by simp [Value.oneCell']) (by unfold maxLen; omega) (by omega) (by simp) ?_; intro v' w3 hown hgrow _; have HR := Lib.hid (And.intro hown hgrow); obtain ⟨A9, c9, rfl⟩ := owns_form hown; clear hown hgrow))
      go_ret2
      have hb1 : Below w1.heap.size w1 w3 := (bnew w1 _).grown HR.out.2 (by simp) (fun k hk => by cases hk)
      refine ⟨A9, c9, rfl, do_shift HB.out (HM.out.1.1.below hb1) (fun j hj => ?_) (HM.out.1.2.trans ((Keep.of hb1).mono fun _ _ h => h)) ?_⟩
      · rcases hj with hj | hj
        · exact .inl hj
        · exact .inr ⟨hj.1, Nat.lt_of_lt_of_le hj.2 hb1.size⟩
      · have hcz : cZ [tv] = [] ++ [.int .i64 tv] := rfl
        have hr := HR.out.1
        rw [← hcz] at hr
        have hs1 := HM.out.1.2.size
        exact ((own_off hr).1.iat (own_off hr).2 (fun a ha => by rw [List.mem_singleton.1 ha]; exact HM.out.2)).mono fun g _ hg => ⟨Nat.le_trans hs1 hg, fun ho => by
          have hg : w1.heap.size ≤ g := hg
          have := HM.out.1.1.lt g ho
          omega⟩
    · rw [if_neg hte0]
      have hte1 : (te == 0) = false := by simpa using hte0
      clear hte0
      go_enter Try.func27, Try.ntmps27
      go_wp2_with (go_at_call 24; refine HC.out.mono ?_; rintro e w1 ⟨rfl, hM, hr⟩; have HM := Lib.hid (And.intro hM hr); clear hM hr)
      go_ret2
      exact ⟨none, 0, rfl, do_shift HB.out HM.out.1.1 (fun _ h => h) HM.out.1.2 (IAt.nil _ _ _)⟩
  by_cases k1 : kk = 1
  · subst k1
    obtain ⟨e1, e2, e3⟩ := dk1 om ⟨1, kc, ka, l⟩ rfl
    have HC := Lib.hid (cWant_any h0 hxc)
    unfold DoP
    rw [e1, e2, e3]
    unfold WtP at HC
    generalize wtV om kc = tv at *
    generalize errK om kc = te at *
    clear e1 e2 e3 h h0 hx hx0 hzz hb0 hO hN0 hxc hxa hxn
    generalize l.length = ll at *
    go_enter Try.func27, Try.ntmps27
    go_wp2_with (go_at_call 37; refine HC.out.mono ?_; rintro e w1 ⟨rfl, hM⟩; have HM := Lib.hid hM; clear hM)
    go_ret2
    exact ⟨none, 0, rfl, do_shift HB.out (HS.out.below HM.out) (fun _ h => .inl h) (Keep.of HM.out) (IAt.nil _ _ _)⟩
  by_cases k2 : kk = 2
  · subst k2
    obtain ⟨e1, e2, e3⟩ := dk2 om ⟨2, kc, ka, l⟩ rfl
    have HC := Lib.hid (cFill_any (c' := cap) h0 hxc hzz (fun g hg ho => by have := hO g ho; omega) hxn)
    unfold DoP
    rw [e1, e2, e3]
    unfold FlP at HC
    generalize flE om kc l = te at *
    generalize flD om kc l = od at *
    clear e1 e2 e3 h h0 hx hx0 hzz hb0 hO hN0 hxc hxa hxn HXV
    generalize l.length = ll at *
    go_enter Try.func27, Try.ntmps27
    go_wp2_with (go_at_call 26; refine HC.out.mono ?_; rintro e w1 ⟨rfl, hM⟩; have HM := Lib.hid hM; clear hM)
    go_ret2
    exact ⟨none, 0, rfl, do_shift HB.out HM.out.1 (fun _ h => h) HM.out.2 (IAt.nil _ _ _)⟩
  by_cases k3 : kk = 3
  · subst k3
    obtain ⟨e1, e2, e3⟩ := dk3 om ⟨3, kc, ka, l⟩ rfl
    have HC := Lib.hid (cPut_any h0 hxc hxa)
    unfold DoP
    rw [e1, e2, e3]
    unfold PtP at HC
    generalize ptE om kc = te at *
    generalize ptD om kc ka = od at *
    generalize ptV om kc ka = lv at *
    clear e1 e2 e3 h h0 hx hx0 hzz hb0 hO hN0 hxc hxa hxn
    generalize l.length = ll at *
    go_enter Try.func27, Try.ntmps27
    go_wp2_with (go_at_call 38; refine HC.out.mono ?_; rintro e w1 ⟨A1, c9, rfl, O', m1, m2, m3, m4⟩; have HM := Lib.hid (And.intro m1 (And.intro m2 (And.intro m3 m4))); clear m1 m2 m3 m4)
    go_ret2
    exact ⟨A1, c9, rfl, do_shift HB.out HM.out.1 HM.out.2.1 HM.out.2.2.1 HM.out.2.2.2⟩
  by_cases k4 : kk = 4
  · subst k4
    obtain ⟨e1, e2, e3⟩ := dk4 om ⟨4, kc, ka, l⟩ rfl
    have HC := Lib.hid (cScavenge_any h0)
    have HL := Lib.hid (batV_le h0 scavV_le)
    unfold DoP
    rw [e1, e2, e3]
    obtain ⟨lf, hlf⟩ : ∃ lf, (batV scavV om).flatMap (·.2) = lf := ⟨_, rfl⟩
    rw [hlf]
    have HA := Lib.hid (fun (P : Nat → Prop) (A1 : Option Addr) (c1 : Nat) (w1 : World) (hb : BAt P w1 A1 (batV scavV om)) => show Calls Try.prog 32 #[.slice A1 (batV scavV om).length c1] w1 (ObjP w1 lf) from by
      have h := wall_any A1 c1 (batV scavV om) w1 HL.out.1 HL.out.2 hb
      rw [hlf] at h
      exact h)
    clear hlf
    unfold RmsP at HC
    generalize batV scavV om = lb at *
    generalize mapK scavK om = od at *
    clear e1 e2 e3 h h0 hx hx0 hzz hb0 hO hN0 hxc hxa hxn
    generalize l.length = ll at *
    go_enter Try.func27, Try.ntmps27
    go_wp2_with fail
    refine HC.out.mono ?_
    rintro e w1 ⟨A1, c9, rfl, O', m1, m2, m3, m4⟩
    have HM := Lib.hid (And.intro m1 (And.intro m2 (And.intro m3 m4)))
    clear m1 m2 m3 m4
    go_wp2_with fail
    refine (HA.out _ _ _ _ HM.out.2.2.2).mono ?_
    rintro e w2 ⟨A2, c8, rfl, m5, m6⟩
    have HM2 := Lib.hid (And.intro m5 m6)
    clear m5 m6
    have HF := Lib.hid (do_shift HB.out (HM.out.1.below HM2.out.2) (fun j hj => by
      rcases HM.out.2.1 j hj with hj | hj
      · exact .inl hj
      · exact .inr ⟨hj.1, Nat.lt_of_lt_of_le hj.2 HM2.out.2.size⟩) (HM.out.2.2.1.trans (Keep.of HM2.out.2)) (HM2.out.1.mono fun g _ hg => ⟨Nat.le_trans HM.out.2.2.1.size hg, fun ho => by
        have hg : w1.heap.size ≤ g := hg
        have := HM.out.1.lt g ho
        omega⟩))
    go_wp2_with fail
    go_ret2
    exact ⟨A2, c8, rfl, HF.out⟩
  by_cases k5 : kk = 5
  · subst k5
    obtain ⟨e1, e2, e3⟩ := dk5 om ⟨5, kc, ka, l⟩ rfl
    have HC := Lib.hid (cDrain_any h0)
    have HL := Lib.hid (batV_le h0 drainV_le)
    unfold DoP
    rw [e1, e2, e3]
    obtain ⟨lf, hlf⟩ : ∃ lf, (batV drainV om).flatMap (·.2) = lf := ⟨_, rfl⟩
    rw [hlf]
    have HA := Lib.hid (fun (P : Nat → Prop) (A1 : Option Addr) (c1 : Nat) (w1 : World) (hb : BAt P w1 A1 (batV drainV om)) => show Calls Try.prog 32 #[.slice A1 (batV drainV om).length c1] w1 (ObjP w1 lf) from by
      have h := wall_any A1 c1 (batV drainV om) w1 HL.out.1 HL.out.2 hb
      rw [hlf] at h
      exact h)
    clear hlf
    unfold RmsP at HC
    generalize batV drainV om = lb at *
    generalize mapK drainK om = od at *
    clear e1 e2 e3 h h0 hx hx0 hzz hb0 hO hN0 hxc hxa hxn
    generalize l.length = ll at *
    go_enter Try.func27, Try.ntmps27
    go_wp2_with fail
    refine HC.out.mono ?_
    rintro e w1 ⟨A1, c9, rfl, O', m1, m2, m3, m4⟩
    have HM := Lib.hid (And.intro m1 (And.intro m2 (And.intro m3 m4)))
    clear m1 m2 m3 m4
    go_wp2_with fail
    refine (HA.out _ _ _ _ HM.out.2.2.2).mono ?_
    rintro e w2 ⟨A2, c8, rfl, m5, m6⟩
    have HM2 := Lib.hid (And.intro m5 m6)
    clear m5 m6
    have HF := Lib.hid (do_shift HB.out (HM.out.1.below HM2.out.2) (fun j hj => by
      rcases HM.out.2.1 j hj with hj | hj
      · exact .inl hj
      · exact .inr ⟨hj.1, Nat.lt_of_lt_of_le hj.2 HM2.out.2.size⟩) (HM.out.2.2.1.trans (Keep.of HM2.out.2)) (HM2.out.1.mono fun g _ hg => ⟨Nat.le_trans HM.out.2.2.1.size hg, fun ho => by
        have hg : w1.heap.size ≤ g := hg
        have := HM.out.1.lt g ho
        omega⟩))
    go_wp2_with fail
    go_ret2
    exact ⟨A2, c8, rfl, HF.out⟩
  obtain ⟨e1, e2, e3⟩ := dk6 om ⟨kk, kc, ka, l⟩ (by dsimp only; omega)
  unfold DoP
  rw [e1, e2, e3]
  have b0 : (kk == 0) = false := by simpa using k0
  have b1 : (kk == 1) = false := by simpa using k1
  have b2 : (kk == 2) = false := by simpa using k2
  have b3 : (kk == 3) = false := by simpa using k3
  have b4 : (kk == 4) = false := by simpa using k4
  have b5 : (kk == 5) = false := by simpa using k5
  clear e1 e2 e3 h h0 hx hx0 hzz hb0 hO hN0 hxc hxa hxn
  generalize l.length = ll at *
  go_enter Try.func27, Try.ntmps27
  go_wp2_with fail
  go_ret2
  exact ⟨none, 0, rfl, do_shift HB.out HS.out (fun _ h => .inl h) (Keep.refl _ _) (IAt.nil _ _ _)⟩
end Go.Proofs.Yticcjelaenhigaa
