/- The statement: Take returns what was added last. -/
import Derived.Test.YticcjelaenhigaaWb
import Derived.Deep.RegionHeld3
namespace Go.Proofs.Yticcjelaenhigaa
open Go.RowKit Go.Lib

/-- Objects, with the list in a block of its own. -/
def ObjC (w : World) (l : List Int) (e : Ending) (w' : World) : Prop := ∃ A c', e = .returned (.slice A l.length c') ∧ (w'.ownsRow w.heap.size 3 1 (.slice A l.length c') l.length (cZ l) ∧ (∀ a ∈ l, InR a)) ∧ Below w.heap.size w w'
set_option maxHeartbeats 1000000 in
theorem cObjects_own {O : Nat → Prop} {v : Value} {om : Option Tc} {w : World} {x : Int} (h : TOb false w O v om) (hx : InR x) : Calls Try.prog 23 #[v, .int .i64 x] w (ObjC w (objT om x)) := by
  cases hk : atK om x with
  | none =>
    have HF := Lib.hid (cfind_no h hk hx)
    obtain ⟨er, he, e1, e2, _⟩ := errK_ne om x hk
    rw [he] at HF
    rw [show objT om x = [] from by unfold objT; rw [hk]]
    clear h hk he
    go_enter Try.func23, Try.ntmps23
    go_wp2_with (go_at_call 56; refine HF.out.mono ?_; rintro e w1 ⟨rfl, rfl⟩)
    go_ret
    exact ⟨none, 0, rfl, ⟨World.ownsRow_nil _ _ _ _, fun a ha => (by cases ha)⟩, Below.refl _ _⟩
  | some k =>
    cases om with
    | none => cases hk
    | some c =>
      obtain ⟨B, M, Q, p, F, rfl, h⟩ := h
      obtain ⟨_, _, hK, _⟩ := h.wf.at hk
      have HF := Lib.hid (cfind_yes h hk hx)
      rw [show objT (some c) x = k.l from by unfold objT; rw [hk]]
      obtain ⟨V, ha⟩ := h.each _ k hK
      obtain ⟨A, cap, rfl, _, _⟩ := ha.form
      have c2 := ha.cells.2.2.1
      have hlen := ha.wf.len
      have HR := Lib.hid ha.inr
      have HC := Lib.hid (slClone_any A k.l.length cap k.l w rfl (by omega) ha.row)
      have HP := Lib.hid (fun (w1 : World) (A1 : Option Addr) (c5 : Nat) (hr : w1.ownsRow w.heap.size 3 1 (.slice A1 k.l.length c5) k.l.length (cZ k.l)) (hb : Below w.heap.size w w1) => show ObjC w k.l (.returned (.slice A1 k.l.length c5)) w1 from ⟨A1, c5, rfl, ⟨hr, HR.out⟩, hb⟩)
      generalize p x.toNat = px at *
      generalize k.l.length = n at *
      clear h hk ha hK
      go_enter Try.func23, Try.ntmps23
      go_wp2_with (first
        | (go_at_call 56; refine HF.out.mono ?_; rintro e w1 ⟨rfl, rfl⟩)
        | (go_at_call 57; refine HC.out.mono ?_; rintro e w1 ⟨A1, c5, rfl, h5, h6⟩; have HR5 := Lib.hid (And.intro h5 h6); clear h5 h6))
      go_ret
      exact HP.out _ _ _ HR5.out.1 HR5.out.2
theorem own_iat {w' : World} {N : Nat} {A : Option Addr} {c : Nat} {l : List Int} (h : w'.ownsRow N 3 1 (.slice A l.length c) l.length (cZ l) ∧ (∀ a ∈ l, InR a)) : IAt (fun g => N ≤ g) w' A l ∧ l.length ≤ c ∧ c ≤ maxLen := by
  refine ⟨(own_off h.1).1.iat (own_off h.1).2 h.2, ?_⟩
  obtain ⟨A', c', e, h1, h2⟩ := (own_off h.1).1.form
  injection e with _ _ e3
  rw [cZ_len] at h1
  exact ⟨by omega, by omega⟩
theorem atK_none {c : Tc} {x : Int} {n : Nat} (hn : c.K.length = n) (h : atK (some c) x = none) : x < 0 ∨ (n : Int) ≤ x := by
  unfold atK at h
  dsimp only at h
  split at h
  · rw [List.getElem?_eq_none_iff] at h
    right; omega
  · left; omega
/-- What Take leaves of a list that is not empty. -/
theorem pop_fill {k : Kl} {q : Nat} (hq : k.l.length = q + 1) : ∃ a, k.l[q]? = some a ∧ lastK k = a ∧ (popK k).l = k.l.take q ∧ (addK (popK k) [a]).l = k.l := by
  obtain ⟨a, ha⟩ : ∃ a, k.l[q]? = some a := ⟨_, List.getElem?_eq_getElem (by omega)⟩
  have h1 : (popK k).l = k.l.take q := by show k.l.dropLast = _; rw [List.dropLast_eq_take, hq, Nat.add_sub_cancel]
  refine ⟨a, ha, ?_, h1, ?_⟩
  · unfold lastK; rw [hq, Nat.add_sub_cancel, ha]; rfl
  · show (popK k).l ++ [a].reverse = _
    rw [h1, List.reverse_singleton]
    have := List.take_add_one (l := k.l) (i := q)
    rw [ha] at this
    rw [show ([a] : List Int) = (some a).toList from rfl, ← this, List.take_of_length_le (by omega)]
theorem set_at {c : Tc} {x : Int} {k k' : Kl} (h : atK (some c) x = some k) : ∃ c', setK (some c) x k' = some c' ∧ atK (some c') x = some k' := by
  obtain ⟨h0, h1⟩ := atK_some h
  refine ⟨_, rfl, ?_⟩
  unfold atK
  dsimp only
  rw [if_pos h0, List.getElem?_set, if_pos rfl, if_pos (List.getElem?_eq_some_iff.1 h1).1]

set_option maxRecDepth 100000 in
set_option maxHeartbeats 8000000 in
theorem stack_walk (A0 : Option Addr) (c0 : Nat) (t : List Cs) (g : Int) (A : Option Addr) (cp : Nat) (l : List Ak) (x : Int) (hx : InR x) (w : World) (ht : t.length ≤ 9223372036854775807) (hT : TabAt w w.heap.size A0 t) (hl : l.length ≤ 9223372036854775807) (hA : ActsAt w w.heap.size A l) :
    Calls Try.prog 5 #[.slice A0 t.length c0, .int .i64 g, .slice A l.length cp, .int .i64 x] w (Yes w) := by
  have HAL := Lib.hid alive_any
  have HT := Lib.hid hT
  have HG := Lib.hid (great_any A cp l w hl hA)
  by_cases hg : grB l = true
  · rw [hg] at HG
    generalize t.length = tn at *
    generalize l.length = ln at *
    clear hT hA hg
    go_enter Try.func5, Try.ntmps5
    go_wp2_with fail
    refine HG.out.mono ?_
    rintro e _ ⟨rfl, rfl⟩
    go_wp2_with fail
    refine (HAL.out _).mono ?_
    rintro e w2 ⟨rfl, hb⟩
    have HF := Lib.hid hb
    clear hb
    go_wp2_with fail
    go_ret
    exact ⟨rfl, HF.out⟩
  have hg' : grB l = false := by simpa using hg
  rw [hg'] at HG
  have HM := Lib.hid (made_law A0 c0 t g A cp l w ht hT (grB_no hg').1 (Nat.le_refl _) hA)
  cases hm : madeO t g l with
  | none =>
    rw [hm] at HM
    generalize t.length = tn at *
    generalize l.length = ln at *
    clear hT hA hg hg' hm
    go_enter Try.func5, Try.ntmps5
    go_wp2_with fail
    refine HG.out.mono ?_
    rintro e _ ⟨rfl, rfl⟩
    go_wp2_with fail
    refine HM.out.mono ?_
    intro e w1 hp
    obtain ⟨rfl, hb1⟩ := hp.no
    have HB1 := Lib.hid hb1
    clear hp hb1
    go_wp2_with fail
    refine (HAL.out _).mono ?_
    rintro e w2 ⟨rfl, hb⟩
    have HF := Lib.hid (btr HB1.out hb (Nat.le_refl _))
    clear hb
    go_wp2_with fail
    go_ret
    exact ⟨rfl, HF.out⟩
  | some c =>
    rw [hm] at HM
    have HKN := Lib.hid (made_kin hm)
    have HLN := Lib.hid HKN.out.2.2.len
    have ht40 := okT_len HKN.out.1
    obtain ⟨tn, htn⟩ : ∃ tn, t.length = tn := ⟨_, rfl⟩
    rw [htn] at HM HLN ht ht40 ⊢
    obtain ⟨ln, hln⟩ : ∃ ln, l.length = ln := ⟨_, rfl⟩
    rw [hln] at HG HM hl ⊢
    have HTN := Lib.hid htn
    clear hT hA hg hg' hm htn hln
    go_enter Try.func5, Try.ntmps5
    go_wp2_with fail
    refine HG.out.mono ?_
    rintro e _ ⟨rfl, rfl⟩
    go_wp2_with fail
    refine HM.out.mono ?_
    intro e w1 hp
    obtain ⟨B, O, rfl, ho⟩ := hp.yes
    have HO := Lib.hid ho
    have HWF := Lib.hid ho.ob.wf
    clear hp ho HM HG
    go_wp2_with fail
    have HC2 := Lib.hid (cObjects_own HO.out.ob hx)
    unfold ObjC at HC2
    obtain ⟨hx1, hx2⟩ := hx
    cases hat : atK (some c) x with
    | none =>
      rw [show objT (some c) x = [] from by unfold objT; rw [hat]] at HC2
      have HTK := Lib.hid (fun (w' : World) (h : Own false w w' (.pointer (some ⟨B, 0, none⟩)) (some c) O) => show Calls Try.prog 24 #[.pointer (some ⟨B, 0, none⟩), .int .i64 x] w' fun e w2 => e = .returned (.tuple #[.int .i64 0, .int .i64 1]) ∧ Below w.heap.size w w2 from (cTake_any h.ob ⟨hx1, hx2⟩).mono fun e w2 hp => by
        unfold TkP at hp
        rw [show tkV (some c) x = 0 from by unfold tkV; rw [hat], show tkE (some c) x = 1 from by unfold tkE errK; rw [hat]; simp] at hp
        exact ⟨hp.1, (h.mut hp.2.1).bel⟩)
      have hor := atK_none HLN.out hat
      clear hat
      refine HC2.out.mono ?_
      rintro e w2 ⟨A2, c2, rfl, _, hb⟩
      have HO2 := Lib.hid (HO.out.below hb)
      clear hb
      go_wp2_with fail
      refine (HTK.out _ HO2.out).mono ?_
      rintro e w3 ⟨rfl, hb⟩
      have HB3 := Lib.hid hb
      clear hb
      by_cases h0 : x < 0
      · have d1 : decide (x < 0) = true := decide_eq_true h0
        clear hor
        go_wp2_with fail
        refine (HAL.out _).mono ?_
        rintro e w9 ⟨rfl, hb⟩
        have HF := Lib.hid (btr HB3.out hb (Nat.le_refl _))
        clear hb
        go_wp2_with fail
        go_ret
        exact ⟨rfl, HF.out⟩
      · have d1 : decide (x < 0) = false := decide_eq_false h0
        have d2 : decide ((tn : Int) ≤ x) = true := decide_eq_true (by omega)
        clear hor h0
        go_wp2_with fail
        refine (HAL.out _).mono ?_
        rintro e w9 ⟨rfl, hb⟩
        have HF := Lib.hid (btr HB3.out hb (Nat.le_refl _))
        clear hb
        go_wp2_with fail
        go_ret
        exact ⟨rfl, HF.out⟩
    | some k =>
      have hat2 := atK_some hat
      have hkw := HWF.out.k k (List.mem_of_getElem? hat2.2)
      have hxn : x < (tn : Int) := by
        have h1 := (List.getElem?_eq_some_iff.1 hat2.2).1
        rw [HLN.out] at h1
        have := hat2.1
        omega
      have d1 : decide (x < 0) = false := decide_eq_false (by omega)
      have d2 : decide ((tn : Int) ≤ x) = false := decide_eq_false (by omega)
      rw [show objT (some c) x = k.l from by unfold objT; rw [hat]] at HC2
      by_cases hnil : k.l = []
      · have HTK := Lib.hid (fun (w' : World) (h : Own false w w' (.pointer (some ⟨B, 0, none⟩)) (some c) O) => show Calls Try.prog 24 #[.pointer (some ⟨B, 0, none⟩), .int .i64 x] w' fun e w2 => e = .returned (.tuple #[.int .i64 0, .int .i64 4]) ∧ Below w.heap.size w w2 from (cTake_any h.ob ⟨hx1, hx2⟩).mono fun e w2 hp => by
          unfold TkP at hp
          rw [show tkV (some c) x = 0 from by unfold tkV; rw [hat]; exact if_pos hnil, show tkE (some c) x = 4 from by unfold tkE; rw [hat]; exact if_pos hnil] at hp
          exact ⟨hp.1, (h.mut hp.2.1).bel⟩)
        rw [hnil] at HC2
        clear hat hat2 hnil hkw hxn
        refine HC2.out.mono ?_
        rintro e w2 ⟨A2, c2, rfl, _, hb⟩
        have HO2 := Lib.hid (HO.out.below hb)
        clear hb
        go_wp2_with fail
        refine (HTK.out _ HO2.out).mono ?_
        rintro e w3 ⟨rfl, hb⟩
        have HB3 := Lib.hid hb
        clear hb
        go_wp2_with fail
        refine (HAL.out _).mono ?_
        rintro e w9 ⟨rfl, hb⟩
        have HF := Lib.hid (btr HB3.out hb (Nat.le_refl _))
        clear hb
        go_wp2_with fail
        go_ret
        exact ⟨rfl, HF.out⟩
      · obtain ⟨q, hq⟩ : ∃ q, k.l.length = q + 1 := ⟨k.l.length - 1, by have := List.length_pos_iff.2 hnil; omega⟩
        obtain ⟨a, ha, hla, hpl, hal⟩ := pop_fill hq
        obtain ⟨c1, hc1, hat1⟩ := set_at (k' := popK k) hat
        obtain ⟨c3, hc3, hat3⟩ := set_at (k' := addK (popK k) [a]) hat1
        have hl256 := hkw.len
        have HV := Lib.hid (And.intro (show tkV (some c) x = a from by unfold tkV; rw [hat]; dsimp only; rw [if_neg hnil, hla]) (And.intro (show tkE (some c) x = 0 from by unfold tkE; rw [hat]; dsimp only; rw [if_neg hnil]) (show tkD (some c) x = some c1 from by unfold tkD; rw [hat]; dsimp only; rw [if_neg hnil, hc1])))
        have hpn : (popK k).l.length = q := by rw [hpl, List.length_take]; omega
        have HVF := Lib.hid (And.intro (show flE (some c1) x [a] = 0 from by unfold flE; rw [hat1]; dsimp only; rw [if_neg (by rw [hpn]; show ¬ 256 < q + 1; omega)]) (show flD (some c1) x [a] = some c3 from by unfold flD; rw [hat1]; dsimp only; rw [if_neg (by rw [hpn]; show ¬ 256 < q + 1; omega), hc3]))
        have HOB := Lib.hid (And.intro (show objT (some c1) x = k.l.take q from by unfold objT; rw [hat1]; exact hpl) (show objT (some c3) x = k.l from by unfold objT; rw [hat3]; exact hal))
        have HTL := Lib.hid (show (k.l.take q).length = q from by rw [← hpl]; exact hpn)
        obtain ⟨kl, hkl⟩ : ∃ kl, k.l = kl := ⟨_, rfl⟩
        rw [hkl] at HC2 HOB HTL hq ha
        obtain ⟨m, hm⟩ : ∃ m, kl.length = m := ⟨_, rfl⟩
        have HMQ := Lib.hid (And.intro hm ha)
        rw [hm] at HC2 hq
        have hq256 : q + 1 ≤ 256 := by rw [← hq, ← hm, ← hkl]; exact hl256
        have hqm : q < m := by omega
        have hm256 : m ≤ 256 := by omega
        have hme : (m : Int) - 1 = (q : Int) := by omega
        have HME := Lib.hid hme
        clear hq hq256
        clear hat hat1 hat2 hat3 hnil hkw hxn hla hpl hal hc1 hc3 hpn hkl hm ha hl256
        refine HC2.out.mono ?_
        rintro e w2 ⟨A2, c2, rfl, hrow, hb⟩
        have HO2 := Lib.hid (HO.out.below hb)
        rw [← HMQ.out.1] at hrow
        obtain ⟨hi, hcap, hcm⟩ := own_iat hrow
        rw [HMQ.out.1] at hcap
        have HI2 := Lib.hid (hi.mono (P' := fun g => g < w2.heap.size ∧ ¬ O g) fun g h1 h2 => ⟨h1, fun ho => by have := HO.out.ob.lt g ho; have h2 : w1.heap.size ≤ g := h2; omega⟩)
        clear hb hrow hi
        have HTK := Lib.hid (cTake_any HO2.out.ob ⟨hx1, hx2⟩)
        unfold TkP at HTK
        rw [HV.out.1, HV.out.2.1, HV.out.2.2] at HTK
        go_wp2_with fail
        refine HTK.out.mono ?_
        rintro e w3 ⟨rfl, hM, hra⟩
        have HO3 := Lib.hid (HO2.out.mut hM)
        have HI3 := Lib.hid ((HI2.out.keep hM.2 (fun g h1 h2 => h1.2 h2)).mono (P' := fun g => ¬ Ext O w2 w3 g) fun g _ h2 h3 => by
          rcases h3 with h3 | h3
          · exact h2.2 h3
          · have := h2.1; omega)
        have HRA := Lib.hid hra
        clear hM hra HTK HI2 HO2 HC2 HV
        generalize Ext O w2 w3 = O3 at *
        obtain ⟨g0, o0, rfl, hg0, hg1, s1, _⟩ := HI3.out q a HMQ.out.2
        have HS1 := Lib.hid (And.intro s1 hg0)
        have HS2 := Lib.hid hg1
        go_wp2_with fail
        obtain ⟨m1, m2⟩ := w64 (q : Int) (by omega)
        have m3 : (m : Int) - 1 = (q : Int) := HME.out
        have m4 : (0 : Int) ≤ (q : Int) := by omega
        have m5 : q ≤ c2 := by omega
        have m6 : (q : Int) < (m : Int) := by omega
        have m7 : (q : Int) ≤ (c2 : Int) := by omega
        have HCO := Lib.hid (fun (w' : World) (h : Below w3.heap.size w3 w') => show Calls Try.prog 23 #[.pointer (some ⟨B, 0, none⟩), .int .i64 x] w' (ObjP w' (kl.take q)) from by
          have := cObjects_any (HO3.out.below h).ob (x := x) ⟨hx1, hx2⟩
          rw [HOB.out.1] at this
          exact this)
        have HCI := Lib.hid (fun (w' : World) (A5 : Option Addr) (c5 : Nat) (hb : Below w3.heap.size w3 w') (hi : IAt (fun g => w3.heap.size ≤ g) w' A5 (kl.take q)) => show Calls Try.prog 25 #[.slice A5 q c5, .slice (some ⟨g0, o0, none⟩) q c2] w' (Yes w') from by
          have := Ints_any A5 (some ⟨g0, o0, none⟩) c5 c2 (kl.take q) w' (by rw [HTL.out]; omega) hi ((HI3.out.below hb).take q)
          rw [HTL.out] at this
          exact this)
        have HCF := Lib.hid (fun (w' : World) (hb : Below w3.heap.size w3 w') => show Calls Try.prog 26 #[.pointer (some ⟨B, 0, none⟩), .int .i64 x, .slice (some ⟨w'.heap.size, 0, none⟩) 1 1] (w'.alloc (.cells #[.int .i64 a] 3)) (fun e w'' => e = .returned (.int .i64 0) ∧ TMut false (w'.alloc (.cells #[.int .i64 a] 3)) O3 (.pointer (some ⟨B, 0, none⟩)) (some c3) w'') from by
          have h1 := HO3.out.below hb
          have := cFill_any (c' := 1) (h1.below (bnew w' (.cells #[.int .i64 a] 3))).ob (x := x) ⟨hx1, hx2⟩ (iatL w' [a] (fun y hy => by rw [List.mem_singleton.1 hy]; exact HRA.out)) (fun g hg ho => by have := h1.ob.lt g ho; omega) (by show 1 ≤ _; omega)
          unfold FlP at this
          rw [HVF.out.1, HVF.out.2] at this
          exact this)
        have HK6 := Lib.hid (fun (w5 w6 : World) (hb5 : Below w3.heap.size w3 w5) (hM : TMut false (w5.alloc (.cells #[.int .i64 a] 3)) O3 (.pointer (some ⟨B, 0, none⟩)) (some c3) w6) => show w6.cell? ⟨g0, o0 + q, none⟩ = some (.int .i64 a) from (World.cell?_of_block (a := ⟨g0, _, none⟩) (hM.2.block g0 (Nat.lt_of_lt_of_le HS1.out.2 (Nat.le_trans hb5.size (bnew w5 _).size)) HS2.out)).trans (((bnew w5 _).cell (p := ⟨g0, _, none⟩) (Nat.lt_of_lt_of_le HS1.out.2 hb5.size)).trans ((hb5.cell (p := ⟨g0, _, none⟩) HS1.out.2).trans HS1.out.1)))
        unfold ObjP at HCO
        rw [HTL.out] at HCO
        have HXR := Lib.hid (show InR x from ⟨hx1, hx2⟩)
        clear s1 hg0 hg1 d1 d2 hx1 hx2 hcap hcm
        go_region_held3 (fun w' => w'.cell? ⟨g0, o0 + q, none⟩ = some (.int .i64 a))
          (first | exact HS1.out.1 | exact ((bnew w5 _).cell (p := ⟨g0, _, none⟩) (Nat.lt_of_lt_of_le HS1.out.2 hb5.size)).trans ((hb5.cell (p := ⟨g0, _, none⟩) HS1.out.2).trans HS1.out.1) | exact hc6 | exact (hb4.cell (p := ⟨g0, _, none⟩) HS1.out.2).trans HS1.out.1 | exact (hb5.cell (p := ⟨g0, _, none⟩) HS1.out.2).trans HS1.out.1)
          (first
          | (go_at_call 23; refine (HCO.out _ (belowN (Below.refl _ _) _)).mono ?_; rintro e w4 ⟨A5, c5, rfl, hi5, hb⟩; have hb4 := btr (belowN (Below.refl w3.heap.size w3) _) hb (Nat.le_refl _); clear hb)
          | (go_at_call 25; refine (HCI.out _ _ _ hb4 hi5).mono ?_; rintro e w5 ⟨rfl, hb⟩; have hb5 := btr hb4 hb (Nat.le_refl _); clear hb)
          | (go_at_call 26; refine (HCF.out _ hb5).mono ?_; rintro e w6 ⟨rfl, hM⟩; have hc6 := HK6.out _ _ hb5 hM))
        have hI6 : IAt (fun g => ¬ O3 g) w6 (some ⟨g0, o0, none⟩) kl := ((HI3.out.below hb5).below (bnew w5 _)).keep hM.2 (fun g h1 h2 => h1 h2)
        have h6 := ((HO3.out.below hb5).below (bnew w5 (.cells #[.int .i64 a] 3))).mut hM
        have HI6 := Lib.hid hI6
        have H6 := Lib.hid h6
        have HC6 := Lib.hid (cObjects_any h6.ob (x := x) HXR.out)
        rw [HOB.out.2] at HC6
        unfold ObjP at HC6
        have HCJ := Lib.hid (fun (w' : World) (A5 : Option Addr) (c5 : Nat) (hb : Below w6.heap.size w6 w') (hi : IAt (fun g => w6.heap.size ≤ g) w' A5 kl) => show Calls Try.prog 25 #[.slice A5 m c5, .slice (some ⟨g0, o0, none⟩) m c2] w' (Yes w') from by
          have := Ints_any A5 (some ⟨g0, o0, none⟩) c5 c2 kl w' (by rw [HMQ.out.1]; omega) hi (HI6.out.below hb)
          rw [HMQ.out.1] at this
          exact this)
        rw [HMQ.out.1] at HC6
        clear hb4 hb5 hM hc6 hi5 m1 m2 m3 m4 m5 m6 m7 hI6 h6
        go_wp2_with fail
        refine HC6.out.mono ?_
        rintro e w7 ⟨A7, c7, rfl, hi7, hb7⟩
        have HB7 := Lib.hid (And.intro hb7 hi7)
        clear hb7 hi7
        go_wp2_with fail
        refine (HCJ.out _ _ _ HB7.out.1 HB7.out.2).mono ?_
        rintro e w8 ⟨rfl, hb8⟩
        have HB8 := Lib.hid (btr (btr H6.out.bel HB7.out.1 (Nat.le_refl _)) hb8 (Nat.le_refl _))
        clear hb8
        go_wp2_with fail
        refine (HAL.out _).mono ?_
        rintro e w9 ⟨rfl, hb⟩
        have HF := Lib.hid (btr HB8.out hb (Nat.le_refl _))
        clear hb
        go_wp2_with fail
        go_ret
        exact ⟨rfl, HF.out⟩
end Go.Proofs.Yticcjelaenhigaa
