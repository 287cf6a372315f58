/- Package cache: Take, Want, Fill, Put. -/
import Derived.Test.YticcjelaenhigaaPa
namespace Go.Proofs.Yticcjelaenhigaa
open Go.RowKit Go.Lib

section
variable {w w' : World} {O : Nat → Prop} {B M : Nat} {Q : List Nat} {p : Nat → Nat} {F : Nat → Nat → Prop} {v : Value} {c : Tc} {om : Option Tc}
/-- A list of the cache is turned: what it owns then. -/
theorem PcA.turn (h : PcA w O B M Q p F c) {x : Nat} {k k' : Kl} {F' : Nat → Prop} (hx : c.K[x]? = some k) (hk : KOb w' F' (p x) k') (hkeep : Keep (F x) w w') (hsub : ∀ j, F' j → Ext (F x) w w' j) : TOb false w' (fun j => O j ∨ F' j) (.pointer (some ⟨B, 0, none⟩)) (some { c with K := c.K.set x k' }) := by
  have hxl := (List.getElem?_eq_some_iff.1 hx).1
  have hs := h.sub x hxl
  have hkO : Keep O w w' := hkeep.mono fun j _ hj => (hs j hj).1
  have hB := h.lt _ h.ob
  have hM := h.lt _ h.om
  refine ⟨B, M, Q, p, fun y => if y = x then F' else F y, rfl, ⟨h.wf.set hk.wf, ?_, ?_, ?_, fun y k2 hy => ?_, fun y hy j hj => ?_, fun y y' j hy hy' hj hj' => ?_, .inl h.ob, .inl h.om, h.ne, fun j hj => ?_⟩⟩
  · exact h.hd.of_block (hkeep.block _ (h.lt _ h.ob) (fun hx => (hs _ hx).2.1 rfl))
  · exact h.mp.block (hkeep.block _ (h.lt _ h.om) (fun hx => (hs _ hx).2.2 rfl))
  · intro y; rw [List.length_set]; exact h.q y
  · have hy : (c.K.set x k')[y]? = some k2 := hy
    rw [List.getElem?_set] at hy
    by_cases e : y = x
    · subst e
      rw [if_pos rfl, if_pos hxl] at hy
      injection hy with hy
      subst hy
      show KOb w' (if y = y then _ else _) _ _
      rw [if_pos rfl]
      exact hk
    · rw [if_neg (fun e' => e e'.symm)] at hy
      have hyl := (List.getElem?_eq_some_iff.1 hy).1
      show KOb w' (if y = x then _ else _) _ _
      rw [if_neg e]
      exact (h.each y k2 hy).keep hkeep (fun j h1 h2 => e (h.dj y x j hyl hxl h1 h2))
  · have hy : y < (c.K.set x k').length := hy
    rw [List.length_set] at hy
    have hj : (if y = x then F' else F y) j := hj
    by_cases e : y = x
    · rw [if_pos e] at hj
      refine ⟨.inr hj, ?_⟩
      rcases hsub j hj with h1 | h1
      · exact (hs j h1).2
      · exact ⟨by omega, by omega⟩
    · rw [if_neg e] at hj
      exact ⟨.inl (h.sub y hy j hj).1, (h.sub y hy j hj).2⟩
  · have hy : y < (c.K.set x k').length := hy
    have hy' : y' < (c.K.set x k').length := hy'
    rw [List.length_set] at hy hy'
    have hj : (if y = x then F' else F y) j := hj
    have hj' : (if y' = x then F' else F y') j := hj'
    have old : ∀ z, z < c.K.length → F z j → j < w.heap.size := fun z hz hf => h.lt _ (h.sub z hz j hf).1
    by_cases e : y = x
    · rw [if_pos e] at hj
      by_cases e' : y' = x
      · rw [e, e']
      · rw [if_neg e'] at hj'
        rcases hsub j hj with hj | hj
        · exact e.trans (h.dj x y' j hxl hy' hj hj')
        · have := old y' hy' hj'; have := hj.1; omega
    · rw [if_neg e] at hj
      by_cases e' : y' = x
      · rw [if_pos e'] at hj'
        rcases hsub j hj' with hj' | hj'
        · exact (h.dj y x j hy hxl hj hj').trans e'.symm
        · have := old y hy hj; have := hj'.1; omega
      · rw [if_neg e'] at hj'
        exact h.dj y y' j hy hy' hj hj'
  · rcases hj with hj | hj
    · exact Nat.lt_of_lt_of_le (h.lt j hj) hkO.size
    · exact hk.lt j hj
end

/-- What Take returns and leaves. -/
def TkP (r : Bool) (w : World) (O : Nat → Prop) (v : Value) (om : Option Tc) (x : Int) (e : Ending) (w' : World) : Prop := e = .returned (.tuple #[.int .i64 (tkV om x), .int .i64 (tkE om x)]) ∧ TMut r w O v (tkD om x) w' ∧ InR (tkV om x)
/-- What Want returns and leaves. -/
def WtP (w : World) (om : Option Tc) (x : Int) (e : Ending) (w' : World) : Prop := e = .returned (.tuple #[.int .i64 (wtV om x), .int .i64 (errK om x)]) ∧ Below w.heap.size w w'
/-- What Fill returns and leaves. -/
def FlP (r : Bool) (w : World) (O : Nat → Prop) (v : Value) (om : Option Tc) (x : Int) (z : List Int) (e : Ending) (w' : World) : Prop := e = .returned (.int .i64 (flE om x z)) ∧ TMut r w O v (flD om x z) w'
/-- What Put returns and leaves. -/
def PtP (r : Bool) (w : World) (O : Nat → Prop) (v : Value) (om : Option Tc) (x a : Int) (e : Ending) (w' : World) : Prop := ∃ A c', e = .returned (.tuple #[.slice A (ptV om x a).length c', .int .i64 (ptE om x)]) ∧ ∃ O', TOb r w' O' v (ptD om x a) ∧ (∀ j, O' j → Ext O w w' j) ∧ Keep O w w' ∧ IAt (fun g => w.heap.size ≤ g ∧ ¬ O' g) w' A (ptV om x a)
theorem inR0 : InR 0 := ⟨by omega, by omega⟩
theorem tk_no {r : Bool} {w w' : World} {O : Nat → Prop} {v : Value} {om : Option Tc} {x : Int} (h : TOb r w O v om) (hb : Below w.heap.size w w') (hk : atK om x = none) : TkP r w O v om x (.returned (.tuple #[.int .i64 0, .int .i64 (errK om x)])) w' := by
  have e1 : tkV om x = 0 := by unfold tkV; rw [hk]
  have e2 : tkE om x = errK om x := by unfold tkE; rw [hk]
  have e3 : tkD om x = om := by unfold tkD; rw [hk]
  exact ⟨by rw [e1, e2], by rw [e3]; exact TMut.same h hb, by rw [e1]; exact inR0⟩
theorem fl_no {r : Bool} {w w' : World} {O : Nat → Prop} {v : Value} {om : Option Tc} {x : Int} {z : List Int} (h : TOb r w O v om) (hb : Below w.heap.size w w') (hk : atK om x = none) : FlP r w O v om x z (.returned (.int .i64 (errK om x))) w' := by
  have e2 : flE om x z = errK om x := by unfold flE; rw [hk]
  have e3 : flD om x z = om := by unfold flD; rw [hk]
  exact ⟨by rw [e2], by rw [e3]; exact TMut.same h hb⟩
theorem pt_no {r : Bool} {w w' : World} {O : Nat → Prop} {v : Value} {om : Option Tc} {x a : Int} (h : TOb r w O v om) (hb : Below w.heap.size w w') (hk : atK om x = none) : PtP r w O v om x a (.returned (.tuple #[.slice none 0 0, .int .i64 (errK om x)])) w' := by
  have e1 : ptV om x a = [] := by unfold ptV; rw [hk]
  have e2 : ptE om x = errK om x := by unfold ptE; rw [hk]
  have e3 : ptD om x a = om := by unfold ptD; rw [hk]
  refine ⟨none, 0, by rw [e1, e2]; rfl, O, by rw [e3]; exact h.below hb, fun j hj => .inl hj, Keep.of hb, by rw [e1]; exact IAt.nil _ _ _⟩

set_option maxHeartbeats 1000000 in
theorem cTake_any {O : Nat → Prop} {v : Value} {om : Option Tc} {w : World} {x : Int} (h : TOb false w O v om) (hx : InR x) : Calls Try.prog 24 #[v, .int .i64 x] w (TkP false w O v om x) := by
  cases hk : atK om x with
  | none =>
    have HF := Lib.hid (cfind_no h hk hx)
    have HP := Lib.hid (tk_no h (Below.refl _ _) hk)
    obtain ⟨er, he, e1, e2, _⟩ := errK_ne om x hk
    rw [he] at HF HP
    clear h hk he
    go_enter Try.func24, Try.ntmps24
    go_wp2_with (go_at_call 56; refine HF.out.mono ?_; rintro e w1 ⟨rfl, rfl⟩)
    go_ret2
    exact HP.out
  | some k =>
    cases om with
    | none => cases hk
    | some c =>
      obtain ⟨B, M, Q, p, F, rfl, h⟩ := h
      obtain ⟨_, hxl, hK, _⟩ := h.wf.at hk
      have HF := Lib.hid (cfind_yes h hk hx)
      have hob := h.each _ k hK
      have HH := Lib.hid (And.intro h (And.intro hK hk))
      obtain ⟨V, ha⟩ := hob
      obtain ⟨A, cap, rfl, _, _⟩ := ha.form
      have c2 := ha.cells.2.2.1
      have hlen := ha.wf.len
      by_cases hne : k.l = []
      · have HM := Lib.hid (lmiss_any (h.each _ k hK))
        have HP := Lib.hid (fun (w1 : World) (hm : KMut w (F x.toNat) (p x.toNat) (missK k) w1) => show TkP false w O (.pointer (some ⟨B, 0, none⟩)) (some c) x (.returned (.tuple #[.int .i64 0, .int .i64 4])) w1 from by
          have e1 : tkV (some c) x = 0 := by unfold tkV; rw [HH.out.2.2]; exact if_pos hne
          have e2 : tkE (some c) x = 4 := by unfold tkE; rw [HH.out.2.2]; exact if_pos hne
          have e3 : tkD (some c) x = some { c with K := c.K.set x.toNat (missK k) } := by unfold tkD; rw [HH.out.2.2]; dsimp only; rw [if_pos hne]; rfl
          exact ⟨by rw [e1, e2], by rw [e3]; exact HH.out.1.mut HH.out.2.1 hm, by rw [e1]; exact inR0⟩)
        rw [hne] at c2
        generalize p x.toNat = px at *
        clear h hk ha hK hne hlen
        go_enter Try.func24, Try.ntmps24
        go_wp2_with (first
          | (go_at_call 56; refine HF.out.mono ?_; rintro e w1 ⟨rfl, rfl⟩)
          | (go_at_call 58; refine HM.out.mono ?_; rintro e w1 ⟨rfl, hm⟩; have HMM := Lib.hid hm; clear hm))
        go_ret2
        exact HP.out _ HMM.out
      · have HM := Lib.hid (lnewest_any (h.each _ k hK) hne)
        have HP := Lib.hid (fun (w1 : World) (hm : KMut w (F x.toNat) (p x.toNat) (popK k) w1) (hr : InR (lastK k)) => show TkP false w O (.pointer (some ⟨B, 0, none⟩)) (some c) x (.returned (.tuple #[.int .i64 (lastK k), .int .i64 0])) w1 from by
          have e1 : tkV (some c) x = lastK k := by unfold tkV; rw [HH.out.2.2]; exact if_neg hne
          have e2 : tkE (some c) x = 0 := by unfold tkE; rw [HH.out.2.2]; exact if_neg hne
          have e3 : tkD (some c) x = some { c with K := c.K.set x.toNat (popK k) } := by unfold tkD; rw [HH.out.2.2]; dsimp only; rw [if_neg hne]; rfl
          exact ⟨by rw [e1, e2], by rw [e3]; exact HH.out.1.mut HH.out.2.1 hm, by rw [e1]; exact hr⟩)
        have hpos : 0 < k.l.length := List.length_pos_iff.2 hne
        unfold NwP at HM
        generalize p x.toNat = px at *
        generalize k.l.length = n at *
        have hn0 : ¬ (n : Int) = 0 := by omega
        have hn1 : ¬ n = 0 := by omega
        clear h hk ha hK hne
        generalize lastK k = y at *
        go_enter Try.func24, Try.ntmps24
        go_wp2_with (first
          | (go_at_call 56; refine HF.out.mono ?_; rintro e w1 ⟨rfl, rfl⟩)
          | (go_at_call 59; refine HM.out.mono ?_; rintro e w1 ⟨rfl, hm⟩; have HMM := Lib.hid hm; clear hm))
        go_ret2
        exact HP.out _ HMM.out.1 HMM.out.2

set_option maxHeartbeats 1000000 in
theorem cWant_any {O : Nat → Prop} {v : Value} {om : Option Tc} {w : World} {x : Int} (h : TOb false w O v om) (hx : InR x) : Calls Try.prog 37 #[v, .int .i64 x] w (WtP w om x) := by
  cases hk : atK om x with
  | none =>
    have HF := Lib.hid (cfind_no h hk hx)
    have HP := Lib.hid (show WtP w om x (.returned (.tuple #[.int .i64 0, .int .i64 (errK om x)])) w from ⟨by rw [show wtV om x = 0 from by unfold wtV; rw [hk]], Below.refl _ _⟩)
    obtain ⟨er, he, e1, e2, _⟩ := errK_ne om x hk
    rw [he] at HF HP
    clear h hk he
    go_enter Try.func37, Try.ntmps37
    go_wp2_with (go_at_call 56; refine HF.out.mono ?_; rintro e w1 ⟨rfl, rfl⟩)
    go_ret2
    exact HP.out
  | some k =>
    cases om with
    | none => cases hk
    | some c =>
      obtain ⟨B, M, Q, p, F, rfl, h⟩ := h
      obtain ⟨_, hxl, hK, _⟩ := h.wf.at hk
      have HF := Lib.hid (cfind_yes h hk hx)
      obtain ⟨V, ha⟩ := h.each _ k hK
      have c1 := ha.cells.2.1
      have c3 := ha.cells.2.2.2.1
      have HP := Lib.hid (fun (n : Nat) (w1 : World) (e : n = min k.lim k.b) (hb : Below w.heap.size w w1) => show WtP w (some c) x (.returned (.tuple #[.int .i64 n, .int .i64 0])) w1 from
        ⟨by rw [show wtV (some c) x = ((min k.lim k.b : Nat) : Int) from by unfold wtV; rw [hk], show errK (some c) x = 0 from by unfold errK; rw [hk]; rfl, e], hb⟩)
      generalize p x.toNat = px at *
      generalize k.lim = m at *
      generalize k.b = b at *
      clear h hk ha hK
      go_enter Try.func37, Try.ntmps37
      go_wp2_with (go_at_call 56; refine HF.out.mono ?_; rintro e w1 ⟨rfl, rfl⟩)
      go_region
      go_wp2
      all_goals
        go_ret2
        exact HP.out _ _ (by omega) (belowN (Below.refl _ _) 1)
end Go.Proofs.Yticcjelaenhigaa
