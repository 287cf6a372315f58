/- The document's cache: Take of a list that has objects; Take. -/
import Derived.Test.YticcjelaenhigaaRd
namespace Go.Proofs.Yticcjelaenhigaa
open Go.RowKit Go.Lib

section
variable {w w' : World} {O : Nat → Prop} {B t l i j ct cl ci cj : Nat} {V : Nat → Value} {c : Tc} {x : Nat} {k k' : Kl} {A : Option Addr} {cp : Nat}
/-- A list and its low are turned. -/
theorem RcA.updJ (h : RcA w O B t l i j ct cl ci cj V c) (hk : c.K[x]? = some k) (hw : KWf k') (hs : k'.s = k.s) (hb : k'.b = k.b) (hm : k'.lim = k.lim)
    (hl : Cl w' l c.K.length (fun y => if y = x then .slice A k'.l.length cp else V y)) (hj : Cl w' j c.K.length (fun y => if y = x then .int .i64 (k'.lo : Nat) else .int .i64 (((c.K[y]?.map (·.lo)).getD 0 : Nat) : Int)))
    (hcp : k'.l.length ≤ cp) (hcm : cp ≤ maxLen) (hia : IAt (fun g => Ext O w w' g ∧ g ≠ B ∧ g ≠ l ∧ g ≠ i ∧ g ≠ j) w' A k'.l) (hkp : Keep (fun g => g = l ∨ g = j) w w') :
    TMut true w O (.pointer (some ⟨B, 0, none⟩)) (some { c with K := c.K.set x k' }) w' := by
  obtain ⟨n1, n2, n3, n4, n5, n6, n7, n8, n9, n10⟩ := h.ne
  obtain ⟨oB, ot, ol, oi, oj⟩ := h.ob
  have hlim := h.lim.of_block (hkp.block i (h.lt i oi) (fun e => by rcases e with e | e <;> omega))
  refine ⟨⟨B, t, l, i, j, ct, cl, ci, cj, _, rfl, h.upd (k' := k') (A := A) (cp := cp) hk hw hs hb (hlim.congr fun y _ => ?_) hj hl hcp hcm (fun g hg => .inl hg) (Ext.lt h.lt hkp.size) hia (hkp.mono fun g _ e => by rcases e with e | e; exact .inl e; exact .inr (.inr e))⟩, hkp.mono fun g _ e => by rcases e with e | e <;> rw [e] <;> assumption⟩
  by_cases e : y = x
  · subst e; rw [if_pos rfl, hk, hm]; rfl
  · rw [if_neg e]
end

set_option maxRecDepth 100000 in
set_option maxHeartbeats 4000000 in
theorem dTake_pop {O : Nat → Prop} {B t l i j ct cl ci cj : Nat} {V : Nat → Value} {c : Tc} {w : World} {n q : Nat} {k : Kl} (h : RcA w O B t l i j ct cl ci cj V c) (hK : c.K[n]? = some k) (hq : k.l.length = q + 1) : Calls Try.prog 44 #[.pointer (some ⟨B, 0, none⟩), .int .i64 n] w (TkP true w O (.pointer (some ⟨B, 0, none⟩)) (some c) n) := by
  have hat : atK (some c) (n : Int) = some k := atK_at hK
  have hnil : ¬ k.l = [] := fun e => by rw [e] at hq; simp at hq
  have HH := Lib.hid (dwrong_any (om := some c) (n : Int) ⟨B, t, l, i, j, ct, cl, ci, cj, V, rfl, h⟩)
  rw [show errK (some c) n = 0 from by unfold errK; rw [hat]; rfl] at HH
  have hkw := h.wf.k k (List.mem_of_getElem? hK)
  obtain ⟨n1, n2, n3, n4, n5, n6, n7, n8, n9, n10⟩ := h.ne
  obtain ⟨A, cp, c7, hVV, hcp, hcm, hia⟩ := h.listc hK
  obtain ⟨a, ha⟩ : ∃ a, k.l[q]? = some a := ⟨_, List.getElem?_eq_getElem (by omega)⟩
  obtain ⟨g, o, rfl, hg, hgo, c8, hra⟩ := hia q a ha
  have hla : lastK k = a := by unfold lastK; rw [hq, Nat.add_sub_cancel, ha]; rfl
  have hpl : (popK k).l = k.l.take q := by show k.l.dropLast = _; rw [List.dropLast_eq_take, hq, Nat.add_sub_cancel]
  have hpn : (popK k).l.length = q := by rw [hpl, List.length_take]; omega
  have hplo : (popK k).lo = min k.lo q := by show min k.lo (k.l.length - 1) = _; rw [hq, Nat.add_sub_cancel]
  have HP := Lib.hid (fun (w1 : World) (hl : Cl w1 l c.K.length (fun y => if y = n then .slice (some ⟨g, o, none⟩) q cp else V y)) (hj : Cl w1 j c.K.length (fun y => if y = n then .int .i64 ((min k.lo q : Nat) : Int) else .int .i64 (((c.K[y]?.map (·.lo)).getD 0 : Nat) : Int))) (hkp : Keep (fun g => g = l ∨ g = j) w w1) => show TkP true w O (.pointer (some ⟨B, 0, none⟩)) (some c) n (.returned (.tuple #[.int .i64 a, .int .i64 0])) w1 from by
    have e1 : tkV (some c) n = a := by unfold tkV; rw [hat]; dsimp only; rw [if_neg hnil, hla]
    have e2 : tkE (some c) n = 0 := by unfold tkE; rw [hat]; exact if_neg hnil
    have e3 : tkD (some c) n = some { c with K := c.K.set n (popK k) } := by unfold tkD; rw [hat]; dsimp only; rw [if_neg hnil]; rfl
    have hia2 : IAt (fun g => Ext O w w1 g ∧ g ≠ B ∧ g ≠ l ∧ g ≠ i ∧ g ≠ j) w1 (some ⟨g, o, none⟩) (popK k).l := by
      rw [hpl]
      exact ((hia.keep hkp (fun g h4 h5 => by
        rcases h5 with h5 | h5
        · exact h4.2.2.1 h5
        · exact h4.2.2.2.2 h5)).mono fun g _ h4 => ⟨.inl h4.1, h4.2⟩).take q
    exact ⟨by rw [e1, e2], by rw [e3]; exact h.updJ (A := some ⟨g, o, none⟩) (cp := cp) hK (popK_wf hkw) rfl rfl rfl (by rw [hpn]; exact hl) (by rw [hplo]; exact hj) (by rw [hpn]; omega) hcm hia2 hkp, by rw [e1]; exact hra⟩)
  have hn := (List.getElem?_eq_some_iff.1 hK).1
  obtain ⟨_, _, c2, _, c4⟩ := h.cells
  have c5 := h.lowc hK
  have f7 := h.ll.free n hn
  have HLL := Lib.hid h.ll
  have HLW := Lib.hid h.low
  have HHD := Lib.hid h.hd
  have hlen := hkw.len
  have hlo := hkw.low
  rw [hq] at hlen hlo c7 hcp
  obtain ⟨m, hm⟩ : ∃ m, q + 1 = m := ⟨_, rfl⟩
  rw [hm] at hlen hlo c7 hcp
  have hs := sl_to (some ⟨g, o, none⟩) m cp q (by omega)
  obtain ⟨r, hr⟩ : ∃ r, min k.lo q = r := ⟨_, rfl⟩
  rw [hr] at HP
  generalize k.lo = lo at *
  have hmi : min (lo : Int) (q : Int) = (r : Int) := by omega
  have hq256 : q ≤ 256 := by omega
  have HCN := Lib.hid (show (dF c (.slice (some ⟨t, 0, none⟩) c.K.length ct) (.slice (some ⟨l, 0, none⟩) c.K.length cl) (.slice (some ⟨i, 0, none⟩) c.K.length ci) (.slice (some ⟨j, 0, none⟩) c.K.length cj)) 4 = .slice (some ⟨j, 0, none⟩) c.K.length cj from rfl)
  generalize c.K.length = N at *
  have hn2 : (n : Int) < (N : Int) := by omega
  have hn0 : (0 : Int) ≤ (n : Int) := by omega
  have m3 : (m : Int) - 1 = (q : Int) := by omega
  have m4 : (0 : Int) ≤ (q : Int) := by omega
  have m6 : (q : Int) < (m : Int) := by omega
  have m7 : (q : Int) ≤ (cp : Int) := by omega
  have hm0 : ((m : Int) == 0) = false := by simp only [beq_eq_false_iff_ne, ne_eq]; omega
  have WE := Lib.hid (w64 (q : Int) (by omega))
  have N1 := Lib.hid (And.intro n2 (And.intro n4 n9))
  clear h hK hat hkw hnil hia ha hla hpl hpn hplo hq hm hr hVV hcm hgo hra n1 n2 n3 n4 n5 n6 n7 n8 n9 n10 hlo
  obtain ⟨we1, we2⟩ := WE.out
  go_enter Try.func44, Try.ntmps44
  go_wp2_with (go_at_call 69; refine HH.out.mono ?_; rintro e w1 ⟨rfl, rfl⟩)
  go_region
  go_wp2
  obtain ⟨wa, hwa⟩ : ∃ wa, wa = (w.setCell ⟨l, n, none⟩ (.slice (some ⟨g, o, none⟩) q cp)).drew := ⟨_, rfl⟩
  have HL2 := Lib.hid (show Cl wa l N (fun y => if y = n then .slice (some ⟨g, o, none⟩) q cp else V y) from by rw [hwa]; exact (HLL.out.set n _).of_block rfl)
  have hlw : Cl wa j N (fun x => .int .i64 (((c.K[x]?.map (·.lo)).getD 0 : Nat) : Int)) := by rw [hwa]; exact (HLW.out.other (a := ⟨l, n, none⟩) (fun e => N1.out.2.2 e.symm) _).of_block rfl
  have b4 : wa.cell? ⟨B, 4, none⟩ = some (.slice (some ⟨j, 0, none⟩) N cj) := by
    have := ((HHD.out.other (a := ⟨l, n, none⟩) (fun e => N1.out.1 e.symm) (.slice (some ⟨g, o, none⟩) q cp)).of_block (w' := wa) (by rw [hwa]; rfl)).cell 4 (by omega)
    rw [HCN.out] at this
    exact this
  have b5 : wa.cell? ⟨j, n, none⟩ = some (.int .i64 lo) := by rw [hwa]; exact (World.cell?_setCell_other w _ _ _ (fun e => N1.out.2.2 (by injection e))).trans c5
  have k5 := hlw.free n (by omega)
  have HW2 := Lib.hid hlw
  have HK2 := Lib.hid (show Keep (fun g => g = l ∨ g = j) w wa from by
    rw [hwa]
    exact (keep_set (F := fun g => g = l ∨ g = j) (Keep.refl _ _) (.inl rfl) _).trans (Keep.of (belowN (Below.refl _ _) 1)))
  rw [← hwa]
  clear hwa hlw c2 c4 c5 c7 c8 f7 hs
  go_region
  go_wp2
  go_ret2
  exact HP.out _ ((HL2.out.other (a := ⟨j, n, none⟩) N1.out.2.2 _).of_block rfl) ((HW2.out.set n _).of_block rfl) ((keep_set (F := fun g => g = l ∨ g = j) HK2.out (.inr rfl) _).trans (Keep.of (belowN (Below.refl _ _) 1)))

theorem dTake_any {O : Nat → Prop} {v : Value} {om : Option Tc} {w : World} {x : Int} (h : TOb true w O v om) : Calls Try.prog 44 #[v, .int .i64 x] w (TkP true w O v om x) := by
  cases hk : atK om x with
  | none =>
    have HH := Lib.hid (dwrong_any x h)
    have HP := Lib.hid (tk_no h (Below.refl _ _) hk)
    obtain ⟨er, he, e1, e2, _⟩ := errK_ne om x hk
    rw [he] at HH HP
    clear h hk he
    go_enter Try.func44, Try.ntmps44
    go_wp2_with (go_at_call 69; refine HH.out.mono ?_; rintro e w1 ⟨rfl, rfl⟩)
    go_ret2
    exact HP.out
  | some k =>
    cases om with
    | none => cases hk
    | some c =>
      obtain ⟨B, t, l, i, j, ct, cl, ci, cj, V, rfl, h⟩ := h
      obtain ⟨h0, _, hK, _⟩ := h.wf.at hk
      obtain ⟨n, rfl⟩ : ∃ n : Nat, x = (n : Int) := ⟨x.toNat, by omega⟩
      rw [Int.toNat_natCast] at hK
      by_cases hn : k.l = []
      · exact dTake_miss h hK hn
      · exact dTake_pop (q := k.l.length - 1) h hK (by have := List.length_pos_iff.2 hn; omega)
end Go.Proofs.Yticcjelaenhigaa
