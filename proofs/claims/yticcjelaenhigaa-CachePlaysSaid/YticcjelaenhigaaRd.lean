/- The document's cache: Take. -/
import Derived.Test.YticcjelaenhigaaRc
namespace Go.Proofs.Yticcjelaenhigaa
open Go.RowKit Go.Lib

section
variable {w w' : World} {O : Nat → Prop} {B t l i j ct cl ci cj : Nat} {V : Nat → Value} {c : Tc} {x : Nat} {k : Kl}
/-- A limit is turned. -/
theorem RcA.updL (h : RcA w O B t l i j ct cl ci cj V c) (hk : c.K[x]? = some k) {n : Nat} (h1 : 1 ≤ n) (h2 : n ≤ 128) (hl : Cl w' i c.K.length (fun y => if y = x then .int .i64 (n : Nat) else .int .i64 (((c.K[y]?.map (·.lim)).getD 0 : Nat) : Int))) (hkp : Keep (fun g => g = i) w w') :
    TMut true w O (.pointer (some ⟨B, 0, none⟩)) (some { c with K := c.K.set x { k with lim := n } }) w' := by
  obtain ⟨n1, n2, n3, n4, n5, n6, n7, n8, n9, n10⟩ := h.ne
  obtain ⟨oB, ot, ol, oi, oj⟩ := h.ob
  obtain ⟨A, cp, _, hV, hcp, hcm, hia⟩ := h.listc hk
  have hkw := h.wf.k k (List.mem_of_getElem? hk)
  have hO : ∀ g, O g → Ext O w w' g := fun g hg => .inl hg
  have hlow := h.low.of_block (hkp.block j (h.lt j oj) (fun e => n10 e.symm))
  have hll := h.ll.of_block (hkp.block l (h.lt l ol) (fun e => n8 e))
  refine ⟨⟨B, t, l, i, j, ct, cl, ci, cj, _, rfl, h.upd (k' := { k with lim := n }) (A := A) (cp := cp) hk ⟨hkw.s8, hkw.s512, hkw.b1, hkw.b32, h1, h2, hkw.low, hkw.len⟩ rfl rfl hl (hlow.congr fun y _ => ?_) (hll.congr fun y _ => ?_) hcp hcm hO (Ext.lt h.lt hkp.size) ((hia.keep hkp (fun g h4 h5 => h4.2.2.2.1 h5)).mono fun g _ h4 => ⟨.inl h4.1, h4.2⟩) (hkp.mono fun g _ e => .inr (.inl e))⟩, hkp.mono fun g _ e => by rw [e]; exact oi⟩
  · by_cases e : y = x
    · subst e; rw [if_pos rfl, hk]; rfl
    · rw [if_neg e]
  · by_cases e : y = x
    · subst e; rw [if_pos rfl]; exact hV
    · rw [if_neg e]
end

set_option maxRecDepth 100000 in
set_option maxHeartbeats 4000000 in
theorem dTake_miss {O : Nat → Prop} {B t l i j ct cl ci cj : Nat} {V : Nat → Value} {c : Tc} {w : World} {n : Nat} {k : Kl} (h : RcA w O B t l i j ct cl ci cj V c) (hK : c.K[n]? = some k) (hnil : k.l = []) : Calls Try.prog 44 #[.pointer (some ⟨B, 0, none⟩), .int .i64 n] w (TkP true w O (.pointer (some ⟨B, 0, none⟩)) (some c) n) := by
  have hat : atK (some c) (n : Int) = some k := atK_at hK
  have HH := Lib.hid (dwrong_any (om := some c) (n : Int) ⟨B, t, l, i, j, ct, cl, ci, cj, V, rfl, h⟩)
  rw [show errK (some c) n = 0 from by unfold errK; rw [hat]; rfl] at HH
  have hkw := h.wf.k k (List.mem_of_getElem? hK)
  have HP := Lib.hid (fun (w1 : World) (hl : Cl w1 i c.K.length (fun y => if y = n then .int .i64 ((missK k).lim : Nat) else .int .i64 (((c.K[y]?.map (·.lim)).getD 0 : Nat) : Int))) (hkp : Keep (fun g => g = i) w w1) => show TkP true w O (.pointer (some ⟨B, 0, none⟩)) (some c) n (.returned (.tuple #[.int .i64 0, .int .i64 4])) w1 from by
    have e1 : tkV (some c) n = 0 := by unfold tkV; rw [hat]; exact if_pos hnil
    have e2 : tkE (some c) n = 4 := by unfold tkE; rw [hat]; exact if_pos hnil
    have e3 : tkD (some c) n = some { c with K := c.K.set n (missK k) } := by unfold tkD; rw [hat]; dsimp only; rw [if_pos hnil]; rfl
    exact ⟨by rw [e1, e2], by rw [e3]; exact h.updL hK (missK_wf hkw).m1 (missK_wf hkw).m128 hl hkp, by rw [e1]; exact inR0⟩)
  have hn := (List.getElem?_eq_some_iff.1 hK).1
  obtain ⟨c0, _, c2, c3, _⟩ := h.cells
  have c5 := h.limc hK
  have c6 := (h.tab n k hK).2.2
  obtain ⟨A, cp, c7, _, _, _, _⟩ := h.listc hK
  rw [hnil] at c7
  have f5 := h.lim.free n hn
  have HLM := Lib.hid h.lim
  have HML := Lib.hid (show (missK k).lim = if k.lim < k.b then k.lim + 1 else min (k.lim + k.b) 128 from rfl)
  have hb32 := hkw.b32
  have hb1 := hkw.b1
  have hm128 := hkw.m128
  generalize (missK k).lim = R at *
  generalize k.lim = m at *
  generalize k.b = b at *
  generalize c.K.length = N at *
  have hn2 : (n : Int) < (N : Int) := by omega
  have hn0 : (0 : Int) ≤ (n : Int) := by omega
  clear h hK hat hkw hnil
  by_cases hlt : m < b
  · have d1 : decide ((m : Int) < (b : Int)) = true := decide_eq_true (by omega)
    have d2 : decide (m < b) = true := decide_eq_true hlt
    have hR : R = m + 1 := by rw [HML.out, if_pos hlt]
    have e1 : (m : Int) + 1 = (R : Int) := by omega
    have hmi : min (R : Int) 128 = (R : Int) := by omega
    have WE := Lib.hid (w64 (R : Int) (by omega))
    clear hlt hR HML
    obtain ⟨we1, we2⟩ := WE.out
    go_enter Try.func44, Try.ntmps44
    go_wp2_with (go_at_call 69; refine HH.out.mono ?_; rintro e w1 ⟨rfl, rfl⟩)
    go_region
    go_wp2
    go_ret2
    exact HP.out _ ((HLM.out.set n _).of_block rfl) ((keep_set (F := fun g => g = i) (Keep.refl _ _) rfl _).trans (Keep.of (belowN (Below.refl _ _) 1)))
  · have d1 : decide ((m : Int) < (b : Int)) = false := decide_eq_false (by omega)
    have d2 : decide (m < b) = false := decide_eq_false hlt
    have hR : R = min (m + b) 128 := by rw [HML.out, if_neg hlt]
    obtain ⟨s, hs⟩ : ∃ s, m + b = s := ⟨_, rfl⟩
    rw [hs] at hR
    have e1 : (m : Int) + (b : Int) = (s : Int) := by omega
    have hmi : min (s : Int) 128 = (R : Int) := by omega
    have WE := Lib.hid (w64 (s : Int) (by omega))
    clear hlt hR HML hs
    obtain ⟨we1, we2⟩ := WE.out
    go_enter Try.func44, Try.ntmps44
    go_wp2_with (go_at_call 69; refine HH.out.mono ?_; rintro e w1 ⟨rfl, rfl⟩)
    go_region
    go_wp2
    go_ret2
    exact HP.out _ ((HLM.out.set n _).of_block rfl) ((keep_set (F := fun g => g = i) (Keep.refl _ _) rfl _).trans (Keep.of (belowN (Below.refl _ _) 1)))
end Go.Proofs.Yticcjelaenhigaa
