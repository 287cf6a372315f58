/- Package cache, its lists: miss, newest, the cells that are turned. -/
import Derived.Test.YticcjelaenhigaaMc
import Derived.StillTailTactics
import Derived.Deep.RegionLaw
import Derived.Deep.AppendLies
namespace Go.Proofs.Yticcjelaenhigaa
open Go.RowKit Go.Lib

theorem undrewB {w w' : World} (h : Below w.drew.heap.size w.drew w') : Below w.heap.size w w' := ⟨h.os, h.tape, h.output, h.size, h.block⟩
theorem keepN {O : Nat → Prop} {w w' : World} (h : Keep O w w') (n : Nat) : Keep O w (w'.drewN n) := ⟨h.os, h.tape, h.output, h.size, h.block⟩
theorem Cl.drewN {w : World} {b n : Nat} {f : Nat → Value} (h : Cl w b n f) (m : Nat) : Cl (w.drewN m) b n f := ⟨h.cell, h.free, h.lt⟩
/-- Five cells, one of them turned. -/
theorem five {i : Nat} (h : i < 5) : i = 0 ∨ i = 1 ∨ i = 2 ∨ i = 3 ∨ i = 4 := by omega
theorem kF_lim (k : Kl) (V : Value) (n : Nat) : ∀ i, i < 5 → (if i = 3 then Value.int .i64 (n : Int) else kF k V i) = kF { k with lim := n } V i := fun i hi => by
  rcases five hi with rfl | rfl | rfl | rfl | rfl <;> rfl

set_option maxRecDepth 100000 in
set_option maxHeartbeats 1000000 in
theorem lmiss_any {w : World} {O : Nat → Prop} {p : Nat} {k : Kl} (h : KOb w O p k) : Calls Try.prog 58 #[.pointer (some ⟨p, 0, none⟩)] w fun e w' => e = .returned (.tuple #[]) ∧ KMut w O p (missK k) w' := by
  obtain ⟨V, h⟩ := h
  have HH := Lib.hid h
  have HF := Lib.hid (fun (n : Nat) (w' : World) (e : n = (missK k).lim) (hcl : Cl w' p 5 (fun i => if i = 3 then Value.int .i64 (n : Int) else kF k V i)) (hk : Keep (fun j => j = p) w w') => show KMut w O p (missK k) w' from
    h.mut (h.set (missK_wf h.wf) rfl (hcl.congr fun i hi => by rw [kF_lim k V n i hi, e]; rfl) hk) hk)
  obtain ⟨z0, c1, z2, c3, z4⟩ := h.cells
  clear z0 z2 z4
  have f3 := h.hd.free 3 (by omega)
  have hm := h.wf.m128
  have hb := h.wf.b32
  have HL := Lib.hid (show (missK k).lim = if k.lim < k.b then k.lim + 1 else min (k.lim + k.b) 128 from rfl)
  generalize k.lim = m at *
  generalize k.b = b at *
  clear h
  by_cases hlt : m < b
  · have d1 : decide ((m : Int) < (b : Int)) = true := decide_eq_true (by omega)
    have d2 : decide (m < b) = true := decide_eq_true hlt
    obtain ⟨q1, q2⟩ := w64 ((m : Int) + 1) (by omega)
    clear hlt
    go_enter Try.func58, Try.ntmps58
    go_wp2
    go_quiet (fail)
    go_wp2
    refine bodyPost_ret (results_none rfl _ _ _) rfl ?_
    clear q1 q2 d1
    refine ⟨rfl, HF.out (m + 1) _ ?_ ((HH.out.hd.drewN nq).set 3 _) (keep_set (F := fun j => j = p) (keepN (Keep.refl _ _) nq) rfl _)⟩
    rw [HL.out, if_pos (of_decide_eq_true d2)]
  · have d1 : decide ((m : Int) < (b : Int)) = false := decide_eq_false (by omega)
    have d2 : decide (m < b) = false := decide_eq_false hlt
    obtain ⟨q1, q2⟩ := w64 ((m : Int) + (b : Int)) (by omega)
    have HN := Lib.hid (hlt)
    clear hlt
    go_enter Try.func58, Try.ntmps58
    go_wp2
    go_quiet (fail)
    go_wp2
    go_region
    go_wp2
    · skip
      go_end0
      clear q1 q2 d1 d2
      refine ⟨rfl, HF.out 128 _ ?_ ((HH.out.hd.drewN (nq + 1)).set 3 _) (keep_set (F := fun j => j = p) (keepN (Keep.refl _ _) (nq + 1)) rfl _)⟩
      rw [HL.out, if_neg HN.out]
      omega
    · skip
      go_end0
      clear q1 q2 d1 d2
      refine ⟨rfl, HF.out (m + b) _ ?_ ((HH.out.hd.drewN (nq + 1)).set 3 _) (keep_set (F := fun j => j = p) (keepN (Keep.refl _ _) (nq + 1)) rfl _)⟩
      rw [HL.out, if_neg HN.out]
      omega

theorem kF_pop (k : Kl) (V V' : Value) (n : Nat) (l : List Int) : ∀ i, i < 5 → (if i = 4 then Value.int .i64 (n : Int) else if i = 2 then V' else kF k V i) = kF { k with l := l, lo := n } V' i := fun i hi => by
  rcases five hi with rfl | rfl | rfl | rfl | rfl <;> rfl
theorem sl_to (A : Option Addr) (N cap n : Nat) (h : n ≤ cap) (w : World) : (Instr.slice 33 (.slice A N cap) none (some (.int .i64 n)) none).run Try.prog w = .ok (.slice A n cap) w := by
  have h0 : (0 : Int) ≤ n := Int.natCast_nonneg n
  have hu := run_underlying (P := Try.prog) (w := w) Try.underlying33
  have hz := Try.sizeOf3
  simp [Instr.slice, hu, Instr.sliceBounds, Instr.sliceBound, go_sem, h0, h, hz]
/-- What newest returns and leaves. -/
def NwP (w : World) (O : Nat → Prop) (p : Nat) (k : Kl) (e : Ending) (w' : World) : Prop := e = .returned (.int .i64 (lastK k)) ∧ KMut w O p (popK k) w' ∧ InR (lastK k)
set_option maxRecDepth 100000 in
set_option maxHeartbeats 1000000 in
theorem lnewest_any {w : World} {O : Nat → Prop} {p : Nat} {k : Kl} (h : KOb w O p k) (hne : k.l ≠ []) : Calls Try.prog 59 #[.pointer (some ⟨p, 0, none⟩)] w (NwP w O p k) := by
  obtain ⟨V, h⟩ := h
  have hl : 0 < k.l.length := List.length_pos_iff.2 hne
  obtain ⟨A, cap, rfl, h1, h2⟩ := h.form
  obtain ⟨K, hK⟩ : ∃ K, k.l.length = K + 1 := ⟨k.l.length - 1, by omega⟩
  have hx : k.l[K]? = some (lastK k) := by
    unfold lastK
    rw [hK, show K + 1 - 1 = K from rfl, List.getElem?_eq_getElem (by omega)]
    rfl
  obtain ⟨g, o, cap', hV, cx, _⟩ := h.row.slot (cZ_at hx)
  rw [cZ_len] at hV
  obtain ⟨rfl, rfl⟩ : A = some ⟨g, o, none⟩ ∧ cap = cap' := by injection hV; exact ⟨by assumption, by assumption⟩
  have HR := Lib.hid (h.inr _ (List.mem_of_getElem? hx))
  have HH := Lib.hid h
  have HF := Lib.hid (fun (n : Nat) (w' : World) (e : n = (popK k).lo) (hcl : Cl w' p 5 (fun i => if i = 4 then Value.int .i64 (n : Int) else if i = 2 then .slice (some ⟨g, o, none⟩) K cap else kF k (.slice (some ⟨g, o, none⟩) k.l.length cap) i)) (hk : Keep (fun j => j = p) w w') => show KMut w O p (popK k) w' from by
    have e1 : (popK k).l = k.l.take K := by show k.l.dropLast = _; rw [List.dropLast_eq_take, hK]; rfl
    have hc := h.row.cut K (by rw [cZ_len]; omega) cap (by omega) (Nat.le_refl _)
    rw [cZ_take, ← e1] at hc
    refine h.mut (V' := .slice (some ⟨g, o, none⟩) K cap) ⟨popK_wf h.wf, hcl.congr fun i hi => ?_, hc.block fun j hj hl => hk.block j hl (h.rowO j hj).2, fun j hj => h.rowO j hj, h.ob, fun a ha => h.inr a (List.mem_of_mem_take (by rw [e1] at ha; exact ha)), fun j ho => Nat.lt_of_lt_of_le (h.lt j ho) hk.size⟩ hk
    rw [kF_pop k _ _ n k.l.dropLast i hi, e]; rfl)
  obtain ⟨_, _, c2, _, c4⟩ := h.cells
  have f2 := h.hd.free 2 (by omega)
  have f4 := h.hd.free 4 (by omega)
  have hlen := h.wf.len
  rw [hK] at c2 h1 hlen
  have HL := Lib.hid (show (popK k).lo = min k.lo K from by show min k.lo (k.l.length - 1) = _; rw [hK]; rfl)
  have hs := sl_to (some ⟨g, o, none⟩) (K + 1) cap K (by omega)
  have HX := Lib.hid hx
  obtain ⟨y, hy⟩ : ∃ y, lastK k = y := ⟨_, rfl⟩
  unfold NwP
  rw [hy] at cx HR ⊢
  clear hy HX
  generalize k.lo = lo at *
  obtain ⟨N, hN⟩ : ∃ N, K + 1 = N := ⟨_, rfl⟩
  rw [hN] at c2 h1 hs hlen
  have e0 : (N : Int) - 1 = K := by omega
  have E1 := Lib.hid (w64 (K : Int) (by omega))
  obtain ⟨e1, e2⟩ := E1.out
  have hKN : K < N := by omega
  clear h hV hx hK hl hne hN
  go_enter Try.func59, Try.ntmps59
  go_wp2
  all_goals
    go_ret
    clear e1 e2
    refine ⟨rfl, HF.out _ _ ?_ ((HH.out.hd.set 2 _).set 4 _) (keep_set (F := fun j => j = p) (keep_set (F := fun j => j = p) (Keep.refl _ _) rfl _) rfl _), HR.out⟩
    rw [HL.out]
    omega
end Go.Proofs.Yticcjelaenhigaa
