/- Package transfer: Remove. -/
import Derived.Test.YtaefhhkdfepgmaaLb
namespace Go.Proofs.Ytaefhhkdfepgmaa
open Go.RowKit

theorem sl_to (A : Option Addr) (N cap n : Nat) (h : n ≤ cap) (w : World) : (Instr.slice 40 (.slice A N cap) none (some (.int .i64 n)) none).run Try.prog w = .ok (.slice A n cap) w := by
  have h0 : (0 : Int) ≤ n := Int.natCast_nonneg n
  have hu := run_underlying (P := Try.prog) (w := w) Try.underlying40
  have hz := Try.sizeOf32
  simp [Instr.slice, hu, Instr.sliceBounds, Instr.sliceBound, go_sem, h0, h, hz]

/-- What Remove returns and leaves. -/
def RmP (r : Bool) (w : World) (O : Nat → Prop) (v : Value) (om : Option Tc) (e : Ending) (w' : World) : Prop := ∃ A c', e = .returned (.tuple #[.slice A (rmV om).length c', .int .i64 (rmE om)]) ∧ IAt (fun k => Ext O w w' k ∧ ¬ isB v k) w' A (rmV om) ∧ TMut r (isB v) w O v (rmD om) w'
theorem dl_take (L : List (List Int)) : L.dropLast = L.take (L.length - 1) := List.dropLast_eq_take
/-- The newest one is gone. -/
theorem TcA.rm {r : Bool} {w w' : World} {O : Nat → Prop} {B K cap : Nat} {A : Option Addr} {X : List Bt} {c : Tc} (h : TcA r w O B (.slice A X.length cap) X c) (hK : X.length = K + 1)
    (hcl : Cl w' B 4 (tF r { c with L := c.L.dropLast, lo := min c.lo (c.L.length - 1) } (.slice A K cap))) (hk : Keep (fun k => k = B) w w') : TcA r w' O B (.slice A K cap) (X.take K) { c with L := c.L.dropLast, lo := min c.lo (c.L.length - 1) } := by
  have hs : ∀ x ∈ X.take K, x ∈ X := fun x hx => List.mem_of_mem_take hx
  obtain ⟨A', cap', e, h1, h2⟩ := h.form
  injection e with e1 e2 e3
  have ho : ∀ g, (Value.slice A K cap).ownBlock = some g → (Value.slice A X.length cap).ownBlock = some g := fun g hg => by cases A with | none => cases hg | some a => exact hg
  have hc := h.row.cut K (by rw [bV_len]; omega) cap (by omega) (Nat.le_refl _)
  rw [bV_take] at hc
  exact ⟨h.wf.rm, hcl, hc.block fun g hg hl => hk.block g hl (fun e => (h.rowO g (ho g hg)).2 e), fun g hg => h.rowO g (ho g hg), h.ob, fun x hx => (h.bt x (hs x hx)).block (hk.block _ (h.bt x (hs x hx)).lt (h.bo x (hs x hx)).2.1),
    fun x hx => ⟨(h.bo x (hs x hx)).1, (h.bo x (hs x hx)).2.1, fun e => (h.bo x (hs x hx)).2.2 (ho _ e)⟩, by show (X.take K).map _ = c.L.dropLast; rw [dl_take, List.map_take, h.ms, ← h.len, hK]; rfl, fun k ho => Nat.lt_of_lt_of_le (h.lt k ho) hk.size⟩
theorem rm_post {r : Bool} {w w' : World} {O : Nat → Prop} {B K cap : Nat} {A : Option Addr} {X : List Bt} {c : Tc} {x : Bt} (h : TcA r w O B (.slice A X.length cap) X c) (hK : X.length = K + 1) (hx : X[K]? = some x)
    (hcl : Cl w' B 4 (tF r { c with L := c.L.dropLast, lo := min c.lo (c.L.length - 1) } (.slice A K cap))) (hk : Keep (fun k => k = B) w w') : RmP r w O (.pointer (some ⟨B, 0, none⟩)) (some c) (.returned (.tuple #[.slice (some ⟨x.g, 0, none⟩) x.l.length x.c, .int .i64 0])) w' := by
  have hne : c.L ≠ [] := fun e => by have := h.len; rw [e] at this; simp at this; rw [this] at hK; simp at hK
  have hr : rmV (some c) = x.l := by
    have h1 := last_at hne
    rw [← h.len, hK, show K + 1 - 1 = K from rfl, h.at hx] at h1
    injection h1 with h1
    exact h1.symm
  have hm := List.mem_of_getElem? hx
  refine ⟨_, _, by rw [hr, show rmE (some c) = 0 from if_neg hne], ?_, (h.rm hK hcl hk).ob'.mono (fun k hk => .inl hk) (Ext.lt h.lt hk.size), hk.mono fun k _ e => by subst e; rfl⟩
  rw [hr]
  refine (BtAt.iat (P := fun k => O k ∧ k ≠ B) ((h.bt x hm).block (hk.block _ (h.bt x hm).lt (h.bo x hm).2.1)) ⟨(h.bo x hm).1, (h.bo x hm).2.1⟩).mono fun k _ h2 => ⟨.inl h2.1, fun e => h2.2 ?_⟩
  injection e with e
  injection e with e
  injection e with e _ _
  exact e.symm
theorem rm_none {r : Bool} {w : World} {O : Nat → Prop} {v : Value} (h : TOb r w O v none) : RmP r w O v none (.returned (.tuple #[.slice none 0 0, .int .i64 5])) w :=
  ⟨none, 0, rfl, IAt.nil _ _ _, TMut.same h (Below.refl _ _)⟩
theorem rm_empty {r : Bool} {w : World} {O : Nat → Prop} {v : Value} {c : Tc} (h : TOb r w O v (some c)) (he : c.L = []) : RmP r w O v (some c) (.returned (.tuple #[.slice none 0 0, .int .i64 4])) w := by
  have e1 : rmV (some c) = [] := by show c.L[_]?.getD [] = []; rw [he]; rfl
  refine ⟨none, 0, by rw [e1, show rmE (some c) = 4 from if_pos he]; rfl, by rw [e1]; exact IAt.nil _ _ _, by rw [rmD_nil h.wf he]; exact TMut.same h (Below.refl _ _)⟩

set_option maxRecDepth 100000 in
set_option maxHeartbeats 2000000 in
theorem cRemove_any {O : Nat → Prop} {v : Value} {om : Option Tc} {w : World} (h : TOb false w O v om) : Calls Try.prog 20 #[v] w (RmP false w O v om) := by
  cases om with
  | none =>
    have HM := Lib.hid (cmade_no h.1)
    have HH := Lib.hid h
    clear h
    go_enter Try.func20, Try.ntmps20
    go_wp2_with (go_at_call 29; refine HM.out.mono ?_; rintro e w1 ⟨rfl, rfl⟩)
    go_ret2
    exact rm_none HH.out
  | some c =>
    have HO := Lib.hid h
    obtain ⟨B, V, X, rfl, h⟩ := h
    have HM := Lib.hid (cmade_any h)
    obtain ⟨A, cap, rfl, h1, h2⟩ := h.form
    obtain ⟨c2, c3⟩ := h.pc
    have f2 := h.hd.free 2 (by omega)
    have f3 := h.hd.free 3 (by omega)
    have hN8 := h.n8
    rcases Nat.eq_zero_or_pos X.length with hz | hz
    · have HE := Lib.hid (show c.L = [] from List.length_eq_zero_iff.1 (by rw [← h.len]; exact hz))
      rw [hz] at c3
      clear h
      go_enter Try.func20, Try.ntmps20
      go_wp2_with (go_at_call 29; refine HM.out.mono ?_; rintro e w1 ⟨rfl, rfl⟩)
      go_ret2
      exact rm_empty HO.out HE.out
    · obtain ⟨K, hK⟩ : ∃ K, X.length = K + 1 := ⟨X.length - 1, by omega⟩
      obtain ⟨x, hx⟩ : ∃ x, X[K]? = some x := ⟨_, List.getElem?_eq_getElem (by omega)⟩
      obtain ⟨g, o, cap', hV, cx⟩ := h.slot hx
      obtain ⟨rfl, rfl⟩ : A = some ⟨g, o, none⟩ ∧ cap = cap' := by injection hV; exact ⟨by assumption, by assumption⟩
      have HH := Lib.hid h
      have HK := Lib.hid hK
      have HX := Lib.hid hx
      have HW := Lib.hid (show ∀ (w' : World) (q : Nat), q = min c.lo K → Cl w' B 4 (fun j => if j = 2 then .int .i64 q else if j = 3 then .slice (some ⟨g, o, none⟩) K cap else tF false c (.slice (some ⟨g, o, none⟩) X.length cap) j) → Cl w' B 4 (tF false { c with L := c.L.dropLast, lo := min c.lo (c.L.length - 1) } (.slice (some ⟨g, o, none⟩) K cap)) from fun w' q hq h' => h'.congr fun i hi => by
        have : i = 0 ∨ i = 1 ∨ i = 2 ∨ i = 3 := by omega
        have e : c.L.length - 1 = K := by rw [← h.len, hK]; rfl
        rcases this with rfl | rfl | rfl | rfl <;> simp [tF, e, hq])
      rw [hK] at c3 h1 hN8
      have hs := sl_to (some ⟨g, o, none⟩) (K + 1) cap K (by omega)
      obtain ⟨lo, hlo⟩ : ∃ lo, c.lo = lo := ⟨_, rfl⟩
      rw [hlo] at c2
      have HLO := Lib.hid hlo
      clear hlo
      obtain ⟨N, hN⟩ : ∃ N, K + 1 = N := ⟨_, rfl⟩
      rw [hN] at c3 h1 hs
      have e0 : (N : Int) - 1 = K := by omega
      have E1 := Lib.hid (w64 (K : Int) (by omega))
      obtain ⟨e1, e2⟩ := E1.out
      have hKN : K < N := by omega
      clear h hV hx hK hz hN
      go_enter Try.func20, Try.ntmps20
      go_wp2_with (go_at_call 29; refine HM.out.mono ?_; rintro e w1 ⟨rfl, rfl⟩)
      all_goals
        go_ret2
        refine rm_post HH.out HK.out HX.out (HW.out _ _ ?_ ((HH.out.hd.set 3 _).set 2 _)) (keep_set (F := fun k => k = B) (keep_set (F := fun k => k = B) (Keep.refl _ _) rfl _) rfl _)
        rw [HLO.out]
        omega
end Go.Proofs.Ytaefhhkdfepgmaa
