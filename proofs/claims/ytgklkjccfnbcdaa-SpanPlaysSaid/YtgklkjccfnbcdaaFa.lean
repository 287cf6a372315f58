/- The statements' helpers: great, do, made. -/
import Derived.Test.YtgklkjccfnbcdaaRc
namespace Go.Proofs.Ytgklkjccfnbcdaa
open Go.RowKit

def Yes (w : World) (e : Ending) (w' : World) : Prop := e = .returned (.bool true) ∧ Below w.heap.size w w'

set_option maxHeartbeats 400000 in
theorem great_any (A : Option Addr) (n c : Nat) (w : World) (hn : n ≤ 9223372036854775807) : Calls Try.prog 10 #[.slice A n c] w fun e w' => e = .returned (.bool (decide (60 < n))) ∧ w = w' := by
  go_enter Try.func10, Try.ntmps10
  go_wp2
  go_ret
  exact ⟨ret_bool (by simp; omega), rfl⟩

structure AcR (x : Ac) : Prop where
  k : InR x.k
  a : InR x.a

theorem new2 (w : World) (a b : Value) (t : TypeId) : ∃ W0, w.alloc (.cells #[a, b] t) = W0 ∧ Below w.heap.size w W0 ∧ w.heap.size < W0.heap.size ∧
    W0.cell? ⟨w.heap.size, 0, none⟩ = some a ∧ W0.cell? ⟨w.heap.size, 1, none⟩ = some b := by
  refine ⟨_, rfl, bnew _ _, by simp, ?_, ?_⟩ <;> go_simp

theorem doE_0 (om : Option Mo) (a : Int) : doE om ⟨0, a⟩ = tkE om := rfl
theorem doE_1 (om : Option Mo) (a : Int) : doE om ⟨1, a⟩ = ptE om a := rfl
theorem doE_2 (om : Option Mo) (a : Int) : doE om ⟨2, a⟩ = ixE om a := rfl
theorem doE_3 (om : Option Mo) (a : Int) : doE om ⟨3, a⟩ = isE om a := rfl
theorem doE_n (om : Option Mo) {k : Int} (a : Int) (h : ¬ (k = 0 ∨ k = 1 ∨ k = 2 ∨ k = 3)) : doE om ⟨k, a⟩ = 0 := by
  unfold doE; dsimp only
  rw [if_neg (by omega), if_neg (by omega), if_neg (by omega), if_neg (by omega)]
theorem doD_n (om : Option Mo) {k : Int} (a : Int) (h : ¬ (k = 0 ∨ k = 1)) : doD om ⟨k, a⟩ = om := by
  unfold doD; dsimp only
  rw [if_neg (by omega), if_neg (by omega)]

set_option maxRecDepth 100000 in
set_option maxHeartbeats 1000000 in
theorem do_any {O : Nat → Prop} {v : Value} {om : Option Mo} {w : World} (k a : Int) (h : Ob false w O v om) (ha : InR a) :
    Calls Try.prog 29 #[v, .agg #[.int .i64 k, .int .i64 a]] w fun e w' => e = .returned (.int .i64 (doE om ⟨k, a⟩)) ∧ Mut false w O v (doD om ⟨k, a⟩) w' := by
  obtain ⟨W0, hW, hb0, hz, c0, c1⟩ := new2 w (.int .i64 k) (.int .i64 a) 35
  have h0 := h.below hb0
  have HB := Lib.hid hb0
  have HS := Lib.hid h0
  clear h hb0
  have hk : k = 0 ∨ k = 1 ∨ k = 2 ∨ k = 3 ∨ ¬ (k = 0 ∨ k = 1 ∨ k = 2 ∨ k = 3) := by omega
  rcases hk with rfl | rfl | rfl | rfl | hk
  · have HC := Lib.hid (Take_any h0)
    rw [doE_0, show doD om ⟨0, a⟩ = tkD om from rfl]
    clear h0 ha
    go_enter Try.func29, Try.ntmps29
    go_wp2_with (go_at_call 27; refine HC.out.mono ?_; rintro e w1 ⟨rfl, hM⟩; have HM := Lib.hid hM; clear hM)
    go_ret
    exact ⟨rfl, Mut.after HB.out HM.out⟩
  · have HC := Lib.hid (Put_any h0 a ha)
    rw [doE_1, show doD om ⟨1, a⟩ = ptD om a from rfl]
    clear h0 ha
    go_enter Try.func29, Try.ntmps29
    go_wp2_with (go_at_call 28; refine HC.out.mono ?_; rintro e w1 ⟨rfl, hM⟩; have HM := Lib.hid hM; clear hM)
    go_ret
    exact ⟨rfl, Mut.after HB.out HM.out⟩
  · have HC := Lib.hid (Index_any h0 a ha)
    rw [doE_2, show doD om ⟨2, a⟩ = om from rfl]
    clear h0 ha
    go_enter Try.func29, Try.ntmps29
    go_wp2_with (go_at_call 21; refine HC.out.mono ?_; rintro e w1 ⟨rfl, hM⟩; have HM := Lib.hid hM; clear hM)
    go_ret
    exact ⟨rfl, Mut.after HB.out (Mut.same HS.out HM.out)⟩
  · have HC := Lib.hid (IsTaken_any h0 a ha)
    rw [doE_3, show doD om ⟨3, a⟩ = om from rfl]
    clear h0 ha
    go_enter Try.func29, Try.ntmps29
    go_wp2_with (go_at_call 23; refine HC.out.mono ?_; rintro e w1 ⟨rfl, hM⟩; have HM := Lib.hid hM; clear hM)
    go_ret
    exact ⟨rfl, Mut.after HB.out (Mut.same HS.out HM.out)⟩
  · rw [doE_n om a hk, doD_n om a (by omega)]
    have k0 : (k == 0) = false := by simp; omega
    have k1 : (k == 1) = false := by simp; omega
    have k2 : (k == 2) = false := by simp; omega
    have k3 : (k == 3) = false := by simp; omega
    clear hk h0 ha
    go_enter Try.func29, Try.ntmps29
    go_wp2_with fail
    go_ret
    exact ⟨rfl, Mut.after HB.out (Mut.same HS.out (Below.refl _ _))⟩
theorem do_at {O : Nat → Prop} {v : Value} {om : Option Mo} {w : World} (x : Ac) (h : Ob false w O v om) (hr : AcR x) :
    Calls Try.prog 29 #[v, .agg #[.int .i64 x.k, .int .i64 x.a]] w fun e w' => e = .returned (.int .i64 (doE om x)) ∧ Mut false w O v (doD om x) w' := do_any x.k x.a h hr.a

/-- The slice's cells hold the calls, in blocks below N. -/
def ActsAt (w : World) (N : Nat) (A : Option Addr) (l : List Ac) : Prop :=
  ∀ (k : Nat) (x : Ac), l[k]? = some x → AcR x ∧ ∃ b o : Nat, A = some ⟨b, o, none⟩ ∧ b < N ∧ w.cell? ⟨b, o + k * 2, none⟩ = some (.int .i64 x.k) ∧ w.cell? ⟨b, o + k * 2 + 1, none⟩ = some (.int .i64 x.a)
theorem ActsAt.below {w w' : World} {N : Nat} {A : Option Addr} {l : List Ac} (h : ActsAt w N A l) (hb : Below N w w') : ActsAt w' N A l := fun k x hk => by
  obtain ⟨hr, b, o, e, hB, h1, h2⟩ := h k x hk
  exact ⟨hr, b, o, e, hB, (hb.cell (p := ⟨b, _, none⟩) hB).trans h1, (hb.cell (p := ⟨b, _, none⟩) hB).trans h2⟩
theorem ActsAt.more {w : World} {N N' : Nat} {A : Option Addr} {l : List Ac} (h : ActsAt w N A l) (hN : N ≤ N') : ActsAt w N' A l := fun k x hk => by
  obtain ⟨hr, b, o, e, hB, hh⟩ := h k x hk
  exact ⟨hr, b, o, e, Nat.lt_of_lt_of_le hB hN, hh⟩
theorem ActsAt.nil (w : World) (N : Nat) : ActsAt w N none [] := fun k x hk => by simp at hk
def runO (om : Option Mo) (l : List Ac) : Option Mo := l.foldl doD om
theorem take_snoc {l : List Ac} {k : Nat} {x : Ac} (h : l[k]? = some x) : l.take (k + 1) = l.take k ++ [x] := by
  rw [List.take_add_one, h]; rfl
theorem runO_take {om : Option Mo} {l : List Ac} {k : Nat} {x : Ac} (h : l[k]? = some x) : runO om (l.take (k + 1)) = doD (runO om (l.take k)) x := by
  unfold runO
  rw [take_snoc h, List.foldl_append]; rfl

/-- A span of one's own, since w. -/
def Own' (r : Bool) (w0 w : World) (v : Value) (om : Option Mo) : Prop := Ob r w (Nw w0 w) v om ∧ Below w0.heap.size w0 w
theorem Own'.step {r : Bool} {w0 w w' : World} {v : Value} {o1 o2 : Option Mo} (h : Own' r w0 w v o1) (hM : Mut r w (Nw w0 w) v o2 w') : Own' r w0 w' v o2 := by
  have s0 := h.2.size
  have s1 := hM.2.size
  exact ⟨hM.1.mono (fun _ hk => ⟨hk.1, by have := hk.2; omega⟩) (fun _ hk => hk.2), h.2.trans (hM.2.below s0 (fun _ hk => hk.1))⟩
theorem Own'.below {r : Bool} {w0 w w' : World} {v : Value} {om : Option Mo} (h : Own' r w0 w v om) (hb : Below w.heap.size w w') : Own' r w0 w' v om := h.step (Mut.same h.1 hb)
theorem Own'.later {r : Bool} {w00 w0 w : World} {v : Value} {om : Option Mo} (h : Own' r w0 w v om) (hb : Below w00.heap.size w00 w0) : Own' r w00 w v om :=
  ⟨h.1.mono (fun _ hk => ⟨Nat.le_trans hb.size hk.1, hk.2⟩) (fun _ hk => hk.2), hb.trans (h.2.mono hb.size)⟩

/-- What made leaves. -/
def MadeP (w : World) (om : Option Mo) (e : Ending) (w' : World) : Prop := ∃ v, e = .returned (.pointer v) ∧ Own' false w w' (.pointer v) om ∧ (om = none ↔ v = none)

theorem doD_some (m : Mo) (x : Ac) : ∃ f, doD (some m) x = some { m with f := f } := by
  unfold doD
  split
  · cases e : ff m with
    | none => exact ⟨m.f, by rw [tkD_none e]⟩
    | some k => exact ⟨_, by rw [tkD_some e]; rfl⟩
  · split
    · cases e : obO m x.a with
      | none => exact ⟨m.f, by rw [ptD_none e]⟩
      | some k =>
        cases hf : m.f k with
        | true => exact ⟨_, by rw [ptD_on e hf]; rfl⟩
        | false => exact ⟨m.f, by rw [ptD_off e hf]⟩
    · exact ⟨m.f, rfl⟩
theorem runO_some (l : List Ac) : ∀ m : Mo, ∃ f, runO (some m) l = some { m with f := f } := by
  induction l with
  | nil => intro m; exact ⟨m.f, rfl⟩
  | cons x t ih =>
    intro m
    obtain ⟨f, hf⟩ := doD_some m x
    obtain ⟨g, hg⟩ := ih { m with f := f }
    exact ⟨g, by show runO (doD (some m) x) t = _; rw [hf, hg]⟩
theorem runO_none (l : List Ac) : runO none l = none := by
  induction l with
  | nil => rfl
  | cons x t ih =>
    show runO (doD none x) t = none
    have : doD none x = none := by
      unfold doD
      split
      · rfl
      · split <;> rfl
    rw [this, ih]
theorem ob_ptr {r : Bool} {w : World} {O : Nat → Prop} {v : Value} {m : Mo} (h : Ob r w O v (some m)) : ∃ B, v = .pointer (some ⟨B, 0, none⟩) := by
  obtain ⟨B, A, c, e, _⟩ := h
  exact ⟨B, e⟩

set_option maxRecDepth 100000 in
set_option maxHeartbeats 1000000 in
theorem made'_any (st s p b : Int) (A : Option Addr) (c : Nat) (l : List Ac) (w : World) (hl : l.length ≤ 9223372036854775807) (hA : ActsAt w w.heap.size A l) :
    Calls Try.prog 18 #[.int .i64 st, .agg #[.int .i64 s, .int .i64 p, .int .i64 b], .slice A l.length c] w (MadeP w (runO (newO st ⟨s, p, b⟩) l)) := by
  have HN := Lib.hid (New_any st s p b)
  obtain ⟨W0, hW, hB0, hsz, x0, x1, x2⟩ := new3 w (.int .i64 s) (.int .i64 p) (.int .i64 b) 23
  have HB0 := Lib.hid hB0
  have HA := Lib.hid hA
  obtain ⟨L, hL⟩ : ∃ L, L = l.length := ⟨_, rfl⟩
  have HL := Lib.hid hL
  rw [← hL] at hl ⊢
  clear hA hL hB0 hsz
  by_cases hf : fitB st ⟨s, p, b⟩ = true
  · have hE : newE st ⟨s, p, b⟩ = 0 := if_pos hf
    have hO : newO st ⟨s, p, b⟩ = some (newM st ⟨s, p, b⟩) := if_pos hf
    rw [hE, hO] at HN
    rw [hO]
    generalize newM st ⟨s, p, b⟩ = m0 at *
    clear hf hE hO
    go_enter Try.func18, Try.ntmps18
    go_wp2_with (go_at_call 12; refine (HN.out _).mono ?_; rintro e w1 ⟨v, rfl, hob, _, hb1⟩; have HO1 := Lib.hid (Own'.later (r := false) ⟨hob, hb1⟩ HB0.out); obtain ⟨B, rfl⟩ := ob_ptr hob; clear hob hb1)
    go_loopw [9] (fun i wr => ∃ k : Nat, k ≤ L ∧ i = .int .i64 k ∧ Own' false w wr (.pointer (some ⟨B, 0, none⟩)) (runO (some m0) (l.take k))) (fun i _ => L - (intOf i).toNat)
    case atStart => exact ⟨0, by omega, rfl, HO1.out⟩
    case round =>
      obtain ⟨k, hk, rfl, hM⟩ := hrel
      have HM := Lib.hid hM
      by_cases hlt : k < L
      · obtain ⟨x, hx⟩ : ∃ x, l[k]? = some x := ⟨_, List.getElem?_eq_getElem (by have := HL.out; omega)⟩
        obtain ⟨hr, b, o, rfl, hB, g1, g2⟩ := (HA.out.below hM.2) k x hx
        have HD := Lib.hid (do_at x hM.1 hr)
        have HX := Lib.hid (runO_take (om := some m0) hx)
        clear hM hx hr
        go_wp2_with (go_at_call 29; refine HD.out.mono ?_; rintro e w2 ⟨rfl, hM2⟩; have HM2 := Lib.hid hM2; clear hM2)
        go_roundw
        case rel => exact ⟨k + 1, by omega, by go_num, by rw [HX.out]; exact HM.out.step HM2.out⟩
        case measure => simp [intOf]; omega
      · have hkL : l.take k = l := List.take_of_length_le (by have := HL.out; omega)
        rw [hkL] at HM
        have HX := Lib.hid (show ¬ runO (some m0) l = none from by obtain ⟨f, hf⟩ := runO_some l m0; rw [hf]; exact fun h => nomatch h)
        clear hM hkL
        go_wp2
        go_ret
        exact ⟨_, rfl, HM.out, fun h => absurd h HX.out, fun h => nomatch h⟩
  · have hE : newE st ⟨s, p, b⟩ = 1 := if_neg hf
    have hO : newO st ⟨s, p, b⟩ = none := if_neg hf
    rw [hE, hO] at HN
    rw [hO, runO_none]
    clear hf hE hO
    go_enter Try.func18, Try.ntmps18
    go_wp2_with (go_at_call 12; refine (HN.out _).mono ?_; rintro e w1 ⟨v, rfl, hob, hv, hb1⟩; have HO1 := Lib.hid (Own'.later (r := false) ⟨hob, hb1⟩ HB0.out); obtain rfl := hv rfl; clear hob hb1)
    go_ret
    exact ⟨none, rfl, HO1.out, fun _ => rfl, fun _ => rfl⟩

end Go.Proofs.Ytgklkjccfnbcdaa
