/- The statements' helpers: do, great, made. -/
import Derived.Test.YtnmejilpifmlnaaDoorLq
namespace Go.Proofs.YtnmejilpifmlnaaDoor
open Go.RowKit

/-- A call of the statements. -/
structure Ac where
  k : Int
  a : Int
  b : Int
def InR (x : Int) : Prop := -9223372036854775808 ≤ x ∧ x ≤ 9223372036854775807
structure AcR (x : Ac) : Prop where
  k : InR x.k
  a : InR x.a
  b : InR x.b
def doE (m : Mo) (x : Ac) : Int := if x.k = 0 then givE m x.a x.b else if x.k = 1 then tkE m x.a x.b else if x.k = 2 then trE m x.a x.b else 0
def doM (m : Mo) (x : Ac) : Mo := if x.k = 0 then givD m x.a x.b else if x.k = 1 then tkD m x.a x.b else if x.k = 2 then trD m x.a x.b else m

set_option maxHeartbeats 400000 in
theorem great_any (A : Option Addr) (n c : Nat) (w : World) (hn : n ≤ 9223372036854775807) : Calls Tryd.prog 12 #[.slice A n c] w fun e w' => e = .returned (.bool (decide (40 < n))) ∧ w = w' := by
  go_enter Tryd.func12, Tryd.ntmps12
  go_wp2
  go_ret
  exact ⟨ret_bool (by simp; omega), rfl⟩

theorem new3 (w : World) (a b c : Value) (t : TypeId) : ∃ W0, w.alloc (.cells #[a, b, c] t) = W0 ∧ Below w.heap.size w W0 ∧ w.heap.size < W0.heap.size ∧
    W0.cell? ⟨w.heap.size, 0, none⟩ = some a ∧ W0.cell? ⟨w.heap.size, 1, none⟩ = some b ∧ W0.cell? ⟨w.heap.size, 2, none⟩ = some c := by
  refine ⟨_, rfl, bnew _ _, by simp, ?_, ?_, ?_⟩ <;> go_simp

set_option maxRecDepth 100000 in
set_option maxHeartbeats 1000000 in
theorem do_any {O : Nat → Prop} {B : Nat} {m : Mo} {w : World} (k a b : Int) (h : Hp w O B m) (ha : InR a) :
    Calls Tryd.prog 30 #[.pointer (some ⟨B, 0, none⟩), .agg #[.int .i64 k, .int .i64 a, .int .i64 b]] w fun e w' => e = .returned (.int .i64 (doE m ⟨k, a, b⟩)) ∧ Mut w O B (doM m ⟨k, a, b⟩) w' := by
  obtain ⟨W0, hW, hb0, hz, c0, c1, c2⟩ := new3 w (.int .i64 k) (.int .i64 a) (.int .i64 b) 33
  have h0 := h.below hb0
  have HB := Lib.hid hb0
  have HS := Lib.hid h0
  clear h hb0
  have hk : k = 0 ∨ k = 1 ∨ k = 2 ∨ ¬ (k = 0 ∨ k = 1 ∨ k = 2) := by omega
  rcases hk with rfl | rfl | rfl | hk
  · have HC := Lib.hid (Give_any a b h0 ha)
    have HE := Lib.hid (show doE m ⟨0, a, b⟩ = givE m a b from rfl)
    have HD := Lib.hid (show doM m ⟨0, a, b⟩ = givD m a b from rfl)
    clear h0 ha
    go_enter Tryd.func30, Tryd.ntmps30
    go_wp2_with (go_at_call 29; refine HC.out.mono ?_; rintro e w1 ⟨rfl, hM⟩; have HM := Lib.hid hM; clear hM)
    go_ret
    exact ⟨ret_int HE.out.symm, by rw [HD.out]; exact Mut.after HB.out HM.out⟩
  · have HC := Lib.hid (Take_any a b h0)
    have HE := Lib.hid (show doE m ⟨1, a, b⟩ = tkE m a b from rfl)
    have HD := Lib.hid (show doM m ⟨1, a, b⟩ = tkD m a b from rfl)
    clear h0 ha
    go_enter Tryd.func30, Tryd.ntmps30
    go_wp2_with (go_at_call 25; refine HC.out.mono ?_; rintro e w1 ⟨rfl, hM⟩; have HM := Lib.hid hM; clear hM)
    go_ret
    exact ⟨ret_int HE.out.symm, by rw [HD.out]; exact Mut.after HB.out HM.out⟩
  · have HC := Lib.hid (TakeRun_any a b h0 ha)
    have HE := Lib.hid (show doE m ⟨2, a, b⟩ = trE m a b from rfl)
    have HD := Lib.hid (show doM m ⟨2, a, b⟩ = trD m a b from rfl)
    clear h0 ha
    go_enter Tryd.func30, Tryd.ntmps30
    go_wp2_with (go_at_call 38; refine HC.out.mono ?_; rintro e w1 ⟨rfl, hM⟩; have HM := Lib.hid hM; clear hM)
    go_ret
    exact ⟨ret_int HE.out.symm, by rw [HD.out]; exact Mut.after HB.out HM.out⟩
  · have hE : doE m ⟨k, a, b⟩ = 0 := by
      unfold doE; dsimp only
      rw [if_neg (by omega), if_neg (by omega), if_neg (by omega)]
    have hD : doM m ⟨k, a, b⟩ = m := by
      unfold doM; dsimp only
      rw [if_neg (by omega), if_neg (by omega), if_neg (by omega)]
    have HE := Lib.hid hE
    have HD := Lib.hid hD
    have k0 : (k == 0) = false := by simp; omega
    have k1 : (k == 1) = false := by simp; omega
    have k2 : (k == 2) = false := by simp; omega
    clear h0 ha hE hD hk
    go_enter Tryd.func30, Tryd.ntmps30
    go_wp2_with fail
    go_ret
    exact ⟨ret_int HE.out.symm, by rw [HD.out]; exact Mut.after HB.out (Mut.same HS.out (Below.refl _ _))⟩
theorem do_at {O : Nat → Prop} {B : Nat} {m : Mo} {w : World} (x : Ac) (h : Hp w O B m) (hx : AcR x) :
    Calls Tryd.prog 30 #[.pointer (some ⟨B, 0, none⟩), .agg #[.int .i64 x.k, .int .i64 x.a, .int .i64 x.b]] w fun e w' => e = .returned (.int .i64 (doE m x)) ∧ Mut w O B (doM m x) w' := do_any x.k x.a x.b h hx.a

/-- The slice's cells hold the calls, in blocks below N. -/
def ActsAt (w : World) (N : Nat) (A : Option Addr) (l : List Ac) : Prop :=
  ∀ (k : Nat) (x : Ac), l[k]? = some x → AcR x ∧ ∃ b o : Nat, A = some ⟨b, o, none⟩ ∧ b < N ∧ w.cell? ⟨b, o + k * 3, none⟩ = some (.int .i64 x.k) ∧ w.cell? ⟨b, o + k * 3 + 1, none⟩ = some (.int .i64 x.a) ∧ w.cell? ⟨b, o + k * 3 + 2, none⟩ = some (.int .i64 x.b)
theorem ActsAt.below {w w' : World} {N : Nat} {A : Option Addr} {l : List Ac} (h : ActsAt w N A l) (hb : Below N w w') : ActsAt w' N A l := fun k x hk => by
  obtain ⟨hr, b, o, e, hB, h1, h2, h3⟩ := h k x hk
  exact ⟨hr, b, o, e, hB, (hb.cell (p := ⟨b, _, none⟩) hB).trans h1, (hb.cell (p := ⟨b, _, none⟩) hB).trans h2, (hb.cell (p := ⟨b, _, none⟩) hB).trans h3⟩
theorem ActsAt.more {w : World} {N N' : Nat} {A : Option Addr} {l : List Ac} (h : ActsAt w N A l) (hN : N ≤ N') : ActsAt w N' A l := fun k x hk => by
  obtain ⟨hr, b, o, e, hB, hh⟩ := h k x hk
  exact ⟨hr, b, o, e, Nat.lt_of_lt_of_le hB hN, hh⟩
theorem ActsAt.nil (w : World) (N : Nat) : ActsAt w N none [] := fun k x hk => by simp at hk

def runM (m : Mo) (l : List Ac) : Mo := l.foldl doM m
theorem take_snoc {l : List Ac} {k : Nat} {x : Ac} (h : l[k]? = some x) : l.take (k + 1) = l.take k ++ [x] := by
  rw [List.take_add_one, h]; rfl
theorem runM_take {m : Mo} {l : List Ac} {k : Nat} {x : Ac} (h : l[k]? = some x) : runM m (l.take (k + 1)) = doM (runM m (l.take k)) x := by
  unfold runM
  rw [take_snoc h, List.foldl_append]; rfl
theorem Hp.size {w : World} {O : Nat → Prop} {B : Nat} {m : Mo} (h : Hp w O B m) : 1 < w.heap.size := h.tb.lt

/-- What made leaves. -/
def MadePost (w : World) (m : Mo) (e : Ending) (w' : World) : Prop := ∃ B, e = .returned (.pointer (some ⟨B, 0, none⟩)) ∧ Below w.heap.size w w' ∧ Hp w' (Nw w w') B m

set_option maxRecDepth 100000 in
set_option maxHeartbeats 1000000 in
theorem made'_any (p : Int) (A : Option Addr) (c n : Nat) (l : List Ac) (w : World) (hp : p % 1024 + 1 = n) (hp0 : 0 ≤ p) (hp1 : p ≤ 65535) (hl : l.length ≤ 9223372036854775807) (hA : ActsAt w w.heap.size A l) (ht : Tab w) :
    Calls Tryd.prog 23 #[.int .u16 p, .slice A l.length c] w (MadePost w (runM (newM n) l)) := by
  have hn1 : 1 ≤ n := by omega
  have hn2 : n ≤ 1024 := by omega
  have HN := Lib.hid (New_any n w hn1 hn2 ht)
  obtain ⟨L, hL⟩ : ∃ L, L = l.length := ⟨_, rfl⟩
  have HL := Lib.hid hL
  rw [← hL] at hl ⊢
  have HA := Lib.hid hA
  have t1 : p.tmod 1024 = p % 1024 := Int.tmod_eq_emod_of_nonneg hp0
  have t2 : IntKind.i64.wrap (p % 1024) = p % 1024 := IntWalk.i64_in _ (by omega)
  have t3 : IntKind.i64.wrap (p % 1024 + 1) = (n : Int) := by rw [hp]; exact IntWalk.i64_in _ (by omega)
  have t4 : IntKind.i64.wrap p = p := IntWalk.i64_in _ (by omega)
  have h1w := ht.lt
  clear hA hL ht
  go_enter Tryd.func23, Tryd.ntmps23
  go_wp2_with (go_at_call 14; refine HN.out.mono ?_; rintro e w1 ⟨B, rfl, hb1, hs1⟩)
  have HB1 := Lib.hid hb1
  have HS1 := Lib.hid hs1
  clear hb1 hs1
  go_loopw [7] (fun i wr => ∃ k : Nat, k ≤ L ∧ i = .int .i64 k ∧ Mut w1 (Nw w w1) B (runM (newM n) (l.take k)) wr) (fun i _ => L - (intOf i).toNat)
  case atStart => exact ⟨0, by omega, rfl, Mut.same HS1.out (Below.refl _ _)⟩
  case round =>
    obtain ⟨k, hk, rfl, hM⟩ := hrel
    have HM := Lib.hid hM
    have hbl := hM.bel HB1.out (fun k hk => hk.1)
    by_cases hlt : k < L
    · obtain ⟨x, hx⟩ : ∃ x, l[k]? = some x := ⟨_, List.getElem?_eq_getElem (by have := HL.out; omega)⟩
      obtain ⟨hr, b, o, rfl, hB, g1, g2, g3⟩ := (HA.out.below hbl) k x hx
      have HD := Lib.hid (do_at x hM.1 hr)
      have HX := Lib.hid (runM_take (m := newM n) hx)
      clear hM hx hr hbl
      go_wp2_with (go_at_call 30; refine HD.out.mono ?_; rintro e w2 ⟨rfl, hM2⟩; have HM2 := Lib.hid hM2; clear hM2)
      go_roundw
      case rel => exact ⟨k + 1, by omega, by go_num, by rw [HX.out]; exact HM.out.trans HM2.out⟩
      case measure => simp [intOf]; omega
    · have hkL : k = l.length := by have := HL.out; omega
      have HKL := Lib.hid hkL
      have HBL := Lib.hid hbl
      clear hM hkL hbl
      go_wp2
      go_ret
      refine ⟨B, rfl, HBL.out, ?_⟩
      have h1 := HM.out.1
      rw [HKL.out, List.take_length] at h1
      have hsz := HM.out.2.size
      have hsz1 := HB1.out.size
      exact h1.mono (fun k hk => ⟨hk.1, Nat.lt_of_lt_of_le hk.2 hsz⟩) (fun k hk => hk.2) (fun k hk => by have := hk.1; omega)

end Go.Proofs.YtnmejilpifmlnaaDoor
