/- The statements' helper: the examples of the chapter hold. -/
import Derived.Test.YtejjendklemebaaFb
namespace Go.Proofs.Ytejjendklemebaa
open Go.RowKit

def e1 : Mo := mapD (newM 4) 1 2
def e2 : Mo := fillD e1 256 1 7
def e3 : Mo := loseD e2 1 1 1
theorem ex1 : mapE (newM 4) 1 2 = 0 := by decide +kernel
theorem ex2 : rdV e1 256 = 0 ∧ rdE e1 256 = 0 := by decide +kernel
theorem ex3 : chkE e1 1 256 = 0 := by decide +kernel
theorem ex4 : rdV e2 256 = 7 ∧ rdE e2 256 = 0 := by decide +kernel
theorem ex5 : e2.dir = 1 ∧ stV e2 2 = 1 := by decide +kernel
theorem ex6 : loseE e2 1 1 = 0 := by decide +kernel
theorem ex7 : rdV e3 256 = 0 ∧ rdE e3 256 = 0 ∧ rdV e3 257 = 0 ∧ rdE e3 257 = 7 := by decide +kernel
theorem ex8 : e3.dir = 0 ∧ e3.pk = 1 := by decide +kernel
theorem ex9 : mapE e3 2 1 = 5 := by decide +kernel
theorem ex10 : loseE (mapD e3 2 1) 0 2 = 7 := by decide +kernel

/-- One space that was made since w. -/
structure St (w : World) (B : Nat) (m : Mo) (W : World) : Prop where
  sp : ∃ O, Sp W O B m ∧ ∀ k, O k → w.heap.size ≤ k
  bel : Below w.heap.size w W
theorem St.mut {w W W' : World} {B : Nat} {m : Mo} (hb : Below w.heap.size w W) {O : Nat → Prop} (hl : ∀ k, O k → w.heap.size ≤ k) (h : Mut W O B m W') : St w B m W' :=
  ⟨⟨_, h.1, fun k hk => by rcases hk with hk | hk; exact hl k hk; exact Nat.le_trans hb.size hk.1⟩, h.bel hb hl⟩
theorem St.then {w W W' : World} {B : Nat} {m : Mo} (h : St w B m W) (hb : Below W.heap.size W W') : St w B m W' := by
  obtain ⟨O, hO, hl⟩ := h.sp
  exact ⟨⟨O, hO.below hb, hl⟩, btr h.bel hb (Nat.le_refl _)⟩

section
variable {w W : World} {B : Nat} {m : Mo}
theorem Map_st (h : St w B m W) (s k e : Int) (hs : InR s) (he : mapE m s k = e) : Calls Try.prog 34 #[.pointer (some ⟨B, 0, none⟩), .int .i64 s, .int .i64 k] W fun x W' => x = .returned (.int .i64 e) ∧ St w B (mapD m s k) W' := by
  obtain ⟨O, hO, hl⟩ := h.sp
  subst he
  exact (Map_any s k hO hs).mono fun x W' ⟨hx, hM⟩ => ⟨hx, St.mut h.bel hl hM⟩
theorem Unmap_st (h : St w B m W) (s k e : Int) (hs : InR s) (he : loseE m s k = e) : Calls Try.prog 33 #[.pointer (some ⟨B, 0, none⟩), .int .i64 s, .int .i64 k] W fun x W' => x = .returned (.int .i64 e) ∧ St w B (loseD m s k 0) W' := by
  obtain ⟨O, hO, hl⟩ := h.sp
  subst he
  exact (Unmap_any s k hO hs).mono fun x W' ⟨hx, hM⟩ => ⟨hx, St.mut h.bel hl hM⟩
theorem Release_st (h : St w B m W) (s k e : Int) (hs : InR s) (he : loseE m s k = e) : Calls Try.prog 35 #[.pointer (some ⟨B, 0, none⟩), .int .i64 s, .int .i64 k] W fun x W' => x = .returned (.int .i64 e) ∧ St w B (loseD m s k 1) W' := by
  obtain ⟨O, hO, hl⟩ := h.sp
  subst he
  exact (Release_any s k hO hs).mono fun x W' ⟨hx, hM⟩ => ⟨hx, St.mut h.bel hl hM⟩
theorem Write_st (h : St w B m W) (a v e : Int) (hs : InR a) (he : chkE m 1 a = e) : Calls Try.prog 22 #[.pointer (some ⟨B, 0, none⟩), .int .i64 a, .int .i64 v] W fun x W' => x = .returned (.int .i64 e) ∧ St w B (fillD m a 1 v) W' := by
  obtain ⟨O, hO, hl⟩ := h.sp
  subst he
  exact (Write_any a v hO hs).mono fun x W' ⟨hx, hM⟩ => ⟨hx, St.mut h.bel hl hM⟩
theorem Read_st (h : St w B m W) (a v e : Int) (hs : InR a) (hv : rdV m a = v) (he : rdE m a = e) : Calls Try.prog 23 #[.pointer (some ⟨B, 0, none⟩), .int .i64 a] W fun x W' => x = .returned (.tuple #[.int .i64 v, .int .i64 e]) ∧ St w B m W' := by
  obtain ⟨O, hO, hl⟩ := h.sp
  subst hv he
  exact (Read_any a hO hs).mono fun x W' ⟨hx, hb⟩ => ⟨hx, h.then hb⟩
theorem State_st (h : St w B m W) (p v : Int) (hs : InR p) (hv : stV m p = v) : Calls Try.prog 19 #[.pointer (some ⟨B, 0, none⟩), .int .i64 p] W fun x W' => x = .returned (.int .i64 v) ∧ St w B m W' := by
  obtain ⟨O, hO, hl⟩ := h.sp
  subst hv
  exact (State_any p hO hs).mono fun x W' ⟨hx, hb⟩ => ⟨hx, h.then hb⟩
theorem Dirty_st (h : St w B m W) (v : Int) (hv : (m.dir : Int) = v) : Calls Try.prog 28 #[.pointer (some ⟨B, 0, none⟩)] W fun x W' => x = .returned (.int .i64 v) ∧ W = W' := by
  obtain ⟨O, hO, hl⟩ := h.sp
  subst hv
  exact Dirty_any hO
theorem Peak_st (h : St w B m W) (v : Int) (hv : (m.pk : Int) = v) : Calls Try.prog 29 #[.pointer (some ⟨B, 0, none⟩)] W fun x W' => x = .returned (.int .i64 v) ∧ W = W' := by
  obtain ⟨O, hO, hl⟩ := h.sp
  subst hv
  exact Peak_any hO
end

theorem inR_lit {x : Int} (h : -9223372036854775808 ≤ x ∧ x ≤ 9223372036854775807) : InR x := h

set_option maxRecDepth 100000 in
set_option maxHeartbeats 1000000 in
theorem alive_any (w : World) : Calls Try.prog 13 #[] w fun e w' => e = .returned (.bool true) ∧ Below w.heap.size w w' := by
  go_enter Try.func13, Try.ntmps13
  go_wp2_with fail
  refine (New_any 4 w (by omega) (by omega)).mono ?_
  rintro e w1 ⟨B, rfl, hb1, hs1⟩
  have h1 : St w B (newM 4) w1 := ⟨⟨_, hs1, fun k hk => hk.1⟩, hb1⟩
  clear hs1 hb1
  have H1 := Lib.hid h1
  clear h1
  go_wp2_with fail
  refine (Map_st H1.out 1 2 0 ⟨by omega, by omega⟩ ex1).mono ?_
  rintro e w2 ⟨rfl, h⟩
  have H2 := Lib.hid h
  clear h H1
  go_wp2_with fail
  refine (Read_st H2.out 256 0 0 ⟨by omega, by omega⟩ ex2.1 ex2.2).mono ?_
  rintro e w3 ⟨rfl, h⟩
  have H3 := Lib.hid h
  clear h H2
  go_wp2_with fail
  refine (Write_st H3.out 256 7 0 ⟨by omega, by omega⟩ ex3).mono ?_
  rintro e w4 ⟨rfl, h⟩
  have H4 := Lib.hid h
  clear h H3
  go_wp2_with fail
  refine (Read_st H4.out 256 7 0 ⟨by omega, by omega⟩ ex4.1 ex4.2).mono ?_
  rintro e w5 ⟨rfl, h⟩
  have H5 := Lib.hid h
  clear h H4
  go_wp2_with fail
  refine (Dirty_st H5.out 1 (congrArg Int.ofNat ex5.1)).mono ?_
  rintro e _ ⟨rfl, rfl⟩
  go_wp2_with fail
  refine (State_st H5.out 2 1 ⟨by omega, by omega⟩ ex5.2).mono ?_
  rintro e w6 ⟨rfl, h⟩
  have H6 := Lib.hid h
  clear h H5
  go_wp2_with fail
  refine (Release_st H6.out 1 1 0 ⟨by omega, by omega⟩ ex6).mono ?_
  rintro e w7 ⟨rfl, h⟩
  have H7 := Lib.hid h
  clear h H6
  go_wp2_with fail
  refine (Read_st H7.out 256 0 0 ⟨by omega, by omega⟩ ex7.1 ex7.2.1).mono ?_
  rintro e w8 ⟨rfl, h⟩
  have H8 := Lib.hid h
  clear h H7
  go_wp2_with fail
  refine (Read_st H8.out 257 0 7 ⟨by omega, by omega⟩ ex7.2.2.1 ex7.2.2.2).mono ?_
  rintro e w9 ⟨rfl, h⟩
  have H9 := Lib.hid h
  clear h H8
  go_wp2_with fail
  refine (Dirty_st H9.out 0 (congrArg Int.ofNat ex8.1)).mono ?_
  rintro e _ ⟨rfl, rfl⟩
  go_wp2_with fail
  refine (Peak_st H9.out 1 (congrArg Int.ofNat ex8.2)).mono ?_
  rintro e _ ⟨rfl, rfl⟩
  go_wp2_with fail
  refine (Map_st H9.out 2 1 5 ⟨by omega, by omega⟩ ex9).mono ?_
  rintro e w10 ⟨rfl, h⟩
  have H10 := Lib.hid h
  clear h H9
  go_wp2_with fail
  refine (Unmap_st H10.out 0 2 7 ⟨by omega, by omega⟩ ex10).mono ?_
  rintro e w11 ⟨rfl, h⟩
  have H11 := Lib.hid h
  clear h H10
  go_wp2_with fail
  go_ret
  exact ⟨rfl, H11.out.bel⟩

end Go.Proofs.Ytejjendklemebaa
