/- The statements' helper: the examples of the chapter hold. -/
import Derived.Test.YtnmejilpifmlnaaDoorFc
namespace Go.Proofs.YtnmejilpifmlnaaDoor
open Go.RowKit

def e0 : Mo := newM 16
def e1 : Mo := givD e0 0 16
def e2 : Mo := tkD e1 3 1
def e3 : Mo := tkD e2 2 4
def e4 : Mo := tkD e3 1 1
def e5 : Mo := givD e4 4 2
theorem ex1 : givE e0 0 16 = 0 := by decide +kernel
theorem ex2 : blV e1 4 = [0] := by decide +kernel
theorem ex3 : tkV e1 3 1 = 0 ∧ tkE e1 3 1 = 0 := by decide +kernel
theorem ex4 : blV e2 0 = [3] ∧ blV e2 2 = [4] ∧ blV e2 3 = [8] := by decide +kernel
theorem ex5 : tkV e2 2 4 = 4 ∧ tkE e2 2 4 = 0 := by decide +kernel
theorem ex6 : tkV e3 1 1 = 3 ∧ tkE e3 1 1 = 0 := by decide +kernel
theorem ex7 : givE e4 4 2 = 0 := by decide +kernel
theorem ex8 : givE e5 4 1 = 9 := by decide +kernel

/-- One heap that was made since w, and what was made since it was. -/
structure St (w : World) (N : Nat) (O : Nat → Prop) (B : Nat) (m : Mo) (W : World) : Prop where
  hp : Hp W O B m
  hn : N ≤ W.heap.size
  ho : ∀ k, N ≤ k → ¬ O k
  lo : ∀ k, O k → w.heap.size ≤ k
  bel : Below w.heap.size w W
section
variable {w W : World} {N : Nat} {O : Nat → Prop} {B : Nat} {m : Mo}
theorem St.mut {m' : Mo} {W' : World} (h : St w N O B m W) (hM : Mut W O B m' W') : St w N O B m' W' :=
  ⟨hM.1, Nat.le_trans h.hn hM.2.size, h.ho, h.lo, hM.bel h.bel h.lo⟩
theorem St.then {W' : World} (h : St w N O B m W) (hb : Below W.heap.size W W') : St w N O B m W' := h.mut (Mut.same h.hp hb)
theorem Give_st (h : St w N O B m W) (s k e : Int) (hs : InR s) (he : givE m s k = e) : Calls Tryd.prog 29 #[.pointer (some ⟨B, 0, none⟩), .int .i64 s, .int .i64 k] W fun x W' => x = .returned (.int .i64 e) ∧ St w N O B (givD m s k) W' ∧ Keep O W W' := by
  subst he
  exact (Give_any s k h.hp hs).mono fun x W' ⟨hx, hM⟩ => ⟨hx, h.mut hM, hM.2⟩
theorem Take_st (h : St w N O B m W) (p a v e : Int) (hv : tkV m p a = v) (he : tkE m p a = e) : Calls Tryd.prog 25 #[.pointer (some ⟨B, 0, none⟩), .int .i64 p, .int .i64 a] W fun x W' => x = .returned (.tuple #[.int .i64 v, .int .i64 e]) ∧ St w N O B (tkD m p a) W' ∧ Keep O W W' := by
  subst hv he
  exact (Take_any p a h.hp).mono fun x W' ⟨hx, hM⟩ => ⟨hx, h.mut hM, hM.2⟩
/-- A slice with one number, made since N. -/
structure One (N : Nat) (x : Nat) (A : Option Addr) (W : World) : Prop where
  at_ : NatsAt W N A [x]
theorem One.keep {x : Nat} {A : Option Addr} {W' : World} (h : One N x A W) (s : ∀ k, N ≤ k → ¬ O k) (hk : Keep O W W') : One N x A W' := ⟨h.at_.keep hk s⟩
theorem One.then {x : Nat} {A : Option Addr} {W' : World} (h : One N x A W) (hb : Below W.heap.size W W') : One N x A W' := h.keep (O := fun _ => False) (fun _ _ h => h) (Keep.of hb)
theorem NatsAt.less {N N' : Nat} {A : Option Addr} {l : List Nat} (h : NatsAt W N A l) (hN : N' ≤ N) : NatsAt W N' A l := fun i x hi => by
  obtain ⟨g, e, h1, h2⟩ := h i x hi
  exact ⟨g, e, Nat.le_trans hN h1, h2⟩
theorem Blocks_st (h : St w N O B m W) (k : Int) (x : Nat) (hk : InR k) (he : blV m k = [x]) : Calls Tryd.prog 22 #[.pointer (some ⟨B, 0, none⟩), .int .i64 k] W fun e W' => ∃ A c, e = .returned (.slice A 1 c) ∧ One N x A W' ∧ St w N O B m W' ∧ Below W.heap.size W W' := by
  have hc := Blocks_any k h.hp hk
  rw [he] at hc
  refine hc.mono fun e W' ⟨A, c, he, hn, hb⟩ => ⟨A, c, he, ⟨hn.less h.hn⟩, h.then hb, hb⟩
theorem new1 (W : World) (v : Value) (t : TypeId) : (W.alloc (.cells #[v] t)).cell? ⟨W.heap.size, 0, none⟩ = some v := by go_simp
theorem Ints_one {x : Nat} {A : Option Addr} {c g : Nat} (h : One N x A W) (hc : W.cell? ⟨g, 0, none⟩ = some (.int .i64 x)) : Calls Tryd.prog 31 #[.slice A 1 c, .slice (some ⟨g, 0, none⟩) 1 1] W fun e W' => e = .returned (.bool true) ∧ Below W.heap.size W W' :=
  Ints_any A (some ⟨g, 0, none⟩) c 1 [x] W (by simp) h.at_.rd fun i y hi => by
    have hi0 : i = 0 := by have := (List.getElem?_eq_some_iff.1 hi).1; simpa using this
    subst hi0
    obtain rfl : x = y := by simpa using hi
    exact ⟨g, rfl, hc⟩
end

set_option maxRecDepth 100000 in
set_option maxHeartbeats 2000000 in
theorem alive_any (w : World) (ht : Tab w) : Calls Tryd.prog 13 #[] w fun e w' => e = .returned (.bool true) ∧ Below w.heap.size w w' := by
  have h1w := ht.lt
  have HN := Lib.hid (New_any 16 w (by omega) (by omega) ht)
  clear ht
  go_enter Tryd.func13, Tryd.ntmps13
  go_wp2_with fail
  refine HN.out.mono ?_
  rintro e w1 ⟨B, rfl, hb1, hs1⟩
  have H1 := Lib.hid (show St w w1.heap.size (Nw w w1) B e0 w1 from ⟨hs1, Nat.le_refl _, fun k hk ho => by have := ho.2; omega, fun k hk => hk.1, hb1⟩)
  clear hs1 hb1 HN
  generalize w1.heap.size = N at H1
  generalize Nw w w1 = O at H1
  go_wp2_with fail
  refine (Give_st H1.out 0 16 0 ⟨by omega, by omega⟩ ex1).mono ?_
  rintro e w2 ⟨rfl, h, _⟩
  have H2 := Lib.hid (show St w N O B e1 w2 from h)
  clear h H1
  go_wp2_with fail
  refine (Blocks_st H2.out 4 0 ⟨by omega, by omega⟩ ex2).mono ?_
  rintro e w3 ⟨A1, c1, rfl, ho, h, _⟩
  have H3 := Lib.hid h
  have S1 := Lib.hid ho
  clear h ho H2
  go_wp2_with fail
  refine (Take_st H3.out 3 1 0 0 ex3.1 ex3.2).mono ?_
  rintro e w4 ⟨rfl, h, hk⟩
  have H4 := Lib.hid (show St w N O B e2 w4 from h)
  have S2 := Lib.hid (S1.out.keep H3.out.ho hk)
  clear h hk H3 S1
  go_wp2_with fail
  refine (Blocks_st H4.out 0 3 ⟨by omega, by omega⟩ ex4.1).mono ?_
  rintro e w5 ⟨A2, c2, rfl, ho, h, hb⟩
  have H5 := Lib.hid h
  have S3 := Lib.hid (And.intro (S2.out.then hb) ho)
  clear h ho hb H4 S2
  go_wp2_with fail
  refine (Blocks_st H5.out 2 4 ⟨by omega, by omega⟩ ex4.2.1).mono ?_
  rintro e w6 ⟨A3, c3, rfl, ho, h, hb⟩
  have H6 := Lib.hid h
  have S4 := Lib.hid (And.intro (S3.out.1.then hb) (And.intro (S3.out.2.then hb) ho))
  clear h ho hb H5 S3
  go_wp2_with fail
  refine (Blocks_st H6.out 3 8 ⟨by omega, by omega⟩ ex4.2.2).mono ?_
  rintro e w7 ⟨A4, c4, rfl, ho, h, hb⟩
  have H7 := Lib.hid h
  have S5 := Lib.hid (And.intro (S4.out.1.then hb) (And.intro (S4.out.2.1.then hb) (And.intro (S4.out.2.2.then hb) ho)))
  clear h ho hb H6 S4
  go_wp2_with fail
  refine (Take_st H7.out 2 4 4 0 ex5.1 ex5.2).mono ?_
  rintro e w8 ⟨rfl, h, hk⟩
  have H8 := Lib.hid (show St w N O B e3 w8 from h)
  have S6 := Lib.hid (And.intro (S5.out.1.keep H7.out.ho hk) (And.intro (S5.out.2.1.keep H7.out.ho hk) (And.intro (S5.out.2.2.1.keep H7.out.ho hk) (S5.out.2.2.2.keep H7.out.ho hk))))
  clear h hk H7 S5
  go_wp2_with fail
  refine (Take_st H8.out 1 1 3 0 ex6.1 ex6.2).mono ?_
  rintro e w9 ⟨rfl, h, hk⟩
  have H9 := Lib.hid (show St w N O B e4 w9 from h)
  have S7 := Lib.hid (And.intro (S6.out.1.keep H8.out.ho hk) (And.intro (S6.out.2.1.keep H8.out.ho hk) (And.intro (S6.out.2.2.1.keep H8.out.ho hk) (S6.out.2.2.2.keep H8.out.ho hk))))
  clear h hk H8 S6
  go_wp2_with fail
  refine (Give_st H9.out 4 2 0 ⟨by omega, by omega⟩ ex7).mono ?_
  rintro e v0 ⟨rfl, h, hk⟩
  have H10 := Lib.hid (show St w N O B e5 v0 from h)
  have S8 := Lib.hid (And.intro (S7.out.1.keep H9.out.ho hk) (And.intro (S7.out.2.1.keep H9.out.ho hk) (And.intro (S7.out.2.2.1.keep H9.out.ho hk) (S7.out.2.2.2.keep H9.out.ho hk))))
  clear h hk H9 S7
  go_wp2_with fail
  refine (Ints_one (S8.out.1.then (bnew _ _)) (new1 _ _ _)).mono ?_
  rintro e v1 ⟨rfl, hb⟩
  have hb' := btr (bnew v0 (.cells #[.int .i64 0] 3)) hb (Nat.le_refl _)
  have H11 := Lib.hid (H10.out.then hb')
  have S9 := Lib.hid (And.intro (S8.out.2.1.then hb') (And.intro (S8.out.2.2.1.then hb') (S8.out.2.2.2.then hb')))
  clear hb hb' H10 S8
  go_wp2_with fail
  refine (Ints_one (S9.out.1.then (bnew _ _)) (new1 _ _ _)).mono ?_
  rintro e v2 ⟨rfl, hb⟩
  have hb' := btr (bnew v1 (.cells #[.int .i64 3] 3)) hb (Nat.le_refl _)
  have H12 := Lib.hid (H11.out.then hb')
  have S10 := Lib.hid (And.intro (S9.out.2.1.then hb') (S9.out.2.2.then hb'))
  clear hb hb' H11 S9
  go_wp2_with fail
  refine (Ints_one (S10.out.1.then (bnew _ _)) (new1 _ _ _)).mono ?_
  rintro e v3 ⟨rfl, hb⟩
  have hb' := btr (bnew v2 (.cells #[.int .i64 4] 3)) hb (Nat.le_refl _)
  have H13 := Lib.hid (H12.out.then hb')
  have S11 := Lib.hid (S10.out.2.then hb')
  clear hb hb' H12 S10
  go_wp2_with fail
  refine (Ints_one (S11.out.then (bnew _ _)) (new1 _ _ _)).mono ?_
  rintro e v4 ⟨rfl, hb⟩
  have hb' := btr (bnew v3 (.cells #[.int .i64 8] 3)) hb (Nat.le_refl _)
  have H14 := Lib.hid (H13.out.then hb')
  clear hb hb' H13 S11
  go_wp2_with fail
  refine (Give_st H14.out 4 1 9 ⟨by omega, by omega⟩ ex8).mono ?_
  rintro e v5 ⟨rfl, h, _⟩
  have H15 := Lib.hid h
  clear h H14
  go_wp2_with fail
  go_ret
  exact ⟨rfl, H15.out.bel⟩

end Go.Proofs.YtnmejilpifmlnaaDoor
