/- slices.Equal on marks; Same; the statements' helpers do and made. -/
import Derived.Test.YtdjfeibcbmelcaaFa
namespace Go.Proofs.Ytdjfeibcbmelcaa
open Go.RowKit

set_option maxRecDepth 100000 in
set_option maxHeartbeats 1000000 in
theorem eq42_any (A A' : Option Addr) (c c' N N' : Nat) (l k : List Mk) (w : World) (hl : l.length ≤ 2048) (hT : MksAt w N A l) (hT' : MksAt w N' A' k) :
    Calls Try.prog 42 #[.slice A l.length c, .slice A' k.length c'] w fun e w' => e = .returned (.bool (eqM l k)) ∧ Below w.heap.size w w' := by
  by_cases hlen : l.length = k.length
  · obtain ⟨n, hn⟩ : ∃ n : Nat, n = l.length := ⟨_, rfl⟩
    have HN := Lib.hid hn
    have HLK := Lib.hid hlen
    have HT := Lib.hid hT
    have HT' := Lib.hid hT'
    rw [← hlen, ← hn]
    rw [← hn] at hl
    clear hn hT hT' hlen
    go_enter Try.func42, Try.ntmps42
    go_wp2
    go_loopw [13] (fun i wr => ∃ j : Nat, j ≤ n ∧ i = .int .i64 j ∧ Below w.heap.size w wr ∧ l.take j = k.take j) (fun i _ => n - (intOf i).toNat)
    case atStart => exact ⟨0, by omega, rfl, Below.refl _ _, rfl⟩
    case round =>
      obtain ⟨j, hj, rfl, hB, htk⟩ := hrel
      have HB := Lib.hid hB
      have HTK := Lib.hid htk
      clear htk
      by_cases hlt : j < n
      · obtain ⟨x, hx⟩ : ∃ x, l[j]? = some x := ⟨_, List.getElem?_eq_getElem (by have := HN.out; omega)⟩
        obtain ⟨y, hy⟩ : ∃ y, k[j]? = some y := ⟨_, List.getElem?_eq_getElem (by have := HN.out; have := HLK.out; omega)⟩
        obtain ⟨g, rfl, _, _, g1, g2, g3⟩ := (HT.out.below hB) j x hx
        obtain ⟨g', rfl, _, _, f1, f2, f3⟩ := (HT'.out.below hB) j y hy
        by_cases he : x = y
        · subst he
          have HX := Lib.hid (show l.take (j + 1) = k.take (j + 1) by rw [List.take_add_one, List.take_add_one, hx, hy, HTK.out])
          have hneq := neq_same
          obtain ⟨xs, xn, xv⟩ := x
          dsimp only at g1 g2 g3 f1 f2 f3
          clear hx hy hB
          go_wp2_with fail
          go_quiet (fail)
          go_wp2_with fail
          go_roundw
          case rel => exact ⟨j + 1, by omega, by go_num, belowN HB.out _, HX.out⟩
          case measure => simp [intOf]; omega
        · have HX := Lib.hid (show eqM l k = false from eqM_false fun e => he (by rw [e, hy] at hx; exact (Option.some.inj hx).symm))
          obtain ⟨xs, xn, xv⟩ := x
          obtain ⟨ys, yn, yv⟩ := y
          have hneq := neq_diff xs xn xv ys yn yv (fun ⟨h1, h2, h3⟩ => he (by rw [show xs = ys by omega, show xn = yn by omega, h3]))
          dsimp only at g1 g2 g3 f1 f2 f3
          clear hx hy hB he
          go_wp2_with fail
          go_quiet (fail)
          go_wp2_with fail
          go_ret
          exact ⟨ret_bool HX.out.symm, belowN HB.out _⟩
      · have HX := Lib.hid (show eqM l k = true from eqM_iff.2 (by
          have := HTK.out
          rwa [List.take_of_length_le (by have := HN.out; omega), List.take_of_length_le (by have := HN.out; have := HLK.out; omega)] at this))
        clear hB
        go_wp2_with fail
        go_ret
        exact ⟨ret_bool HX.out.symm, HB.out⟩
  · have HX := Lib.hid (eqM_len hlen)
    generalize hla : l.length = a at hl hlen ⊢
    generalize hkb : k.length = b at hlen ⊢
    clear hT hT' hla hkb
    have q : ((a : Int) == (b : Int)) = false := by simp only [beq_eq_false_iff_ne]; omega
    have q' : ((a : Int) != (b : Int)) = true := by simp only [bne_iff_ne]; omega
    clear hlen
    go_enter Try.func42, Try.ntmps42
    go_wp2
    go_ret
    exact ⟨ret_bool HX.out.symm, Below.refl _ _⟩

theorem hl_lt {c : Nat → Bool} {k n : Nat} : ∀ p ∈ hl c k n, p < n := fun _ hp => (hl_mem.1 hp).1.2
theorem marks_len (M : Nat → Int) : (marksM M).length ≤ 1024 := by
  unfold marksM
  rw [List.length_reverse]
  exact Nat.le_trans (rkM_len M _) (Nat.le_trans (hl_len _ _ _) (by omega))

set_option maxHeartbeats 1000000 in
theorem Same_any {O1 O2 : Nat → Prop} {B1 B2 : Nat} {M1 M2 : Nat → Int} {w : World} (h1 : Tr w O1 B1 M1) (h2 : Tr w O2 B2 M2) :
    Calls Try.prog 25 #[.pointer (some ⟨B1, 0, none⟩), .pointer (some ⟨B2, 0, none⟩)] w fun e w' => e = .returned (.bool (eqM (marksM M1) (marksM M2))) ∧ Below w.heap.size w w' := by
  have HA := Lib.hid (Marks_any h1)
  have H2 := Lib.hid h2
  clear h1 h2
  go_enter Try.func25, Try.ntmps25
  go_wp2_with fail
  refine HA.out.mono ?_
  rintro e w1 ⟨A, c, rfl, hM1, hb1⟩
  have HB := Lib.hid (Marks_any (H2.out.below hb1))
  have HM1 := Lib.hid hM1
  have HB1 := Lib.hid hb1
  clear hM1 hb1
  go_wp2_with fail
  refine HB.out.mono ?_
  rintro e w2 ⟨A', c', rfl, hM2, hb2⟩
  have HC := Lib.hid (eq42_any A A' c c' _ _ _ _ w2 (Nat.le_trans (marks_len M1) (by omega)) (HM1.out.below hb2) hM2)
  have HB2 := Lib.hid hb2
  clear hM2 hb2
  go_wp2_with fail
  refine HC.out.mono ?_
  rintro e w3 ⟨rfl, hb3⟩
  have HB3 := Lib.hid hb3
  clear hb3
  go_wp2_with fail
  go_ret
  exact ⟨rfl, btr (btr HB1.out HB2.out (Nat.le_refl _)) HB3.out (Nat.le_refl _)⟩

structure AcR (x : Ac) : Prop where
  k : InR x.k
  a : InR x.a
  b : InR x.b
  c : InR x.c

theorem new4 (w : World) (a b c d : Value) (t : TypeId) : ∃ W0, w.alloc (.cells #[a, b, c, d] t) = W0 ∧ Below w.heap.size w W0 ∧ w.heap.size < W0.heap.size ∧
    W0.cell? ⟨w.heap.size, 0, none⟩ = some a ∧ W0.cell? ⟨w.heap.size, 1, none⟩ = some b ∧ W0.cell? ⟨w.heap.size, 2, none⟩ = some c ∧ W0.cell? ⟨w.heap.size, 3, none⟩ = some d := by
  refine ⟨_, rfl, bnew _ _, by simp, ?_, ?_, ?_, ?_⟩ <;> go_simp

set_option maxRecDepth 100000 in
set_option maxHeartbeats 1000000 in
theorem do_any {O : Nat → Prop} {B : Nat} {M : Nat → Int} {w : World} (k a b c : Int) (h : Tr w O B M) (ha : InR a) :
    Calls Try.prog 27 #[.pointer (some ⟨B, 0, none⟩), .agg #[.int .i64 k, .int .i64 a, .int .i64 b, .int .i64 c]] w fun e w' => e = .returned (.int .i64 (doE ⟨k, a, b, c⟩)) ∧ Mut w O B (doM M ⟨k, a, b, c⟩) w' := by
  obtain ⟨W0, hW, hb0, hz, c0, c1, c2, c3⟩ := new4 w (.int .i64 k) (.int .i64 a) (.int .i64 b) (.int .i64 c) 30
  have h0 := h.below hb0
  have HB := Lib.hid hb0
  clear h hb0
  have hk : k = 0 ∨ k = 1 ∨ ¬ (k = 0 ∨ k = 1) := by omega
  rcases hk with rfl | rfl | hk
  · have HC := Lib.hid (Set_any a b c h0 ha)
    have HE := Lib.hid (show doE ⟨0, a, b, c⟩ = setE a b c from rfl)
    have HD := Lib.hid (show doM M ⟨0, a, b, c⟩ = setD M a b c from rfl)
    clear h0 ha
    go_enter Try.func27, Try.ntmps27
    go_wp2_with (go_at_call 30; refine HC.out.mono ?_; rintro e w1 ⟨rfl, hM⟩; have HM := Lib.hid hM; clear hM)
    go_ret
    exact ⟨ret_int HE.out.symm, by rw [HD.out]; exact Mut.after HB.out HM.out⟩
  · have HC := Lib.hid (Clear_any a b h0 ha)
    have HE := Lib.hid (show doE ⟨1, a, b, c⟩ = clrE a b from rfl)
    have HD := Lib.hid (show doM M ⟨1, a, b, c⟩ = clrD M a b from rfl)
    clear h0 ha
    go_enter Try.func27, Try.ntmps27
    go_wp2_with (go_at_call 32; refine HC.out.mono ?_; rintro e w1 ⟨rfl, hM⟩; have HM := Lib.hid hM; clear hM)
    go_ret
    exact ⟨ret_int HE.out.symm, by rw [HD.out]; exact Mut.after HB.out HM.out⟩
  · have q0 : (k == 0) = false := by simp only [beq_eq_false_iff_ne]; omega
    have q1 : (k == 1) = false := by simp only [beq_eq_false_iff_ne]; omega
    have HE := Lib.hid (show doE ⟨k, a, b, c⟩ = 0 by unfold doE; rw [if_neg (by show ¬ k = 0; omega), if_neg (by show ¬ k = 1; omega)])
    have HD := Lib.hid (show doM M ⟨k, a, b, c⟩ = M by unfold doM; rw [if_neg (by show ¬ k = 0; omega), if_neg (by show ¬ k = 1; omega)])
    have HS := Lib.hid (Mut.same h0 (Below.refl _ _))
    clear h0 ha hk
    go_enter Try.func27, Try.ntmps27
    go_wp2
    go_ret
    exact ⟨ret_int HE.out.symm, by rw [HD.out]; exact Mut.after HB.out HS.out⟩
theorem do_at {O : Nat → Prop} {B : Nat} {M : Nat → Int} {w : World} (x : Ac) (h : Tr w O B M) (hr : AcR x) :
    Calls Try.prog 27 #[.pointer (some ⟨B, 0, none⟩), .agg #[.int .i64 x.k, .int .i64 x.a, .int .i64 x.b, .int .i64 x.c]] w fun e w' => e = .returned (.int .i64 (doE x)) ∧ Mut w O B (doM M x) w' := do_any x.k x.a x.b x.c h hr.a

/-- The slice's cells hold the calls, in blocks below N. -/
def ActsAt (w : World) (N : Nat) (A : Option Addr) (l : List Ac) : Prop :=
  ∀ (k : Nat) (x : Ac), l[k]? = some x → AcR x ∧ ∃ b o : Nat, A = some ⟨b, o, none⟩ ∧ b < N ∧ w.cell? ⟨b, o + k * 4, none⟩ = some (.int .i64 x.k) ∧ w.cell? ⟨b, o + k * 4 + 1, none⟩ = some (.int .i64 x.a) ∧ w.cell? ⟨b, o + k * 4 + 2, none⟩ = some (.int .i64 x.b) ∧ w.cell? ⟨b, o + k * 4 + 3, none⟩ = some (.int .i64 x.c)
theorem ActsAt.below {w w' : World} {N : Nat} {A : Option Addr} {l : List Ac} (h : ActsAt w N A l) (hb : Below N w w') : ActsAt w' N A l := fun k x hk => by
  obtain ⟨hr, b, o, e, hB, h1, h2, h3, h4⟩ := h k x hk
  exact ⟨hr, b, o, e, hB, (hb.cell (p := ⟨b, _, none⟩) hB).trans h1, (hb.cell (p := ⟨b, _, none⟩) hB).trans h2, (hb.cell (p := ⟨b, _, none⟩) hB).trans h3, (hb.cell (p := ⟨b, _, none⟩) hB).trans h4⟩
theorem ActsAt.more {w : World} {N N' : Nat} {A : Option Addr} {l : List Ac} (h : ActsAt w N A l) (hN : N ≤ N') : ActsAt w N' A l := fun k x hk => by
  obtain ⟨hr, b, o, e, hB, hh⟩ := h k x hk
  exact ⟨hr, b, o, e, Nat.lt_of_lt_of_le hB hN, hh⟩
def runM (M : Nat → Int) (l : List Ac) : Nat → Int := l.foldl doM M
theorem runM_wf {M : Nat → Int} (h : WM M) (l : List Ac) : WM (runM M l) := by
  induction l generalizing M with
  | nil => exact h
  | cons x l ih => exact ih (doM_wf h x)
theorem take_snoc {l : List Ac} {k : Nat} {x : Ac} (h : l[k]? = some x) : l.take (k + 1) = l.take k ++ [x] := by
  rw [List.take_add_one, h]; rfl
theorem runM_take {M : Nat → Int} {l : List Ac} {k : Nat} {x : Ac} (h : l[k]? = some x) : runM M (l.take (k + 1)) = doM (runM M (l.take k)) x := by
  unfold runM
  rw [take_snoc h, List.foldl_append]; rfl
/-- Behind what changes a map that was made since w, all that lay before is as it was. -/
theorem Mut.bel {w W W' : World} {O : Nat → Prop} {B : Nat} {M : Nat → Int} (h : Mut W O B M W') (hb : Below w.heap.size w W) (hO : ∀ k, O k → w.heap.size ≤ k) : Below w.heap.size w W' := hb.trans (h.2.below hb.size hO)

set_option maxRecDepth 100000 in
set_option maxHeartbeats 1000000 in
theorem made'_any (A : Option Addr) (c : Nat) (l : List Ac) (w : World) (hl : l.length ≤ 9223372036854775807) (hA : ActsAt w w.heap.size A l) :
    Calls Try.prog 28 #[.slice A l.length c] w fun e w' => ∃ B, e = .returned (.pointer (some ⟨B, 0, none⟩)) ∧ Below w.heap.size w w' ∧ Tr w' (Nw w w') B (runM noM l) := by
  have HN := Lib.hid (New_any w)
  obtain ⟨L, hL⟩ : ∃ L, L = l.length := ⟨_, rfl⟩
  have HL := Lib.hid hL
  rw [← hL] at hl ⊢
  have HA := Lib.hid hA
  clear hA hL
  go_enter Try.func28, Try.ntmps28
  go_wp2_with (go_at_call 14; refine HN.out.mono ?_; rintro e w1 ⟨B, rfl, hb1, hs1⟩)
  have HB1 := Lib.hid hb1
  have HS1 := Lib.hid hs1
  clear hb1 hs1
  go_loopw [4] (fun i wr => ∃ k : Nat, k ≤ L ∧ i = .int .i64 k ∧ Mut w1 (Nw w w1) B (runM noM (l.take k)) wr) (fun i _ => L - (intOf i).toNat)
  case atStart => exact ⟨0, by omega, rfl, Mut.same HS1.out (Below.refl _ _)⟩
  case round =>
    obtain ⟨k, hk, rfl, hM⟩ := hrel
    have HM := Lib.hid hM
    have hbl := hM.bel HB1.out (fun k hk => hk.1)
    by_cases hlt : k < L
    · obtain ⟨x, hx⟩ : ∃ x, l[k]? = some x := ⟨_, List.getElem?_eq_getElem (by have := HL.out; omega)⟩
      obtain ⟨hr, b, o, rfl, hB, g1, g2, g3, g4⟩ := (HA.out.below hbl) k x hx
      have HD := Lib.hid (do_at x hM.1 hr)
      have HX := Lib.hid (runM_take (M := noM) hx)
      clear hM hx hr hbl
      go_wp2_with (go_at_call 27; refine HD.out.mono ?_; rintro e w2 ⟨rfl, hM2⟩; have HM2 := Lib.hid hM2; clear hM2)
      go_roundw
      case rel => exact ⟨k + 1, by omega, by go_num, by rw [HX.out]; exact HM.out.trans HM2.out⟩
      case measure => simp [intOf]; omega
    · have hkL : k = l.length := by have := HL.out; omega
      have HKL := Lib.hid hkL
      have HBL := Lib.hid hbl
      clear hM hkL hbl
      go_wp2
      go_ret
      refine ⟨B, rfl, HBL.out, ?_⟩
      have h1 := HM.out.1
      rw [HKL.out, List.take_length] at h1
      refine h1.mono (fun k hk => ?_) (fun k hk => hk.2)
      have := HM.out.2.size
      have := HB1.out.size
      rcases hk with hk | hk
      · exact ⟨hk.1, Nat.lt_of_lt_of_le hk.2 (by omega)⟩
      · exact ⟨by omega, hk.2⟩

end Go.Proofs.Ytdjfeibcbmelcaa
