/- Package span: the iterator over the taken objects. -/
import Derived.Test.YtejfoefhaphacaaGreatLg
namespace Go.Proofs.YtejfoefhaphacaaGreat
open Go.RowKit Go.Shelf

attribute [local go_sem] Oper.semAt_some

set_option maxHeartbeats 400000 in
theorem takenObjects_any (v : Option Addr) (w : World) :
    Calls Tryz.prog 57 #[.pointer v] w fun e w' => e = .returned (.func (.func 89) #[] #[.pointer (some ⟨w.heap.size, 0, none⟩)]) ∧ w.alloc (.cells #[.pointer v] 63) = w' := by
  go_enter Tryz.func57, Tryz.ntmps57
  go_wp2
  go_ret
  exact ⟨rfl, rfl⟩

def enc1 : Nat → Array Value := fun x => #[.int .i64 x]

set_option maxRecDepth 100000 in
set_option maxHeartbeats 1000000 in
theorem it_in (n : Nat) (hn1 : 1 ≤ n) (l : Nat) {Zs : Nat → Prop} {O : Nat → Prop} {b1 B A c : Nat} {m : Mo} (zA : ¬ Zs A) (J Jx : List Nat → World → Prop)
    (hY : ∀ pre x W, x < m.n → J pre W → pre.length < 1024 → YieldAt Fence.wide (n - 1) Tryz.prog l (enc1 x) W fun e W' =>
      (e = .returned (.bool true) ∧ J (pre ++ [x]) W' ∧ KpC Zs W W') ∨ (e = .returned (.bool false) ∧ Jx (pre ++ [x]) W'))
    (W : World) (x1 : Boxed W b1 63 (.pointer (some ⟨B, 0, none⟩))) (hS : SpA false W O B A c m) (h0 : J [] W) :
    CallsIn Fence.wide n Tryz.prog 89 #[.func (.yield l) #[] #[], .pointer (some ⟨b1, 0, none⟩)] W fun e W' => (∃ v, e = .returned v) ∧
      (J (tkn m) W' ∨ (∃ pre, pre <+: tkn m ∧ Jx pre W')) := by
  have HY := Lib.hid hY
  have HXA := Lib.hid (fun (wr : World) (k : KpC Zs W wr) (i : Nat) (hi : i < m.n) => (hS.a.kp zA k).cell i hi)
  have HM := Lib.hid (made_any hS)
  have H0 := Lib.hid h0
  have c1 := x1.cell
  have c4 : W.cell? ⟨B, 4, none⟩ = some (.slice (some ⟨A, 0, none⟩) m.n c) := hS.cells.2.2.2.2
  have hn2 := hS.wf.n2
  clear hY zA h0 x1 hS
  unfold tkn
  generalize m.n = N at *
  refine callsIn_of_wp Tryz.func89 rfl trivial ?_ rfl
  simp only [Tryz.ntmps89, List.size_toArray, List.length_cons, List.length_nil, Nat.reduceAdd, Nat.reduceSub, Array.replicate_succ, Array.replicate_zero, List.push_toArray, List.append_toArray, List.nil_append, List.cons_append]
  gi_wp2_with (refine ⟨trivial, ?_⟩; gi_at_call 54; refine (callsIn_wide.2 HM.out).mono ?_; rintro e w1 ⟨rfl, rfl⟩)
  gi_loopw [13] (fun q wr => ∃ (k : Nat) (ys : List Nat), q = .int .i64 k ∧ k ≤ N ∧ ys ++ hl m.f k N = hl m.f 0 N ∧ KpC Zs W wr ∧ J ys wr) (fun q _ => N + 1 - (intOf q).toNat)
  case atStart => exact ⟨0, [], rfl, by omega, rfl, KpC.refl _ _, H0.out⟩
  case round =>
    obtain ⟨k, ys, rfl, hkf, hle, hK, hJs⟩ := hrel
    have HL := Lib.hid hle
    have HK := Lib.hid hK
    have HJ := Lib.hid hJs
    by_cases hlt : k < N
    · have c0 := HXA.out wr hK k hlt
      clear hle hK hJs c1 c4
      cases hV : m.f k with
      | false =>
        have hC := HL.out
        rw [hl_miss hlt hV] at hC
        have HC := Lib.hid hC
        rw [hV] at c0
        replace c0 : wr.cell? ⟨A, k, none⟩ = some (.int .u8 0) := c0
        clear hC hV
        gi_wp2
        refine ⟨(fun _ h => nomatch h), ?_⟩
        gi_wp2
        go_roundw
        case rel => exact ⟨k + 1, ys, by go_num, by omega, HC.out, HK.out, HJ.out⟩
        case measure => simp [intOf]; omega
      | true =>
        have hC := HL.out
        rw [hl_hit hlt hV] at hC
        have hC2 := hC
        rw [← List.singleton_append, ← List.append_assoc] at hC2
        have HC := Lib.hid hC2
        have hyl : ys.length < 1024 := by have := hl_len m.f 0 N; have h2 := congrArg List.length hC; simp at h2; omega
        obtain ⟨fn, tmps, assign, body, hy, hR⟩ := HY.out ys k wr hlt HJ.out hyl
        rw [hV] at c0
        replace c0 : wr.cell? ⟨A, k, none⟩ = some (.int .u8 1) := c0
        unfold enc1 at hy
        have hR2 := hR.mono (R' := fun e W' => ∃ c : Bool, e = .returned (.bool c) ∧ YBoth (J (ys ++ [k]) W' ∧ KpC Zs wr W') (Jx (ys ++ [k]) W') c) (fun e W' h => by
          rcases h with ⟨h1, h2⟩ | ⟨h1, h2⟩
          · exact ⟨true, h1, (fun _ => h2), (fun h => nomatch h)⟩
          · exact ⟨false, h1, (fun h => nomatch h), (fun _ => h2)⟩)
        have HR2 := Lib.hid hR2
        clear hR hC hC2 hV hR2 hyl
        gi_wp2
        refine HR2.out.mono ?_
        rintro e W3 ⟨b, rfl, hYB⟩
        have HYB := Lib.hid hYB
        clear hYB
        cases b with
        | false =>
          gi_wp2
          refine bodyPost_ret (results_none rfl _ _ _) rfl ?_
          exact ⟨⟨_, rfl⟩, .inr ⟨_, ⟨_, HC.out⟩, HYB.out.2 rfl⟩⟩
        | true =>
          gi_wp2
          go_roundw
          case rel => exact ⟨k + 1, ys ++ [k], by go_num, by omega, HC.out, HK.out.trans (HYB.out.1 rfl).2, (HYB.out.1 rfl).1⟩
          case measure => simp [intOf]; omega
    · have hC := hle
      rw [hl_end (by omega), List.append_nil] at hC
      subst hC
      clear hle hK hJs c1 c4
      gi_wp2
      go_end0
      exact ⟨⟨_, rfl⟩, .inl HJ.out⟩

theorem tk_seq {n : Nat} (hn1 : 1 ≤ n) {Zs : Nat → Prop} {O : Nat → Prop} {b1 B A c : Nat} {m : Mo} {w : World} (h : SpA false w O B A c m) (x1 : Boxed w b1 63 (.pointer (some ⟨B, 0, none⟩))) (zA : ¬ Zs A) :
    SeqO n 89 #[.pointer (some ⟨b1, 0, none⟩)] enc1 (fun x => x < m.n) Zs (tkn m) w := fun l J Jx W hW _ _ hY h0 =>
  it_in n hn1 l zA J Jx (fun pre x X hx hj hl => (hY pre x X hx hj hl).mono fun e W' hp => by
    rcases hp with ⟨q1, q2, q3, _⟩ | ⟨q1, q2, _⟩
    · exact .inl ⟨q1, q2, q3⟩
    · exact .inr ⟨q1, q2⟩) W ((hW.block _ x1.lt).trans x1) (h.below hW) h0

/-- The iterator over a span that nobody made. -/
theorem it_no (n : Nat) (hn1 : 1 ≤ n) (l : Nat) {O : Nat → Prop} {b1 : Nat} {v : Value} (J Jx : List Nat → World → Prop) (W : World) (x1 : Boxed W b1 63 v) (hS : NoS W O v) (h0 : J [] W) :
    CallsIn Fence.wide n Tryz.prog 89 #[.func (.yield l) #[] #[], .pointer (some ⟨b1, 0, none⟩)] W fun e W' => (∃ v, e = .returned v) ∧
      (J [] W' ∨ (∃ pre, pre <+: [] ∧ Jx pre W')) := by
  have HM := Lib.hid (made_no hS)
  have H0 := Lib.hid h0
  have c1 := x1.cell
  clear h0 x1 hS
  refine callsIn_of_wp Tryz.func89 rfl trivial ?_ rfl
  simp only [Tryz.ntmps89, List.size_toArray, List.length_cons, List.length_nil, Nat.reduceAdd, Nat.reduceSub, Array.replicate_succ, Array.replicate_zero, List.push_toArray, List.append_toArray, List.nil_append, List.cons_append]
  gi_wp2_with (refine ⟨trivial, ?_⟩; gi_at_call 54; refine (callsIn_wide.2 HM.out).mono ?_; rintro e w1 ⟨rfl, rfl⟩)
  refine bodyPost_ret (results_none rfl _ _ _) rfl ?_
  exact ⟨⟨_, rfl⟩, .inl H0.out⟩
theorem no_seq {n : Nat} (hn1 : 1 ≤ n) {Zs : Nat → Prop} {O : Nat → Prop} {b1 : Nat} {v : Value} {w : World} (h : NoS w O v) (hl : ∀ k, O k → k < w.heap.size) (x1 : Boxed w b1 63 v) (Pd : Nat → Prop) :
    SeqO n 89 #[.pointer (some ⟨b1, 0, none⟩)] enc1 Pd Zs [] w := fun l J Jx W hW _ _ _ h0 =>
  it_no n hn1 l J Jx W ((hW.block _ x1.lt).trans x1) (Ob.below (r := false) (om := none) ⟨h, hl⟩ hW).1 h0
/-- The numbers of the taken objects; none of a span that nobody made. -/
def tkO : Option Mo → List Nat
  | none => []
  | some m => tkn m
theorem ob_seq {n : Nat} (hn1 : 1 ≤ n) {Zs : Nat → Prop} {O : Nat → Prop} {b1 : Nat} {v : Value} {om : Option Mo} {w : World} (h : Ob false w O v om) (x1 : Boxed w b1 63 v) (zO : ∀ k, O k → ¬ Zs k) :
    SeqO n 89 #[.pointer (some ⟨b1, 0, none⟩)] enc1 (fun x => ∀ m, om = some m → x < m.n) Zs (tkO om) w := by
  cases om with
  | none => exact no_seq hn1 h.1 h.2 x1 _
  | some m =>
    obtain ⟨B, A, c, rfl, h⟩ := h
    have := tk_seq hn1 h x1 (zO _ h.oa)
    intro l J Jx W hW hJ hJx hY h0
    exact this l J Jx W hW hJ hJx (fun pre x X hx hj hl => hY pre x X (fun m' e => by cases e; exact hx) hj hl) h0

end Go.Proofs.YtejfoefhaphacaaGreat
