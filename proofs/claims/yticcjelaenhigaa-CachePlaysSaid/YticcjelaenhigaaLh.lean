/- The library's slices.Backward of numbers: its iterator. -/
import Derived.Test.YticcjelaenhigaaLg
namespace Go.Proofs.Yticcjelaenhigaa
open Go.RowKit Go.Shelf

attribute [local go_sem] Oper.semAt_some

set_option maxHeartbeats 400000 in
theorem slBackward_any (A : Option Addr) (n c : Nat) (w : World) : Calls Try.prog 72 #[.slice A n c] w fun e w' => e = .returned (.func (.func 78) #[] #[.pointer (some ⟨w.heap.size, 0, none⟩)]) ∧ w.alloc (.cells #[.slice A n c] 33) = w' := by
  go_enter Try.func72, Try.ntmps72
  go_wp2
  go_ret
  exact ⟨rfl, rfl⟩

def encB (z : List Int) : Nat → Array Value := fun x => #[.int .i64 (x : Int), .int .i64 (z.getD x 0)]
theorem rev_succ (j : Nat) : (List.range (j + 1)).reverse = j :: (List.range j).reverse := by rw [List.range_succ, List.reverse_append]; rfl
set_option maxRecDepth 100000 in
set_option maxHeartbeats 1000000 in
theorem bw_in (n : Nat) (hn1 : 1 ≤ n) (l : Nat) {Zs P : Nat → Prop} {b1 c N : Nat} {A : Option Addr} {z : List Int} (hN : z.length = N) (h300 : N ≤ 1000) (zb : ¬ Zs b1) (zP : ∀ g, P g → ¬ Zs g) (J Jx : List Nat → World → Prop)
    (hY : ∀ pre x W, x < N → J pre W → pre.length < N → YieldAt Fence.wide (n - 1) Try.prog l (encB z x) W fun e W' =>
      (e = .returned (.bool true) ∧ J (pre ++ [x]) W' ∧ KpC Zs W W') ∨ (e = .returned (.bool false) ∧ Jx (pre ++ [x]) W'))
    (W : World) (x1 : Boxed W b1 33 (.slice A N c)) (hA : IAt P W A z) (h0 : J [] W) :
    CallsIn Fence.wide n Try.prog 78 #[.func (.yield l) #[] #[], .pointer (some ⟨b1, 0, none⟩)] W fun e W' => (∃ v, e = .returned v) ∧
      (J (List.range N).reverse W' ∨ (∃ pre, pre <+: (List.range N).reverse ∧ Jx pre W')) := by
  have HY := Lib.hid hY
  have HXA := Lib.hid (fun (wr : World) (k : KpC Zs W wr) (i : Nat) (hi : i < N) => show ∃ g o : Nat, A = some ⟨g, o, none⟩ ∧ wr.cell? ⟨g, o + i, none⟩ = some (.int .i64 (z.getD i 0)) from by
    obtain ⟨g, o, e, h1, h2, h3, _⟩ := hA i (z.getD i 0) (by rw [List.getD_eq_getElem?_getD, List.getElem?_eq_getElem (by omega)]; rfl)
    obtain ⟨ob, hob, hoc⟩ := cells_of_cell h3
    have hnr : Nr W g := by
      cases ob with
      | cells cs t d => exact ⟨cs, t, d, hob⟩
      | _ => cases hoc
    exact ⟨g, o, e, (World.cell?_of_block (a := ⟨g, _, none⟩) (k.same g hnr (zP g h2))).trans h3⟩)
  have HX1 := Lib.hid (fun (wr : World) (k : KpC Zs W wr) => (bx_kp x1 zb k).cell)
  have H0 := Lib.hid h0
  have c1 := x1.cell
  have HL0 := Lib.hid (show (List.range N).reverse.length = N from by rw [List.length_reverse, List.length_range])
  obtain ⟨q1, q2⟩ := w64 ((N : Int) - 1) (by omega)
  clear hY h0 x1 hA hN
  refine callsIn_of_wp Try.func78 rfl trivial ?_ rfl
  simp only [Try.ntmps78, List.size_toArray, List.length_cons, List.length_nil, Nat.reduceAdd, Nat.reduceSub, Array.replicate_succ, Array.replicate_zero, List.push_toArray, List.append_toArray, List.nil_append, List.cons_append]
  gi_wp2
  gi_loopw [3] (fun v wr => ∃ (k : Nat) (q : Int) (ys : List Nat), v = .int .i64 q ∧ q = (k : Int) - 1 ∧ k ≤ N ∧ (List.range N).reverse = ys ++ (List.range k).reverse ∧ KpC Zs W wr ∧ J ys wr) (fun v _ => (intOf v + 1).toNat)
  case atStart => exact ⟨N, _, [], rfl, rfl, Nat.le_refl _, rfl, KpC.refl _ _, H0.out⟩
  case round =>
    clear q1 q2
    obtain ⟨k, q, ys, rfl, hq, hk, hle, hK, hJs⟩ := hrel
    have HL := Lib.hid hle
    have HK := Lib.hid hK
    have HJ := Lib.hid hJs
    cases k with
    | zero =>
      obtain rfl : q = -1 := by omega
      have e : ys = (List.range N).reverse := by rw [hle]; simp
      subst e
      clear hle hK hJs hq hk c1
      gi_wp2
      go_end0
      exact ⟨⟨_, rfl⟩, .inl HJ.out⟩
    | succ j =>
      obtain rfl : q = (j : Int) := by omega
      have hjN : j < N := hk
      obtain ⟨g, o, rfl, c0⟩ := HXA.out wr hK j hjN
      have c2 := HX1.out wr hK
      have hC : ys ++ [j] ++ (List.range j).reverse = (List.range N).reverse := by rw [hle, rev_succ]; simp
      have hyl : ys.length < N := by have := HL0.out; rw [hle] at this; simp at this; omega
      have HC := Lib.hid hC
      obtain ⟨fn, tmps, assign, body, hy, hR⟩ := HY.out ys j wr hjN HJ.out hyl
      unfold encB at hy
      have hR2 := hR.mono (R' := fun e W' => ∃ c : Bool, e = .returned (.bool c) ∧ YBoth (J (ys ++ [j]) W' ∧ KpC Zs wr W') (Jx (ys ++ [j]) W') c) (fun e W' h => by
        rcases h with ⟨h1, h2⟩ | ⟨h1, h2⟩
        · exact ⟨true, h1, (fun _ => h2), (fun h => nomatch h)⟩
        · exact ⟨false, h1, (fun h => nomatch h), (fun _ => h2)⟩)
      have HR2 := Lib.hid hR2
      obtain ⟨q1, q2⟩ := w64 ((j : Int) - 1) (by omega)
      generalize z.getD j 0 = zj at *
      clear hR hC hR2 hyl hle hK hJs hq hk c1
      gi_wp2
      refine HR2.out.mono ?_
      rintro e W3 ⟨b, rfl, hYB⟩
      have HYB := Lib.hid hYB
      clear hYB
      cases b with
      | false =>
        clear q1 q2
        gi_wp2
        refine bodyPost_ret (results_none rfl _ _ _) rfl ?_
        exact ⟨⟨_, rfl⟩, .inr ⟨_, ⟨_, HC.out⟩, HYB.out.2 rfl⟩⟩
      | true =>
        gi_wp2
        clear q1 q2
        go_roundw
        case rel => exact ⟨j, _, ys ++ [j], rfl, rfl, by omega, HC.out.symm, HK.out.trans (HYB.out.1 rfl).2, (HYB.out.1 rfl).1⟩
        case measure => simp [intOf]

theorem bw_seq {n : Nat} (hn1 : 1 ≤ n) {Zs P : Nat → Prop} {b1 c N : Nat} {A : Option Addr} {z : List Int} {w : World} (hN : z.length = N) (h300 : N ≤ 1000) (hA : IAt P w A z) (x1 : Boxed w b1 33 (.slice A N c)) (zb : ¬ Zs b1) (zP : ∀ g, P g → ¬ Zs g) :
    SeqO n 78 #[.pointer (some ⟨b1, 0, none⟩)] (encB z) (fun x => x < N) Zs (List.range N).reverse w := fun l J Jx W hW _ _ hY h0 =>
  bw_in n hn1 l hN h300 zb zP J Jx (fun pre x X hx hj hl => (hY pre x X hx hj (by rw [List.length_reverse, List.length_range]; exact hl)).mono fun e W' hp => by
    rcases hp with ⟨q1, q2, q3, _⟩ | ⟨q1, q2, _⟩
    · exact .inl ⟨q1, q2, q3⟩
    · exact .inr ⟨q1, q2⟩) W ((hW.block _ x1.lt).trans x1) (hA.below hW) h0
end Go.Proofs.Yticcjelaenhigaa
