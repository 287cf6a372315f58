/- The iterator of the starts of the free blocks of an order. -/
import Derived.Test.YtnmejilpifmlnaaDoorLf
import Derived.RangeFuncNested
import Derived.RangeFuncBound
import Derived.RangeFuncCalls
import Derived.RangeFuncLeaves
import Derived.Shelf.Abstract
import Derived.Shelf.RegionOpen
import Derived.WalkKit
import Derived.OwnWalkIn
import Derived.TacticsInMore
import Derived.LoopNIn
import Derived.LoopIn
import Derived.Sort.BigQuietIn
namespace Go.Proofs.YtnmejilpifmlnaaDoor
open Go.RowKit Go.Shelf

attribute [local go_sem] Oper.semAt_some

theorem bl_succ (F : Nat → Bool) (p k : Nat) : bl F (p + 1) k = bl F p k ++ (if Bk F k p then [p] else []) := by
  unfold bl
  rw [List.range_succ, List.filter_append]
  congr 1
  simp only [List.filter_cons, List.filter_nil, decide_eq_true_eq]
theorem bl_step {F : Nat → Bool} {p k : Nat} (hp : p % 2 ^ k = 0) : bl F (p + 2 ^ k) k = bl F p k ++ (if Bk F k p then [p] else []) := by
  have go : ∀ d, d < 2 ^ k → bl F (p + 1 + d) k = bl F (p + 1) k := by
    intro d
    induction d with
    | zero => intro _; rfl
    | succ d ih =>
      intro hd
      rw [show p + 1 + (d + 1) = (p + 1 + d) + 1 from by omega, bl_succ, ih (by omega), if_neg, List.append_nil]
      intro hb
      have := step_le hp hb.mod (show p < p + 1 + d by omega)
      omega
  have h0 := Nat.two_pow_pos k
  have := go (2 ^ k - 1) (by omega)
  rw [show p + 1 + (2 ^ k - 1) = p + 2 ^ k from by omega] at this
  rw [this, bl_succ]
theorem bl_zero (F : Nat → Bool) (k : Nat) : bl F 0 k = [] := rfl
theorem bl_pre {F : Nat → Bool} {k : Nat} : ∀ {p q : Nat}, p ≤ q → bl F p k <+: bl F q k := by
  intro p q h
  induction q with
  | zero => obtain rfl : p = 0 := by omega
            exact List.prefix_refl _
  | succ q ih =>
    by_cases e : p = q + 1
    · rw [e]; exact List.prefix_refl _
    · rw [bl_succ]
      exact (ih (by omega)).trans (List.prefix_append _ _)
theorem bl_past {F : Nat → Bool} {n k p : Nat} (hF : ∀ q, F q = true → q < n) (h : n ≤ p) : bl F p k = bl F n k := by
  induction p with
  | zero => obtain rfl : n = 0 := by omega
            rfl
  | succ p ih =>
    by_cases e : n = p + 1
    · rw [e]
    · rw [bl_succ, ih (by omega), if_neg, List.append_nil]
      intro hb
      have := hF _ (hb.at (Nat.le_refl _) (by have := Nat.two_pow_pos k; omega))
      omega

/-- What the iterator needs: the heap, and the boxes of what it captured. -/
structure ItIn (W : World) (O : Nat → Prop) (B : Nat) (m : Mo) (b1 b2 k : Nat) : Prop where
  hp : Hp W O B m
  x1 : Boxed W b1 25 (.pointer (some ⟨B, 0, none⟩))
  x2 : Boxed W b2 3 (.int .i64 k)
/-- What a round that goes on keeps. -/
def KpI (O : Nat → Prop) (B : Nat) (m : Mo) (b1 b2 k : Nat) (A W : World) : Prop := ItIn A O B m b1 b2 k → ItIn W O B m b1 b2 k
theorem kpI_t {O : Nat → Prop} {B : Nat} {m : Mo} {b1 b2 k : Nat} {A W C : World} (h : KpI O B m b1 b2 k A W) (g : KpI O B m b1 b2 k W C) : KpI O B m b1 b2 k A C := fun x => g (h x)
theorem grown_keep {A W : World} {l : Nat} (h : A.grownBy W (some l)) : Keep (fun x => x = l) A W := ⟨h.os, h.tape, h.output, h.size, fun i hi ho => h.block i hi (fun e => ho (Option.some.inj e).symm.symm)⟩
theorem kpI_b {O : Nat → Prop} {B : Nat} {m : Mo} {b1 b2 k : Nat} {w : World} (hO : ∀ x, O x → x < w.heap.size) (h1 : b1 < w.heap.size) (h2 : b2 < w.heap.size) (hw : 1 < w.heap.size) (W : World) (l : Nat) (o o' : Obj) (hl : w.heap.size ≤ l) (_ : W.heap[l]? = some o) (_ : o.isCells = false) (_ : o.isWalk = false) :
    KpI O B m b1 b2 k W (W.putObj l o') := fun x =>
  ⟨x.hp.keep (grown_keep (grownBy_putObj' W l o')) (fun i hi e => by have := hO i hi; omega) (fun e => by omega),
    x.x1.kept (grownBy_putObj' W l o') (fun e => by cases e; omega), x.x2.kept (grownBy_putObj' W l o') (fun e => by cases e; omega)⟩

theorem Boxed.drewN {W : World} {b t : Nat} {v : Value} (h : Boxed W b t v) (n : Nat) : Boxed (W.drewN n) b t v := h

def YBoth (a b : Prop) (c : Bool) : Prop := (c = true → a) ∧ (c = false → b)

set_option maxRecDepth 100000 in
set_option maxHeartbeats 1000000 in
theorem starts_in (n : Nat) (hn1 : 1 ≤ n) (l : Nat) {O : Nat → Prop} {B : Nat} {m : Mo} {b1 b2 k : Nat} (hk : k < ords m.n) (J Jx : List Nat → World → Prop) (hJ : ∀ (s : List Nat) (W W' : World), J s W → Below W.heap.size W W' → J s W')
    (hY : ∀ pre x W, Bk m.F k x → J pre W → pre.length < (bl m.F m.n k).length → YieldAt Fence.wide (n - 1) Tryd.prog l #[.int .i64 ((x : Nat) : Int)] W fun e W' =>
      (e = .returned (.bool true) ∧ J (pre ++ [x]) W' ∧ KpI O B m b1 b2 k W W') ∨ (e = .returned (.bool false) ∧ Jx (pre ++ [x]) W'))
    (W : World) (hI : ItIn W O B m b1 b2 k) (h0 : J [] W) :
    CallsIn Fence.wide n Tryd.prog 64 #[.func (.yield l) #[] #[], .pointer (some ⟨b1, 0, none⟩), .pointer (some ⟨b2, 0, none⟩)] W fun e W' => (∃ v, e = .returned v) ∧
      ((∃ ys, ys = bl m.F m.n k ∧ J ys W') ∨ (∃ pre, pre <+: bl m.F m.n k ∧ Jx pre W')) := by
  have hn2 := hI.hp.wf.n2
  have hKl := (hI.hp.wf.K).2.1
  have hk11 : k ≤ 11 := by omega
  have HWF := Lib.hid hI.hp.wf
  obtain ⟨N, hN⟩ : ∃ N, N = m.n := ⟨_, rfl⟩
  have HN := Lib.hid hN
  have HK := Lib.hid hk
  have hN2 : N ≤ 1024 := by omega
  obtain ⟨P, hP, p1, p2, e1, e2⟩ := two_pow hk11
  have HP := Lib.hid hP
  have HE1 := Lib.hid e1
  clear hn2 hKl hN hP hk e1
  refine callsIn_of_wp Tryd.func64 rfl trivial ?_ rfl
  simp only [Tryd.ntmps64, List.size_toArray, List.length_cons, List.length_nil, Nat.reduceAdd, Nat.reduceSub, Array.replicate_succ, Array.replicate_zero, List.push_toArray, List.append_toArray, List.nil_append, List.cons_append]
  have hx1 := hI.x1.cell
  have hx2 := hI.x2.cell
  gi_wp2
  gi_loopw [4] (fun p wr => ∃ s : Nat, p = .int .i64 s ∧ s % 2 ^ k = 0 ∧ s ≤ 4000 ∧ ItIn wr O B m b1 b2 k ∧ J (bl m.F s k) wr) (fun p _ => N - (intOf p).toNat)
  case atStart => exact ⟨0, rfl, Nat.zero_mod _, by omega, hI, h0⟩
  case round =>
    clear hx1 hx2
    obtain ⟨s, rfl, hs, hs4, hII, hJs⟩ := hrel
    have hx1 := hII.x1.cell
    have hx2 := hII.x2.cell
    obtain ⟨A, cap, mb, hA⟩ := hII.hp
    have HA := Lib.hid hA
    have c0 := hA.c0
    have c1 := hA.c1
    have a0 := hA.a0 HK.out
    have hcap := hA.cp
    have hask2 : ∀ n, (Instr.lookup 64 (.map (some (mb k))) (.int .i64 (s : Int)) false).run Tryd.prog (wr.drewN n) = .ok (.bool (decide (Bk m.F k s))) (wr.drewN n) := fun n => ask_nat ((hA.s k HK.out).drewN n) (by omega)
    have hi1 : (k : Int) < (ords m.n : Int) := by have := HK.out; omega
    rw [← HN.out] at c0
    have HII := Lib.hid hII
    have HJs := Lib.hid hJs
    have HS := Lib.hid hs
    clear hA hII hJs hs
    by_cases hlt : s < N
    · by_cases hb : Bk m.F k s
      · simp only [decide_eq_true hb] at hask2
        have HB := Lib.hid hb
        have hlen : (bl m.F s k).length < (bl m.F m.n k).length := by
          have h1 := bl_step (F := m.F) (k := k) HS.out
          rw [if_pos hb] at h1
          have h2 := (bl_pre (F := m.F) (k := k) (bk_le HWF.out.f hb)).length_le
          rw [h1, List.length_append] at h2
          simp at h2
          omega
        have HY := Lib.hid (fun (W : World) (h : J (bl m.F s k) W) => hY _ s W hb h hlen)
        have hst : bl m.F (s + P) k = bl m.F s k ++ [s] := by rw [HP.out, bl_step HS.out, if_pos hb]
        have HST := Lib.hid hst
        have HPRE := Lib.hid (show bl m.F s k ++ [s] <+: bl m.F m.n k by rw [← hst, HP.out]; exact bl_pre (bk_le HWF.out.f hb))
        have HMOD := Lib.hid (show (s + P) % 2 ^ k = 0 by rw [HP.out, Nat.add_mod_right]; exact HS.out)
        clear hb hlen hY hst
        obtain ⟨fn, tmps, assign, body, hy, hR⟩ := HY.out wr.drew (hJ _ _ _ HJs.out (belowN (Below.refl _ _) 1))
        have hask3 : (Instr.lookup 64 (.map (some (mb k))) (.int .i64 (s : Int)) false).run Tryd.prog wr.drew = .ok (.bool true) wr.drew := hask2 1
        clear hask2
        gi_wp2
        have hR2 := hR.mono (R' := fun e W' => ∃ c : Bool, e = .returned (.bool c) ∧ YBoth (J (bl m.F s k ++ [s]) W' ∧ KpI O B m b1 b2 k wr.drew W') (Jx (bl m.F s k ++ [s]) W') c) (fun e W' h => by
          rcases h with ⟨h1, h2⟩ | ⟨h1, h2⟩
          · exact ⟨true, h1, (fun _ => h2), (fun h => nomatch h)⟩
          · exact ⟨false, h1, (fun h => nomatch h), (fun _ => h2)⟩)
        clear hR
        gi_region_with (refine hR2.mono ?_; rintro e W3 ⟨c, rfl, hYB⟩)
        all_goals
          have HYB := Lib.hid hYB
          clear hYB hask3 hx1 hx2 c0 c1 a0
          cases c
          · gi_wp2
            refine bodyPost_ret (results_none rfl _ _ _) rfl ?_
            exact ⟨⟨_, rfl⟩, .inr ⟨_, HPRE.out, HYB.out.2 rfl⟩⟩
          · obtain ⟨hJ3, hk3⟩ := HYB.out.1 rfl
            have hI3 := hk3 ⟨HII.out.hp.below (belowN (Below.refl _ _) 1), HII.out.x1, HII.out.x2⟩
            have hx3 := hI3.x2.cell
            have HI3 := Lib.hid hI3
            have HJ3 := Lib.hid hJ3
            clear hJ3 hk3 hI3
            gi_wp2
            go_roundw
            case rel => exact ⟨s + P, by go_num, HMOD.out, by omega, HI3.out, by rw [HST.out]; exact HJ3.out⟩
            case measure => simp [intOf]; omega
      · simp only [decide_eq_false hb] at hask2
        have HB := Lib.hid hb
        clear hb
        gi_wp2
        refine wpIn_region_quiet_lit rfl (by kernel_rfl) (by kernel_rfl) ?_
        repeat (gi_big_quiet_step (fail))
        refine BigFrame.wpQuietIn_skip (fun _ _ _ _ => trivial) rfl ?_
        go_simp
        repeat (gi_big_quiet_step (fail))
        refine wpQuietIn_nil ?_
        intro nq
        have HST := Lib.hid (show bl m.F (s + P) k = bl m.F s k by rw [HP.out, bl_step HS.out, if_neg HB.out, List.append_nil])
        have HMOD := Lib.hid (show (s + P) % 2 ^ k = 0 by rw [HP.out, Nat.add_mod_right]; exact HS.out)
        have HI3 := Lib.hid (show ItIn (wr.drewN nq) O B m b1 b2 k from ⟨HII.out.hp.below (belowN (Below.refl _ _) nq), HII.out.x1, HII.out.x2⟩)
        have HJ3 := Lib.hid (hJ _ _ (wr.drewN nq) HJs.out (belowN (Below.refl _ _) nq))
        gi_wp2
        go_roundw
        case rel => exact ⟨s + P, by go_num, HMOD.out, by omega, HI3.out, by rw [HST.out]; exact HJ3.out⟩
        case measure => simp [intOf]; omega
    · gi_wp2
      go_end0
      refine ⟨⟨_, rfl⟩, .inl ⟨_, ?_, HJs.out⟩⟩
      exact bl_past HWF.out.f (by have := HN.out; omega)

end Go.Proofs.YtnmejilpifmlnaaDoor
