/- Package huge: the iterator of the runs of backed pages of a huge page. -/
import Derived.Test.YtecfjibmpbgllaaLh
import Derived.Test.YtecfjibmpbgllaaMe
import Derived.RangeFuncNested
import Derived.RangeFuncBound
import Derived.RangeFuncCalls
import Derived.RangeFuncLeaves
import Derived.Shelf.Abstract
import Derived.Shelf.RegionOpen
import Derived.OwnWalkIn
import Derived.TacticsInMore
import Derived.LoopNIn
import Derived.LoopIn
import Derived.Sort.BigQuietIn
import Derived.WalkSmall
namespace Go.Proofs.Ytecfjibmpbgllaa
open Go.RowKit Go.Shelf

attribute [local go_sem] Oper.semAt_some

theorem grown_of {w w' : World} (h : Below w.heap.size w w') (row : Option Nat) : w.grownBy w' row := ⟨h.os, h.tape, h.output, h.size, fun k hk _ => h.block k hk⟩

set_option maxHeartbeats 400000 in
theorem backedRuns_any (B : Nat) (g : Nat) (w : World) :
    Calls Try.prog 60 #[.pointer (some ⟨B, 0, none⟩), .int .i64 g] w fun e w' => e = .returned (.func (.func 78) #[] #[.pointer (some ⟨w.heap.size + 1, 0, none⟩), .pointer (some ⟨w.heap.size, 0, none⟩)]) ∧
      (w.alloc (.cells #[.pointer (some ⟨B, 0, none⟩)] 25)).alloc (.cells #[.int .i64 g] 3) = w' := by
  go_enter Try.func60, Try.ntmps60
  go_wp2
  go_ret
  exact ⟨rfl, rfl⟩

/-- What the iterator needs: the tracker, and the boxes of what it captured. -/
structure ItIn (W : World) (O : Nat → Prop) (B A cap : Nat) (m : Mo) (b1 b2 g : Nat) : Prop where
  tk : TkA W O B A cap m
  x1 : Boxed W b1 3 (.int .i64 g)
  x2 : Boxed W b2 25 (.pointer (some ⟨B, 0, none⟩))
/-- What a round that goes on keeps. -/
def KpI (O : Nat → Prop) (B A cap : Nat) (m : Mo) (b1 b2 g : Nat) (X W : World) : Prop := ItIn X O B A cap m b1 b2 g → ItIn W O B A cap m b1 b2 g
section
variable {O : Nat → Prop} {B A cap : Nat} {m : Mo} {b1 b2 k : Nat}
theorem kpI_t {X W C : World} (h : KpI O B A cap m b1 b2 k X W) (g : KpI O B A cap m b1 b2 k W C) : KpI O B A cap m b1 b2 k X C := fun x => g (h x)
theorem grown_keep {X W : World} {l : Nat} (h : X.grownBy W (some l)) : Keep (fun x => x = l) X W := ⟨h.os, h.tape, h.output, h.size, fun i hi ho => h.block i hi (fun e => ho (Option.some.inj e).symm.symm)⟩
theorem kpI_b {w : World} (hO : ∀ x, O x → x < w.heap.size) (h1 : b1 < w.heap.size) (h2 : b2 < w.heap.size) (W : World) (l : Nat) (o o' : Obj) (hl : w.heap.size ≤ l) (_ : W.heap[l]? = some o) (_ : o.isCells = false) (_ : o.isWalk = false) :
    KpI O B A cap m b1 b2 k W (W.putObj l o') := fun x =>
  ⟨x.tk.keep (grown_keep (grownBy_putObj' W l o')) (fun i hi e => by have := hO i hi; omega),
    x.x1.kept (grownBy_putObj' W l o') (fun e => by cases e; omega), x.x2.kept (grownBy_putObj' W l o') (fun e => by cases e; omega)⟩
theorem ItIn.belowN {W W' : World} {N : Nat} (h : ItIn W O B A cap m b1 b2 k) (hb : Below N W W') (hO : ∀ x, O x → x < N) (h1 : b1 < N) (h2 : b2 < N) : ItIn W' O B A cap m b1 b2 k := by
  have hk : Keep (fun x => N ≤ x) W W' := ⟨hb.os, hb.tape, hb.output, hb.size, fun i _ ho => hb.block i (by omega)⟩
  exact ⟨h.tk.keep hk (fun x hx hy => by have := hO x hx; omega), (hb.block b1 h1).trans h.x1, (hb.block b2 h2).trans h.x2⟩
theorem ItIn.below {W W' : World} (h : ItIn W O B A cap m b1 b2 k) (hb : Below W.heap.size W W') : ItIn W' O B A cap m b1 b2 k :=
  h.belowN hb h.tk.lt h.x1.lt h.x2.lt
end

def encR : Nat × Nat → Array Value := fun r => #[.agg #[.int .i64 (r.1 : Int), .int .i64 (r.2 : Int)]]
def YBoth (a b : Prop) (c : Bool) : Prop := (c = true → a) ∧ (c = false → b)

set_option maxRecDepth 100000 in
set_option maxHeartbeats 1000000 in
theorem runs_in (n : Nat) (l : Nat) {O : Nat → Prop} {B A cap : Nat} {m : Mo} {b1 b2 g : Nat} (hg : g < m.h) (J Jx : List (Nat × Nat) → World → Prop) (hJ : ∀ (s : List (Nat × Nat)) (W W' : World), J s W → Below W.heap.size W W' → J s W')
    (hY : ∀ pre x W, x.2 ≤ 16 → J pre W → pre.length < 17 → YieldAt Fence.wide (n - 1) Try.prog l (encR x) W fun e W' =>
      (e = .returned (.bool true) ∧ J (pre ++ [x]) W' ∧ KpI O B A cap m b1 b2 g W W') ∨ (e = .returned (.bool false) ∧ Jx (pre ++ [x]) W'))
    (W : World) (hI : ItIn W O B A cap m b1 b2 g) (h0 : J [] W) :
    CallsIn Fence.wide n Try.prog 78 #[.func (.yield l) #[] #[], .pointer (some ⟨b1, 0, none⟩), .pointer (some ⟨b2, 0, none⟩)] W fun e W' => (∃ v, e = .returned v) ∧
      ((∃ ys, ys = rs m.S (16 * g) 16 0 ∧ J ys W') ∨ (∃ pre, pre <+: rs m.S (16 * g) 16 0 ∧ Jx pre W')) := by
  have h2 := hI.tk.wf.h2
  have hcp := hI.tk.cp
  have HG := Lib.hid hg
  have hg64 : g < 64 := by omega
  have HO := Lib.hid (fun k => of_any g (hI.tk.below (belowN (Below.refl _ _) k)) hg)
  have HH := Lib.hid h2
  obtain ⟨S, hS⟩ : ∃ S, S = m.S := ⟨_, rfl⟩
  rw [← hS]
  have HS := Lib.hid hS
  generalize hcg : cap - 16 * g = cg at HO
  have hcg16 : 16 ≤ cg := by omega
  clear h2 hg hcp hcg hS
  refine callsIn_of_wp Try.func78 rfl trivial ?_ rfl
  simp only [Try.ntmps78, List.size_toArray, List.length_cons, List.length_nil, Nat.reduceAdd, Nat.reduceSub, Array.replicate_succ, Array.replicate_zero, List.push_toArray, List.append_toArray, List.nil_append, List.cons_append]
  have hx1 := hI.x1.cell
  have hx2 := hI.x2.cell
  gi_wp2
  refine wpIn_region_quiet_lit rfl (by kernel_rfl) (by kernel_rfl) ?_
  gi_big_quiet_step (fail)
  gi_big_quiet_step (fail)
  gi_big_quiet_step (fail)
  gi_big_quiet_step (fail)
  refine BigFrame.wpQuietIn_want (fun _ _ _ _ => trivial) rfl ?_
  intro K hK
  gi_big_quiet_op
  gi_big_quiet_call (exact ⟨(fun h => nomatch h), CallsIn.quiet_of_same (callsIn_wide.2 ((HO.out _).mono fun _ _ ⟨h1, h2⟩ => ⟨h1, h2.symm⟩))⟩)
  gi_big_quiet_step (fail)
  gi_big_quiet_step (fail)
  refine wpQuietIn_nil ?_
  intro _ hw'
  obtain ⟨nq, hw''⟩ := hw'
  subst hw''
  have hI1 : ItIn (W.drewN nq) O B A cap m b1 b2 g := hI.below (belowN (Below.refl _ _) nq)
  have hJ1 : J [] (W.drewN nq) := hJ _ _ _ h0 (belowN (Below.refl _ _) nq)
  have HI1 := Lib.hid hI1
  have HJ1 := Lib.hid hJ1
  clear hI1 hJ1 hx1 hx2 hI h0
  gi_wp2
  gi_loopw [6] (fun q wr => ∃ (k : Nat) (ys : List (Nat × Nat)), q = .int .i64 k ∧ k ≤ 17 ∧ ys.length ≤ k ∧ ys ++ rs S (16 * g + k) (16 - k) 0 = rs S (16 * g) 16 0 ∧ ItIn wr O B A cap m b1 b2 g ∧ J ys wr) (fun q _ => 18 - (intOf q).toNat)
  case atStart => exact ⟨0, [], rfl, by omega, by simp, rfl, HI1.out, HJ1.out⟩
  case round =>
    obtain ⟨k, ys, rfl, hk, hyl, hys, hII, hJs⟩ := hrel
    have HII := Lib.hid hII
    have HJs := Lib.hid hJs
    have HYS := Lib.hid hys
    clear hys hJs
    by_cases hlt : k < 16
    · clear hII
      gi_wp2
      rw [show decide ((k : Int) < 16) = true from decide_eq_true (by omega)]
      gi_loopw [7] (fun e w2 => ∃ t : Nat, e = .int .i64 t ∧ k ≤ t ∧ t ≤ 16 ∧ ItIn w2 O B A cap m b1 b2 g ∧ J ys w2 ∧ ∀ j, j < t - k → S (16 * g + k + j) = 2) (fun e _ => 16 - (intOf e).toNat)
      case atStart => exact ⟨k, rfl, Nat.le_refl _, by omega, HII.out, HJs.out, fun j hj => by omega⟩
      case round =>
        obtain ⟨t, rfl, hkt, ht16, hI3, hJ3, hon⟩ := hrel
        clear HII HJs
        have HII := Lib.hid hI3
        have HJs := Lib.hid hJ3
        clear hI3 hJ3
        have HON := Lib.hid hon
        clear hon
        have hx16 : t < 16 → wr.cell? ⟨A, 16 * g + t, none⟩ = some (.int .u8 (S (16 * g + t))) := fun h => by rw [HS.out]; exact HII.out.tk.at (by have := HG.out; omega)
        have fin : (t < 16 → S (16 * g + t) ≠ 2) → rs S (16 * g + k) (16 - k) 0 = (if t - k = 0 then [] else [(16 * g + k, t - k)]) ++ rs S (16 * g + (t + 1)) (16 - (t + 1)) 0 := fun h => by
          have := rs_step (S := S) (p := 16 * g + k) (n := 16 - k) (k := t - k) (by omega) (by omega) HON.out (fun hh => by rw [show 16 * g + k + (t - k) = 16 * g + t from by omega]; exact h (by omega))
          rw [show 16 * g + k + (t - k + 1) = 16 * g + (t + 1) from by omega, show 16 - k - (t - k + 1) = 16 - (t + 1) from by omega] at this
          exact this
        have HFIN := Lib.hid fin
        clear fin
        by_cases hgo : t < 16 ∧ S (16 * g + t) = 2
        · have c0 := hx16 hgo.1
          rw [hgo.2] at c0
          have HS2 := Lib.hid hgo.2
          have ht := hgo.1
          clear hx16 hgo
          gi_wp2
          go_roundw
          case rel => exact ⟨t + 1, by go_num, by omega, by omega, HII.out, HJs.out, fun j hj => by
            by_cases e : j < t - k
            · exact HON.out j e
            · rw [show 16 * g + k + j = 16 * g + t from by omega]; exact HS2.out⟩
          case measure => simp [intOf]; omega
        · have HGO := Lib.hid (HFIN.out (fun h e => hgo ⟨h, e⟩))
          clear HFIN
          have hgate : (t < 16 ∧ ∃ x : Nat, wr.cell? ⟨A, 16 * g + t, none⟩ = some (.int .u8 x) ∧ ((x : Int) == 2) = false) ∨ 16 ≤ t := by
            by_cases h : t < 16
            · refine .inl ⟨h, _, hx16 h, ?_⟩
              exact nbf (y := 2) (fun e => hgo ⟨h, e⟩)
            · exact .inr (by omega)
          clear hx16 hgo
          by_cases htk : k < t
          · have hyl2 : ys.length < 17 := by omega
            have hR := HGO.out
            rw [if_neg (by omega), List.singleton_append] at hR
            have hys2 := HYS.out
            rw [hR] at hys2
            have HALL := Lib.hid hys2
            obtain ⟨fn, tmps, assign, body, hy, hRR⟩ := hY ys (16 * g + k, t - k) wr (by show t - k ≤ 16; omega) HJs.out hyl2
            rw [show encR (16 * g + k, t - k) = #[.agg #[.int .i64 ((g : Int) * 16 + (k : Int)), .int .i64 ((t : Int) - (k : Int))]] from by
              unfold encR; rw [show (((16 * g + k : Nat)) : Int) = (g : Int) * 16 + k from by omega, show (((t - k : Nat)) : Int) = (t : Int) - k from by omega]] at hy
            have hR2 := hRR.mono (R' := fun e W' => ∃ c : Bool, e = .returned (.bool c) ∧ YBoth (J (ys ++ [(16 * g + k, t - k)]) W' ∧ KpI O B A cap m b1 b2 g wr W') (Jx (ys ++ [(16 * g + k, t - k)]) W') c) (fun e W' h => by
              rcases h with ⟨h1, h2⟩ | ⟨h1, h2⟩
              · exact ⟨true, h1, (fun _ => h2), (fun h => nomatch h)⟩
              · exact ⟨false, h1, (fun h => nomatch h), (fun _ => h2)⟩)
            have HR2 := Lib.hid hR2
            clear hRR hR hys2 hR2
            rcases hgate with ⟨ht, x, hc, hx⟩ | ht
            · gi_wp2_with (refine ⟨(fun h => nomatch h), ?_⟩; refine HR2.out.mono ?_; rintro e W3 ⟨c, rfl, hYB⟩; have HYB := Lib.hid hYB; clear hYB)
              · cases c
                · gi_wp2
                  refine bodyPost_ret (results_none rfl _ _ _) rfl ?_
                  exact ⟨⟨_, rfl⟩, .inr ⟨_, ⟨_, by rw [List.append_assoc]; exact HALL.out⟩, HYB.out.2 rfl⟩⟩
                · rename_i hh
                  simp at hh
              · cases c
                · rename_i hh
                  simp at hh
                · obtain ⟨hJ3, hk3⟩ := HYB.out.1 rfl
                  exact ⟨⟨t + 1, ys ++ [(16 * g + k, t - k)], by go_num, by omega, by simp; omega, by rw [List.append_assoc]; exact HALL.out, hk3 HII.out, hJ3⟩, by simp [intOf]; omega⟩
            · gi_wp2_with (refine ⟨(fun h => nomatch h), ?_⟩; refine HR2.out.mono ?_; rintro e W3 ⟨c, rfl, hYB⟩; have HYB := Lib.hid hYB; clear hYB)
              · cases c
                · gi_wp2
                  refine bodyPost_ret (results_none rfl _ _ _) rfl ?_
                  exact ⟨⟨_, rfl⟩, .inr ⟨_, ⟨_, by rw [List.append_assoc]; exact HALL.out⟩, HYB.out.2 rfl⟩⟩
                · rename_i hh
                  simp at hh
              · cases c
                · rename_i hh
                  simp at hh
                · obtain ⟨hJ3, hk3⟩ := HYB.out.1 rfl
                  exact ⟨⟨t + 1, ys ++ [(16 * g + k, t - k)], by go_num, by omega, by simp; omega, by rw [List.append_assoc]; exact HALL.out, hk3 HII.out, hJ3⟩, by simp [intOf]; omega⟩
          · obtain rfl : t = k := by omega
            have hR := HGO.out
            rw [if_pos (by omega), List.nil_append] at hR
            have HRR := Lib.hid hR
            clear hR
            rcases hgate with ⟨ht, x, hc, hx⟩ | ht
            · gi_wp2
              refine ⟨(fun _ h => nomatch h), ?_⟩
              gi_wp2
              go_roundw
              case rel => exact ⟨t + 1, ys, by go_num, by omega, by omega, by rw [← HRR.out]; exact HYS.out, HII.out, HJs.out⟩
              case measure => simp [intOf]; omega
            · omega
    · gi_wp2
      go_end0
      refine ⟨⟨_, rfl⟩, .inl ⟨_, ?_, HJs.out⟩⟩
      have := HYS.out
      rw [show 16 - k = 0 from by omega] at this
      rw [← this]
      exact (List.append_nil _).symm

end Go.Proofs.Ytecfjibmpbgllaa
