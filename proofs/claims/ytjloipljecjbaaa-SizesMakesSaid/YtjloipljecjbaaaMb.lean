/- The iterator of candidates. -/
import Derived.Test.YtjloipljecjbaaaMa
import Derived.RangeFuncNested
import Derived.RangeFuncBound
import Derived.RangeFuncCalls
import Derived.RangeFuncLeaves
import Derived.Shelf.Abstract
import Derived.Shelf.RegionOpen
import Derived.WalkKit
import Derived.OwnWalkIn
import Derived.TacticsInMore
import Derived.LoopNIn
import Derived.LoopIn
namespace Go.Proofs.Ytjloipljecjbaaa
open Go.RowKit Go.Shelf

attribute [local go_sem] Oper.semAt_some

theorem grown_of {w w' : World} (h : Below w.heap.size w w') (row : Option Nat) : w.grownBy w' row := ⟨h.os, h.tape, h.output, h.size, fun k hk _ => h.block k hk⟩

/-- What a round keeps: the box of a captured variable. -/
def KpB (Bn : Nat) (t : TypeId) (v : Value) (A B : World) : Prop := Boxed A Bn t v → Boxed B Bn t v
theorem kpB_t {Bn : Nat} {t : TypeId} {v : Value} {A B C : World} (h : KpB Bn t v A B) (k : KpB Bn t v B C) : KpB Bn t v A C := fun x => k (h x)
theorem kpB_b {Bn : Nat} {t : TypeId} {v : Value} {w : World} (hn : Bn < w.heap.size) (W : World) (l : Nat) (o o' : Obj) (hl : w.heap.size ≤ l) (_ : W.heap[l]? = some o) (_ : o.isCells = false) (_ : o.isWalk = false) : KpB Bn t v W (W.putObj l o') :=
  fun x => x.kept (grownBy_putObj' W l o') (fun e => by cases e; omega)

def valZ (waste : Int) (s : Sz) : Value := .agg #[.int .i64 s.val, .int .i64 (spI s.val waste), .int .i64 (batI s.val)]

set_option maxRecDepth 100000 in
set_option maxHeartbeats 1000000 in
theorem cand_in (n : Nat) (hn1 : 1 ≤ n) (l Bn : Nat) (waste : Int) (hw2 : 2 ≤ waste) (hw16 : waste ≤ 16) (J Jx : List Sz → World → Prop) (hJ : ∀ (s : List Sz) (W W' : World), J s W → Below W.heap.size W W' → J s W')
    (hY : ∀ pre x W, J pre W → pre.length < (cands waste).length → YieldAt Fence.wide (n - 1) Try.prog l #[valZ waste x] W fun e W' =>
      (e = .returned (.bool true) ∧ J (pre ++ [x]) W' ∧ KpB Bn 3 (.int .i64 waste) W W') ∨ (e = .returned (.bool false) ∧ Jx (pre ++ [x]) W'))
    (W : World) (hB : Boxed W Bn 3 (.int .i64 waste)) (h0 : J [] W) :
    CallsIn Fence.wide n Try.prog 40 #[.func (.yield l) #[] #[], .pointer (some ⟨Bn, 0, none⟩)] W fun e W' => (∃ v, e = .returned v) ∧
      ((∃ ys, ys = cands waste ∧ J ys W') ∨ (∃ pre, pre <+: cands waste ∧ Jx pre W')) := by
  refine callsIn_of_wp Try.func40 rfl trivial ?_ rfl
  simp only [Try.ntmps40, List.size_toArray, List.length_cons, List.length_nil, Nat.reduceAdd, Nat.reduceSub, Array.replicate_succ, Array.replicate_zero, List.push_toArray, List.append_toArray, List.nil_append, List.cons_append]
  have hc0 := hB.cell
  gi_wp2
  gi_loopw [3] (fun p wr => ∃ (pre : List Sz) (f : Nat) (s : Sz), p = .int .i64 s.val ∧ cands waste = pre ++ szL waste f s ∧ 512 ≤ s.val + 8 * f ∧ Boxed wr Bn 3 (.int .i64 waste) ∧ J pre wr) (fun p _ => 512 - (intOf p).toNat)
  case atStart => exact ⟨[], 63, Sz.first, rfl, rfl, by decide, hB, h0⟩
  case round =>
    obtain ⟨pre, f, s, rfl, hx, hf, hWr, hJs⟩ := hrel
    have hc := hWr.cell
    obtain ⟨rest, hr⟩ := szL_cons waste f s
    have hlen : pre.length < (cands waste).length := by rw [hx, hr]; simp
    have hlo := s.lo
    have hhi := s.hi
    have HX := Lib.hid hx
    have HY := Lib.hid hY
    have HJ := Lib.hid hJ
    clear hx hr hY hJ
    obtain ⟨sv, hsv⟩ : ∃ v, s.val = v := ⟨_, rfl⟩
    have HS := Lib.hid hsv
    rw [hsv] at hlo hhi ⊢
    clear hsv
    gi_wp2_with (refine ⟨trivial, ?_⟩; gi_at_call 41; refine (callsIn_wide.2 (candidate_any sv waste _ hlo hhi hw2 hw16)).mono ?_; rintro e w2 ⟨rfl, hb2⟩; obtain ⟨fn, tmps, assign, body, hy, hR⟩ := HY.out pre s w2 (HJ.out _ _ _ hJs hb2) hlen; rw [show valZ waste s = .agg #[.int .i64 sv, .int .i64 (spI sv waste), .int .i64 (batI sv)] from by unfold valZ; rw [HS.out]] at hy)
    refine hR.mono ?_
    have hB2 : Boxed w2 Bn 3 (.int .i64 waste) := hWr.kept (row := none) (grown_of hb2 _) (by simp)
    rintro e W3 (⟨rfl, hJ3, hk3⟩ | ⟨rfl, hJx3⟩)
    · have hB3 := hk3 hB2
      have hc3 := hB3.cell
      have hf' : 512 ≤ sv + 8 * f := by have := HS.out; omega
      by_cases hlt : sv < 512
      · obtain ⟨g, hg, hg2⟩ := szL_more waste f s (by rw [HS.out]; exact hlt) (by rw [HS.out]; exact hf')
        have HG := Lib.hid hg
        have hge := gapI_ge sv waste
        have hle := gapI_le sv waste hlo hw2
        have hnv := nxt_val waste s
        rw [HS.out] at hnv
        clear hg
        by_cases hcap : sv + gapI sv waste ≤ 512
        · rw [if_pos hcap] at hnv
          have HN := Lib.hid hnv
          clear hnv
          gi_wp2_with (refine ⟨trivial, ?_⟩; gi_at_call 42; refine (callsIn_wide.2 (gap_any sv waste _ hlo hlt hw2 hw16)).mono ?_; rintro e w4 ⟨rfl, rfl⟩)
          go_roundw
          case rel => exact ⟨pre ++ [s], g, nxt waste s, by rw [HN.out], by rw [HX.out, HG.out]; simp, hg2, hB3, hJ3⟩
          case measure => simp [intOf]; omega
        · rw [if_neg hcap] at hnv
          have HN := Lib.hid hnv
          clear hnv
          gi_wp2_with (refine ⟨trivial, ?_⟩; gi_at_call 42; refine (callsIn_wide.2 (gap_any sv waste _ hlo hlt hw2 hw16)).mono ?_; rintro e w4 ⟨rfl, rfl⟩)
          go_roundw
          case rel => exact ⟨pre ++ [s], g, nxt waste s, by rw [HN.out], by rw [HX.out, HG.out]; simp, hg2, hB3, hJ3⟩
          case measure => simp [intOf]; omega
      · have hend := szL_end waste f s (by rw [HS.out]; exact hlt)
        have HE := Lib.hid hend
        clear hend
        gi_wp2
        go_end0
        exact ⟨⟨_, rfl⟩, .inl ⟨pre ++ [s], by rw [HX.out, HE.out], hJ3⟩⟩
    · gi_wp2
      go_end0
      obtain ⟨rest, hr⟩ := szL_cons waste f s
      exact ⟨⟨_, rfl⟩, .inr ⟨pre ++ [s], ⟨rest, by rw [HX.out, hr]; simp⟩, hJx3⟩⟩

end Go.Proofs.Ytjloipljecjbaaa
