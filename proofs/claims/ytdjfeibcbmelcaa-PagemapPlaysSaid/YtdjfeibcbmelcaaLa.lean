/- The leaves of package pagemap: made, inside, New, continues. -/
import Derived.Test.YtdjfeibcbmelcaaMb
import Derived.Laws.StructEq
namespace Go.Proofs.Ytdjfeibcbmelcaa
open Go.RowKit

theorem ret_int {k : IntKind} {a b : Int} (h : a = b) : Ending.returned (.int k a) = .returned (.int k b) := by rw [h]
theorem ret_bool {a b : Bool} (h : a = b) : Ending.returned (.bool a) = .returned (.bool b) := by rw [h]
theorem btr {B : Nat} {a b c : World} (h : Below B a b) (hb : Below b.heap.size b c) (hB : B ≤ a.heap.size) : Below B a c := h.trans (hb.mono (Nat.le_trans hB h.size))
theorem bnew (w : World) (o : Obj) : Below w.heap.size w (w.alloc o) := (Below.refl _ _).alloc (Nat.le_refl _) _
theorem belowN {N : Nat} {w1 w2 : World} (hb : Below N w1 w2) (k : Nat) : Below N w1 (w2.drewN k) := by
  constructor
  · exact hb.os
  · exact hb.tape
  · exact hb.output
  · exact hb.size
  · exact hb.block

/-- A map that nobody made: nil, or the zero value. -/
def NoT (w : World) (v : Value) : Prop := v = .pointer none ∨ ∃ B, v = .pointer (some ⟨B, 0, none⟩) ∧ w.cell? ⟨B, 0, none⟩ = some (.pointer none)
theorem NoT.below {w w' : World} {v : Value} (h : NoT w v) (hb : Below w.heap.size w w') : NoT w' v := by
  rcases h with h | ⟨B, h, hc⟩
  · exact .inl h
  · exact .inr ⟨B, h, (hb.cell (World.block_lt_of_cell? _ _ hc)).trans hc⟩

set_option maxHeartbeats 400000 in
theorem made_any {O : Nat → Prop} {B : Nat} {M : Nat → Int} {w : World} (h : Tr w O B M) : Calls Try.prog 33 #[.pointer (some ⟨B, 0, none⟩)] w fun e w' => e = .returned (.bool true) ∧ w = w' := by
  obtain ⟨R, cm, cl, T, h, _⟩ := h
  have c0 := h.c0
  clear h
  go_enter Try.func33, Try.ntmps33
  go_wp2
  go_ret
  exact ⟨rfl, rfl⟩

set_option maxHeartbeats 400000 in
theorem made_no {v : Value} {w : World} (h : NoT w v) : Calls Try.prog 33 #[v] w fun e w' => e = .returned (.bool false) ∧ w = w' := by
  rcases h with rfl | ⟨B, rfl, hc⟩
  · go_enter Try.func33, Try.ntmps33
    go_wp2
    go_ret
    exact ⟨rfl, rfl⟩
  · go_enter Try.func33, Try.ntmps33
    go_wp2
    go_ret
    exact ⟨rfl, rfl⟩

set_option maxHeartbeats 400000 in
theorem inside_any (s k : Int) (w : World) (hs : -9223372036854775808 ≤ s ∧ s ≤ 9223372036854775807) :
    Calls Try.prog 41 #[.int .i64 s, .int .i64 k] w fun e w' => e = .returned (.bool (insB s k)) ∧ w = w' := by
  unfold insB
  go_enter Try.func41, Try.ntmps41
  go_wp2
  all_goals
    go_ret
    refine ⟨ret_bool ?_, rfl⟩
    rw [Bool.eq_iff_iff]
    simp only [decide_eq_true_eq, Bool.false_eq_true, false_iff, Bool.and_eq_true]
    omega

/-- A mark: start, pages, number. -/
structure Mk where
  s : Nat
  n : Nat
  v : Int

set_option maxHeartbeats 400000 in
theorem continues_any (s n : Nat) (v q : Int) (p : Nat) (w : World) (hs : s ≤ 1024) (hn : n ≤ 1024) :
    Calls Try.prog 43 #[.agg #[.int .i64 s, .int .i64 n, .int .i64 v], .int .i64 p, .int .i64 q] w fun e w' => e = .returned (.bool (decide (p = s + n ∧ q = v))) ∧ Below w.heap.size w w' := by
  go_enter Try.func43, Try.ntmps43
  go_wp2
  all_goals
    go_ret
    refine ⟨ret_bool ?_, bnew _ _⟩
    rw [Bool.eq_iff_iff]
    simp only [decide_eq_true_eq, Bool.false_eq_true, false_iff, beq_iff_eq]
    omega

theorem Cl.new {cs : Array Value} {t : TypeId} {n : Nat} {f : Nat → Value} (w : World) (ht : t ≠ 50) (hc : ∀ i, i < n → cs[i]? = some (f i)) : Cl (w.alloc (.cells cs t)) w.heap.size n f := by
  have h := World.alloc_heap_new w (.cells cs t)
  refine ⟨fun i hi => ?_, fun i _ => ?_, Nr.new w cs t ht⟩
  · unfold World.cell?
    rw [h]
    exact hc i hi
  · unfold World.frozen?
    rw [h]
    simp
theorem rep_at {n i : Nat} {v : Value} (h : i < n) : (Array.replicate n v)[i]? = some v := by simp [h]

set_option maxHeartbeats 1000000 in
theorem New_any (w : World) : Calls Try.prog 14 #[] w fun e w' => ∃ B, e = .returned (.pointer (some ⟨B, 0, none⟩)) ∧ Below w.heap.size w w' ∧ Tr w' (Nw w w') B noM := by
  go_enter Try.func14, Try.ntmps14
  go_wp2
  go_ret
  refine ⟨w.heap.size + 1, rfl, (bnew _ _).alloc (by simp) _, w.heap.size, fun _ => none, fun _ => none, fun x => if x = w.heap.size then 1 else 0, ?_, ⟨(fun _ _ _ h => nomatch h), (fun _ _ _ h => nomatch h)⟩⟩
  have h1 : Cl (w.alloc (.cells #[.pointer none, .pointer none, .pointer none, .pointer none, .pointer none, .pointer none, .pointer none, .pointer none, .pointer none, .pointer none, .pointer none, .pointer none, .pointer none, .pointer none, .pointer none, .pointer none] 60)) w.heap.size 16 (fun _ => pt none) :=
    Cl.new w (by decide) (fun i hi => rep_at (n := 16) hi)
  obtain ⟨w1, hw1⟩ : ∃ w1, w.alloc (.cells #[.pointer none, .pointer none, .pointer none, .pointer none, .pointer none, .pointer none, .pointer none, .pointer none, .pointer none, .pointer none, .pointer none, .pointer none, .pointer none, .pointer none, .pointer none, .pointer none] 60) = w1 := ⟨_, rfl⟩
  have hs : w1.heap.size = w.heap.size + 1 := by rw [← hw1]; simp
  rw [hw1] at h1 ⊢
  have h2 : Cl (w1.alloc (.cells #[.pointer (some ⟨w.heap.size, 0, none⟩)] 40)) (w.heap.size + 1) 1 (fun _ => .pointer (some ⟨w.heap.size, 0, none⟩)) := by
    have := Cl.new (cs := #[.pointer (some ⟨w.heap.size, 0, none⟩)]) (t := 40) (n := 1) (f := fun _ => .pointer (some ⟨w.heap.size, 0, none⟩)) w1 (by decide) (fun i hi => by cases (show i = 0 by omega); rfl)
    rwa [hs] at this
  refine ⟨noM_wf, h2, h1.alloc _, (fun _ _ _ h => nomatch h), (fun _ _ _ h => nomatch h), ⟨by omega, by simp [hs]⟩, ⟨Nat.le_refl _, by simp [hs]; omega⟩, (fun _ _ _ h => nomatch h), (fun _ _ _ h => nomatch h), fun k hk => hk.2, ?_, ?_, (fun _ _ _ h => nomatch h), (fun _ _ _ h => nomatch h), fun _ _ _ _ _ => rfl, fun _ _ _ _ _ => rfl⟩
  · exact if_neg (by omega)
  · exact if_pos rfl

end Go.Proofs.Ytdjfeibcbmelcaa
