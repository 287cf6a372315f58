/- What single stores do to a space in memory. -/
import Derived.Test.YtejjendklemebaaMb
namespace Go.Proofs.Ytejjendklemebaa
open Go.RowKit

theorem Cl.drew {w : World} {b n : Nat} {f : Nat → Value} (h : Cl w b n f) : Cl w.drew b n f := ⟨h.cell, h.free⟩
theorem Cl.alloc {w : World} {b n : Nat} {f : Nat → Value} (h : Cl w b n f) (hb : b < w.heap.size) (o : Obj) : Cl (w.alloc o) b n f := h.of_block (Below.heap_alloc _ _ _ hb)

theorem pgF_set {st st' : Nat → Int} {pt pt' : Nat → Option Nat} {s n : Nat} {b : Bool} {q : Option Nat} {w : World} {A : Nat} (h : Cl w A (n * 2) (pgF st pt)) (h1 : ∀ k, k ≠ s → st' k = st k ∧ pt' k = pt k) (h2 : decide (st' s ≠ 0) = b) (h3 : pt' s = q) :
    Cl ((w.setCell ⟨A, s * 2, none⟩ (.bool b)).setCell ⟨A, s * 2 + 1, none⟩ (.pointer (ptrA q))) A (n * 2) (pgF st' pt') := by
  refine ((h.set _ _).set _ _).congr fun i _ => ?_
  unfold pgF
  by_cases e : i / 2 = s
  · by_cases e2 : i % 2 = 0
    · rw [if_neg (by omega), if_pos (by omega), if_pos e2, e, h2]
    · rw [if_pos (by omega), if_neg e2, e, h3]
  · rw [if_neg (by omega), if_neg (by omega), (h1 _ e).1, (h1 _ e).2]

/-- A page without memory is renewed. -/
theorem SpA.renewN {w : World} {O : Nat → Prop} {B A cap : Nat} {pt : Nat → Option Nat} {m : Mo} (h : SpA w O B A cap pt m) {s : Nat} (hs : s < m.n) (hp : pt s = none) {v : Int} (hv : v = 0 ∨ v = 1) {b : Bool} (hb : decide (v ≠ 0) = b) :
    Mut w O B (setM m s 1 v) ((w.setCell ⟨A, s * 2, none⟩ (.bool b)).setCell ⟨A, s * 2 + 1, none⟩ (.pointer none)).drew := by
  have hst := setM_one m s v
  have hn2 : m.st s ≠ 2 := (h.pn s hs).1 hp
  have hdir : (setM m s 1 v).dir = m.dir := by have := setM_one_dir m s v hs (by omega); rw [if_neg hn2] at this; omega
  have hK : Keep O w ((w.setCell ⟨A, s * 2, none⟩ (.bool b)).setCell ⟨A, s * 2 + 1, none⟩ (.pointer none)).drew :=
    (((Keep.refl O w).set (a := ⟨A, s * 2, none⟩) (.inl h.oa) _).set (a := ⟨A, s * 2 + 1, none⟩) (.inl h.oa) _).drew
  have hsz : ((w.setCell ⟨A, s * 2, none⟩ (.bool b)).setCell ⟨A, s * 2 + 1, none⟩ (.pointer none)).drew.heap.size = w.heap.size := by simp
  have hbk : ∀ k, k ≠ A → ((w.setCell ⟨A, s * 2, none⟩ (.bool b)).setCell ⟨A, s * 2 + 1, none⟩ (.pointer none)).drew.heap[k]? = w.heap[k]? := fun k hk => by
    show ((w.setCell ⟨A, s * 2, none⟩ (.bool b)).setCell ⟨A, s * 2 + 1, none⟩ (.pointer none)).heap[k]? = _
    rw [Below.heap_setCell _ _ _ _ hk, Below.heap_setCell _ _ _ _ hk]
  refine ⟨⟨A, cap, pt, ?_⟩, hK⟩
  refine (⟨setM_one_wf h.wf s v hs hv, ?_, ?_, fun k x hk hx => ?_, fun k hk => ?_, h.inj, h.ob, h.oa, h.ow, fun k ho => by rw [hsz]; exact h.lt k ho, h.ab, h.wb, h.cp⟩ : SpA _ O B A cap pt (setM m s 1 v)).mono (fun _ hk => .inl hk) (Ext.lt h.lt hK.size)
  · rw [hdir]
    exact h.b.of_block (hbk _ (fun e => h.ab e.symm))
  · refine (pgF_set (st' := (setM m s 1 v).st) (pt' := pt) (q := none) h.a (fun k hk => ⟨?_, rfl⟩) ?_ hp).drew
    · rw [hst]; unfold upS; rw [if_neg hk]
    · rw [hst]; unfold upS; rw [if_pos rfl]; exact hb
  · have hne : k ≠ s := fun e => by rw [e, hp] at hx; cases hx
    refine ((h.ws k x hk hx).of_block (hbk _ (h.wb k x hk hx).2)).congr fun j hj => ?_
    show _ = Value.int .i64 (if s ≤ (32 * k + j) / 32 ∧ (32 * k + j) / 32 < s + 1 then 0 else m.hd (32 * k + j))
    rw [if_neg (by omega)]
  · rw [hst]
    unfold upS
    by_cases e : k = s
    · rw [if_pos e, e, hp]
      simp
      omega
    · rw [if_neg e]
      exact h.pn k hk

/-- A dirty page is renewed. -/
theorem SpA.renewS {w : World} {O : Nat → Prop} {B A cap : Nat} {pt : Nat → Option Nat} {m : Mo} (h : SpA w O B A cap pt m) {s x : Nat} (hs : s < m.n) (hp : pt s = some x) {v : Int} (hv : v = 0 ∨ v = 1) {b : Bool} (hb : decide (v ≠ 0) = b) :
    Mut w O B (setM m s 1 v) (((w.setCell ⟨B, 1, none⟩ (.int .i64 ((m.dir : Int) - 1))).setCell ⟨A, s * 2, none⟩ (.bool b)).setCell ⟨A, s * 2 + 1, none⟩ (.pointer none)).drew := by
  have hst := setM_one m s v
  have hn2 : m.st s = 2 := by
    by_cases e : m.st s = 2
    · exact e
    · have := (h.pn s hs).2 e; rw [hp] at this; cases this
  have hdir : (setM m s 1 v).dir + 1 = m.dir := by have := setM_one_dir m s v hs (by omega); rw [if_pos hn2] at this; omega
  have hK : Keep O w (((w.setCell ⟨B, 1, none⟩ (.int .i64 ((m.dir : Int) - 1))).setCell ⟨A, s * 2, none⟩ (.bool b)).setCell ⟨A, s * 2 + 1, none⟩ (.pointer none)).drew :=
    ((((Keep.refl O w).set (a := ⟨B, 1, none⟩) (.inl h.ob) _).set (a := ⟨A, s * 2, none⟩) (.inl h.oa) _).set (a := ⟨A, s * 2 + 1, none⟩) (.inl h.oa) _).drew
  have hsz : (((w.setCell ⟨B, 1, none⟩ (.int .i64 ((m.dir : Int) - 1))).setCell ⟨A, s * 2, none⟩ (.bool b)).setCell ⟨A, s * 2 + 1, none⟩ (.pointer none)).drew.heap.size = w.heap.size := by simp
  have hbk : ∀ k, k ≠ A → (((w.setCell ⟨B, 1, none⟩ (.int .i64 ((m.dir : Int) - 1))).setCell ⟨A, s * 2, none⟩ (.bool b)).setCell ⟨A, s * 2 + 1, none⟩ (.pointer none)).drew.heap[k]? = (w.setCell ⟨B, 1, none⟩ (.int .i64 ((m.dir : Int) - 1))).heap[k]? := fun k hk => by
    show (((w.setCell ⟨B, 1, none⟩ (.int .i64 ((m.dir : Int) - 1))).setCell ⟨A, s * 2, none⟩ (.bool b)).setCell ⟨A, s * 2 + 1, none⟩ (.pointer none)).heap[k]? = _
    rw [Below.heap_setCell _ _ _ _ hk, Below.heap_setCell _ _ _ _ hk]
  refine ⟨⟨A, cap, fun k => if k = s then none else pt k, ?_⟩, hK⟩
  refine (⟨setM_one_wf h.wf s v hs hv, ?_, ?_, fun k y hk hy => ?_, fun k hk => ?_, fun k k' y hk hk' h1 h2 => ?_, h.ob, h.oa, fun k y hk hy => ?_, fun k ho => by rw [hsz]; exact h.lt k ho, h.ab, fun k y hk hy => ?_, h.cp⟩ : SpA _ O B A cap (fun k => if k = s then none else pt k) (setM m s 1 v)).mono (fun _ hk => .inl hk) (Ext.lt h.lt hK.size)
  · refine ((h.b.set 1 _).of_block (hbk _ (fun e => h.ab e.symm))).congr fun i hi => ?_
    have hi3 : i = 0 ∨ i = 1 ∨ i = 2 := by omega
    rcases hi3 with rfl | rfl | rfl
    · rfl
    · show Value.int .i64 ((m.dir : Int) - 1) = .int .i64 ((setM m s 1 v).dir : Int)
      congr 1; omega
    · rfl
  · have ha := h.a.other (a := ⟨B, 1, none⟩) h.ab (.int .i64 ((m.dir : Int) - 1))
    refine (pgF_set (st' := (setM m s 1 v).st) (pt' := fun k => if k = s then none else pt k) (q := none) ha (fun k hk => ⟨?_, if_neg hk⟩) ?_ (if_pos rfl)).drew
    · rw [hst]; unfold upS; rw [if_neg hk]
    · rw [hst]; unfold upS; rw [if_pos rfl]; exact hb
  · have hne : k ≠ s := fun e => by rw [if_pos e] at hy; cases hy
    rw [if_neg hne] at hy
    refine (((h.ws k y hk hy).other (a := ⟨B, 1, none⟩) (h.wb k y hk hy).1 _).of_block (hbk _ (h.wb k y hk hy).2)).congr fun j hj => ?_
    show _ = Value.int .i64 (if s ≤ (32 * k + j) / 32 ∧ (32 * k + j) / 32 < s + 1 then 0 else m.hd (32 * k + j))
    rw [if_neg (by omega)]
  · rw [hst]
    unfold upS
    by_cases e : k = s
    · rw [if_pos e, if_pos e]
      simp
      omega
    · rw [if_neg e, if_neg e]
      exact h.pn k hk
  · by_cases e : k = s
    · rw [if_pos e] at h1; cases h1
    · by_cases e' : k' = s
      · rw [if_pos e'] at h2; cases h2
      · rw [if_neg e] at h1
        rw [if_neg e'] at h2
        exact h.inj k k' y hk hk' h1 h2
  · by_cases e : k = s
    · rw [if_pos e] at hy; cases hy
    · rw [if_neg e] at hy; exact h.ow k y hk hy
  · by_cases e : k = s
    · rw [if_pos e] at hy; cases hy
    · rw [if_neg e] at hy; exact h.wb k y hk hy

end Go.Proofs.Ytejjendklemebaa
