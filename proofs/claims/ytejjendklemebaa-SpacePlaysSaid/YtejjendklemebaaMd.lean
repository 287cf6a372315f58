/- What the stores of one word do to a space in memory. -/
import Derived.Test.YtejjendklemebaaMc
namespace Go.Proofs.Ytejjendklemebaa
open Go.RowKit

def dirtyM (m : Mo) (q : Nat) : Mo := ⟨m.n, upS m.st q 2, m.hd, max m.pk (dirS (upS m.st q 2) m.n)⟩
def wordM (m : Mo) (i : Nat) (v : Int) : Mo := { m with hd := upS m.hd i v }
theorem putM_eq (m : Mo) (i : Nat) (v : Int) : putM m i v = wordM (dirtyM m (i / 32)) i v := rfl

theorem upS_same {f : Nat → Int} {k : Nat} {v : Int} (h : f k = v) : upS f k v = f := by
  funext j
  unfold upS
  by_cases e : j = k
  · rw [if_pos e, e, h]
  · rw [if_neg e]
theorem dirtyM_same {m : Mo} (h : WF m) {q : Nat} (hq : m.st q = 2) : dirtyM m q = m := by
  unfold dirtyM
  rw [upS_same hq]
  have : max m.pk (dirS m.st m.n) = m.pk := Nat.max_eq_left h.d
  rw [this]
theorem dirtyM_wf {m : Mo} (h : WF m) (q : Nat) : WF (dirtyM m q) := by
  refine ⟨h.n1, h.n2, fun k => ?_, fun j hj => ?_, Nat.le_max_right _ _, ?_⟩
  · have e : (dirtyM m q).st k = upS m.st q 2 k := rfl
    rw [e]
    unfold upS
    split
    · exact .inr (.inr rfl)
    · exact h.s k
  · have hj' : upS m.st q 2 (j / 32) ≠ 2 := hj
    show m.hd j = 0
    unfold upS at hj'
    by_cases e : j / 32 = q
    · rw [if_pos e] at hj'; exact absurd rfl hj'
    · rw [if_neg e] at hj'
      exact h.z j hj'
  · show max m.pk _ ≤ m.n
    have := h.p
    have := dirS_le (upS m.st q 2) m.n
    omega
theorem wordM_wf {m : Mo} (h : WF m) (i : Nat) (v : Int) (hi : m.st (i / 32) = 2) : WF (wordM m i v) := by
  refine ⟨h.n1, h.n2, h.s, fun j hj => ?_, h.d, h.p⟩
  show upS m.hd i v j = 0
  unfold upS
  by_cases e : j = i
  · rw [e] at hj
    exact absurd hi hj
  · rw [if_neg e]
    exact h.z j hj
theorem dirtyM_dir {m : Mo} {q : Nat} (hq : q < m.n) (h : m.st q ≠ 2) : (dirtyM m q).dir = m.dir + 1 := by
  have := dirS_up m.st m.n q 2 hq
  rw [if_neg h, if_pos rfl] at this
  exact this

/-- A word of a dirty page is stored. -/
theorem SpA.word {w : World} {O : Nat → Prop} {B A cap : Nat} {pt : Nat → Option Nat} {m : Mo} (h : SpA w O B A cap pt m) {i x : Nat} (hi : i / 32 < m.n) (hp : pt (i / 32) = some x) (v : Int) :
    Mut w O B (wordM m i v) ((w.setCell ⟨x, i % 32, none⟩ (.int .i64 v)).drew) := by
  have hn2 : m.st (i / 32) = 2 := by
    by_cases e : m.st (i / 32) = 2
    · exact e
    · have := (h.pn _ hi).2 e; rw [hp] at this; cases this
  have hK : Keep O w ((w.setCell ⟨x, i % 32, none⟩ (.int .i64 v)).drew) := ((Keep.refl O w).set (a := ⟨x, i % 32, none⟩) (.inl (h.ow _ _ hi hp)) _).drew
  have hsz : ((w.setCell ⟨x, i % 32, none⟩ (.int .i64 v)).drew).heap.size = w.heap.size := by simp
  have hbk : ∀ k, k ≠ x → ((w.setCell ⟨x, i % 32, none⟩ (.int .i64 v)).drew).heap[k]? = w.heap[k]? := fun k hk => Below.heap_setCell w ⟨x, i % 32, none⟩ _ k hk
  obtain ⟨hxb, hxa⟩ := h.wb _ _ hi hp
  refine ⟨⟨A, cap, pt, ?_⟩, hK⟩
  refine (⟨wordM_wf h.wf i v hn2, h.b.of_block (hbk _ (fun e => hxb e.symm)), h.a.of_block (hbk _ (fun e => hxa e.symm)), fun k y hk hy => ?_, h.pn, h.inj, h.ob, h.oa, h.ow, fun k ho => by rw [hsz]; exact h.lt k ho, h.ab, h.wb, h.cp⟩ : SpA _ O B A cap pt (wordM m i v)).mono (fun _ hk => .inl hk) (Ext.lt h.lt hK.size)
  by_cases e : k = i / 32
  · subst e
    obtain rfl : y = x := by rw [hp] at hy; exact (Option.some.inj hy).symm
    refine (((h.ws _ _ hk hy).set (i % 32) (.int .i64 v)).congr fun j hj => ?_).drew
    show _ = Value.int .i64 (upS m.hd i v (32 * (i / 32) + j))
    unfold upS
    by_cases e2 : j = i % 32
    · rw [if_pos e2, if_pos (by omega)]
    · rw [if_neg e2, if_neg (by omega)]
  · have hyx : y ≠ x := fun e2 => e (h.inj k (i / 32) y hk hi hy (by rw [e2]; exact hp))
    refine ((h.ws k y hk hy).of_block (hbk _ hyx)).congr fun j hj => ?_
    show _ = Value.int .i64 (upS m.hd i v (32 * k + j))
    unfold upS
    rw [if_neg (by omega)]

/-- A page gets memory. -/
theorem SpA.dirtied {w : World} {O : Nat → Prop} {B A cap : Nat} {pt : Nat → Option Nat} {m : Mo} (h : SpA w O B A cap pt m) {q : Nat} (hq : q < m.n) (hs : m.st q ≠ 0) (hp : pt q = none) (Z : Array Value) (hZ : ∀ j, j < 32 → Z[j]? = some (.int .i64 0)) (t : TypeId) (P : Int)
    (hP : P = ((max m.pk (m.dir + 1) : Nat) : Int)) :
    Mut w O B (dirtyM m q) ((((w.setCell ⟨A, q * 2 + 1, none⟩ (.pointer (some ⟨w.heap.size, 0, none⟩))).setCell ⟨B, 1, none⟩ (.int .i64 ((m.dir : Int) + 1))).setCell ⟨B, 2, none⟩ (.int .i64 P)).alloc (.cells Z t)).drew ∧
    SpA ((((w.setCell ⟨A, q * 2 + 1, none⟩ (.pointer (some ⟨w.heap.size, 0, none⟩))).setCell ⟨B, 1, none⟩ (.int .i64 ((m.dir : Int) + 1))).setCell ⟨B, 2, none⟩ (.int .i64 P)).alloc (.cells Z t)).drew
      (Ext O w ((((w.setCell ⟨A, q * 2 + 1, none⟩ (.pointer (some ⟨w.heap.size, 0, none⟩))).setCell ⟨B, 1, none⟩ (.int .i64 ((m.dir : Int) + 1))).setCell ⟨B, 2, none⟩ (.int .i64 P)).alloc (.cells Z t)).drew) B A cap (fun k => if k = q then some w.heap.size else pt k) (dirtyM m q) := by
  have hn2 : m.st q ≠ 2 := (h.pn q hq).1 hp
  have hdir := dirtyM_dir hq hn2
  obtain ⟨W, hW⟩ : ∃ W, W = ((((w.setCell ⟨A, q * 2 + 1, none⟩ (.pointer (some ⟨w.heap.size, 0, none⟩))).setCell ⟨B, 1, none⟩ (.int .i64 ((m.dir : Int) + 1))).setCell ⟨B, 2, none⟩ (.int .i64 P)).alloc (.cells Z t)).drew := ⟨_, rfl⟩
  have hK : Keep O w W := by
    rw [hW]
    exact (((((Keep.refl O w).set (a := ⟨A, q * 2 + 1, none⟩) (.inl h.oa) _).set (a := ⟨B, 1, none⟩) (.inl h.ob) _).set (a := ⟨B, 2, none⟩) (.inl h.ob) _).alloc _).drew
  have hsz : W.heap.size = w.heap.size + 1 := by rw [hW]; simp
  have hbk : ∀ k, k < w.heap.size → k ≠ A → k ≠ B → W.heap[k]? = w.heap[k]? := fun k hl hk hk2 => by
    rw [hW]
    show (((((w.setCell ⟨A, q * 2 + 1, none⟩ (.pointer (some ⟨w.heap.size, 0, none⟩))).setCell ⟨B, 1, none⟩ (.int .i64 ((m.dir : Int) + 1))).setCell ⟨B, 2, none⟩ (.int .i64 P)).alloc (.cells Z t))).heap[k]? = _
    rw [Below.heap_alloc _ _ _ (by simpa using hl), Below.heap_setCell _ _ _ _ hk2, Below.heap_setCell _ _ _ _ hk2, Below.heap_setCell _ _ _ _ hk]
  have hB : Cl W B 3 (spF A m.n cap (m.dir + 1) (max m.pk (m.dir + 1))) := by
    rw [hW]
    refine (((((h.b.other (a := ⟨A, q * 2 + 1, none⟩) (fun e => h.ab e.symm) _).set 1 _).set 2 _).alloc (by simpa using h.lt _ h.ob) _).drew).congr fun i hi => ?_
    have hi3 : i = 0 ∨ i = 1 ∨ i = 2 := by omega
    rcases hi3 with rfl | rfl | rfl
    · rfl
    · rfl
    · show Value.int .i64 P = _
      rw [hP]; rfl
  have hA : Cl W A (m.n * 2) (pgF (upS m.st q 2) (fun k => if k = q then some w.heap.size else pt k)) := by
    rw [hW]
    refine (((((h.a.set (q * 2 + 1) _).other (a := ⟨B, 1, none⟩) h.ab _).other (a := ⟨B, 2, none⟩) h.ab _).alloc (by simpa using h.lt _ h.oa) _).drew).congr fun i hi => ?_
    unfold pgF
    by_cases e : i / 2 = q
    · by_cases e2 : i % 2 = 0
      · rw [if_neg (by omega), if_pos e2, if_pos e2, e]
        unfold upS
        rw [if_pos rfl, decide_eq_true hs]
        rfl
      · rw [if_pos (by omega), if_neg e2]
        dsimp only
        rw [if_pos e]
        rfl
    · rw [if_neg (by omega)]
      dsimp only
      rw [if_neg e]
      unfold upS
      rw [if_neg e]
  have hS : SpA W (Ext O w W) B A cap (fun k => if k = q then some w.heap.size else pt k) (dirtyM m q) := by
    have hlt := h.lt
    refine ⟨dirtyM_wf h.wf q, ?_, hA, fun k y hk hy => ?_, fun k hk => ?_, fun k k' y hk hk' h1 h2 => ?_, .inl h.ob, .inl h.oa, fun k y hk hy => ?_, Ext.lt h.lt hK.size, h.ab, fun k y hk hy => ?_, h.cp⟩
    · rw [hdir]
      have : (dirtyM m q).pk = max m.pk (m.dir + 1) := by rw [← hdir]; rfl
      rw [this]
      exact hB
    · by_cases e : k = q
      · rw [if_pos e] at hy
        cases hy
        have hz : ∀ j, j < 32 → m.hd (32 * k + j) = 0 := fun j hj => h.wf.z _ (by rw [show (32 * k + j) / 32 = q from by omega]; exact hn2)
        have hnew : W.heap[w.heap.size]? = some (.cells Z t) := by
          rw [hW]
          show (((((w.setCell ⟨A, q * 2 + 1, none⟩ (.pointer (some ⟨w.heap.size, 0, none⟩))).setCell ⟨B, 1, none⟩ (.int .i64 ((m.dir : Int) + 1))).setCell ⟨B, 2, none⟩ (.int .i64 P)).heap.push (.cells Z t)))[w.heap.size]? = _
          rw [Array.getElem?_push, if_pos (by simp)]
        refine ⟨fun j hj => ?_, fun j hj => ?_⟩
        · show W.cell? _ = some (Value.int .i64 (m.hd (32 * k + j)))
          rw [hz j hj]
          simp [World.cell?, hnew, hZ j hj]
        · simp [World.frozen?, hnew]
      · rw [if_neg e] at hy
        exact (h.ws k y hk hy).of_block (hbk _ (hlt _ (h.ow k y hk hy)) (h.wb k y hk hy).2 (h.wb k y hk hy).1)
    · show (if k = q then some w.heap.size else pt k) = none ↔ upS m.st q 2 k ≠ 2
      unfold upS
      by_cases e : k = q
      · rw [if_pos e, if_pos e]; simp
      · rw [if_neg e, if_neg e]; exact h.pn k hk
    · by_cases e : k = q
      · by_cases e' : k' = q
        · omega
        · rw [if_pos e] at h1; rw [if_neg e'] at h2
          cases h1
          have := hlt _ (h.ow _ _ hk' h2)
          omega
      · by_cases e' : k' = q
        · rw [if_neg e] at h1; rw [if_pos e'] at h2
          cases h2
          have := hlt _ (h.ow _ _ hk h1)
          omega
        · rw [if_neg e] at h1; rw [if_neg e'] at h2
          exact h.inj k k' y hk hk' h1 h2
    · by_cases e : k = q
      · rw [if_pos e] at hy; cases hy
        exact .inr ⟨Nat.le_refl _, by omega⟩
      · rw [if_neg e] at hy; exact .inl (h.ow k y hk hy)
    · by_cases e : k = q
      · rw [if_pos e] at hy; cases hy
        have := hlt _ h.ob
        have := hlt _ h.oa
        omega
      · rw [if_neg e] at hy; exact h.wb k y hk hy
  rw [← hW]
  exact ⟨⟨⟨A, cap, _, hS⟩, hK⟩, hS⟩

end Go.Proofs.Ytejjendklemebaa
