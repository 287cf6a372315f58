/- A heap of pages in memory. -/
import Derived.Test.YtnmejilpifmlnaaDoorMb
import Derived.Lib.BitFns
import Derived.Lib.ItoaNum
namespace Go.Proofs.YtnmejilpifmlnaaDoor
open Go.RowKit

/-- A heap as the chapter says it: its number of pages, and which are free. -/
structure Mo where
  n : Nat
  F : Nat → Bool
instance : Inhabited Mo := ⟨⟨0, fun _ => false⟩⟩
structure WF (m : Mo) : Prop where
  n1 : 1 ≤ m.n
  n2 : m.n ≤ 1024
  f : ∀ p, m.F p = true → p < m.n

/-- How many orders have places. -/
def ords (n : Nat) : Nat := Lib.bitLen n
theorem ords_facts {n : Nat} (h1 : 1 ≤ n) (h2 : n ≤ 1024) : 1 ≤ ords n ∧ ords n ≤ 11 ∧ n < 2 ^ ords n ∧ 2 ^ (ords n - 1) ≤ n := by
  have hb := Lib.bitLenAux_bounds 64 n (by omega) (by omega)
  exact ⟨hb.1, Lib.bitLen_le n 11 (by omega) (by omega), hb.2.2, hb.2.1⟩
theorem pow_le_1024 {k : Nat} (h : k ≤ 10) : 2 ^ k ≤ 1024 := pow_le h
theorem pow_le_2048 {k : Nat} (h : k ≤ 11) : 2 ^ k ≤ 2048 := pow_le h
theorem WF.K (m : Mo) (h : WF m) : 1 ≤ ords m.n ∧ ords m.n ≤ 11 ∧ m.n < 2 ^ ords m.n ∧ 2 ^ (ords m.n - 1) ≤ m.n := ords_facts h.n1 h.n2
theorem bk_le {F : Nat → Bool} {n k s : Nat} (hF : ∀ p, F p = true → p < n) (h : Bk F k s) : s + 2 ^ k ≤ n := by
  have := hF _ (h.at (p := s + 2 ^ k - 1) (by have := Nat.two_pow_pos k; omega) (by have := Nat.two_pow_pos k; omega))
  omega
theorem bk_ord {F : Nat → Bool} {n k s : Nat} (h1 : 1 ≤ n) (h2 : n ≤ 1024) (hF : ∀ p, F p = true → p < n) (h : Bk F k s) : k < ords n := by
  have hle := bk_le hF h
  have hk := (ords_facts h1 h2).2.2.1
  rcases Nat.lt_or_ge k (ords n) with hlt | hge
  · exact hlt
  · have := pow_le hge
    omega

/-- The library's table in its variable. -/
def Tab (w : World) : Prop := ∀ j, j < 64 → w.cell? ⟨1, j, none⟩ = some (.int .u8 ((Lib.deBruijn64tab.getD j 0 : Nat) : Int))
theorem Tab.lt {w : World} (h : Tab w) : 1 < w.heap.size := World.block_lt_of_cell? _ _ (h 0 (by omega))
theorem Tab.keep {w w' : World} {O : Nat → Prop} (h : Tab w) (hk : Keep O w w') (ho : ¬ O 1) : Tab w' := fun j hj =>
  (World.cell?_of_block (w := w) (a := ⟨1, j, none⟩) (hk.block 1 h.lt ho)).trans (h j hj)
theorem Tab.below {w w' : World} (h : Tab w) (hb : Below w.heap.size w w') : Tab w' := h.keep (Keep.of (O := fun _ => False) hb) (fun h => h)
theorem Tab.below' {w w' : World} {N : Nat} (h : Tab w) (hb : Below N w w') (hN : 1 < N) : Tab w' := fun j hj => (hb.cell (p := ⟨1, j, none⟩) hN).trans (h j hj)

def hpF (n A K cap : Nat) : Nat → Value := fun i => if i = 0 then .int .i64 n else .slice (some ⟨A, 0, none⟩) K cap

/-- The program's heap in memory: its own block B, the slice of its sets in block A, the sets in blocks of their own. -/
structure HpA (w : World) (O : Nat → Prop) (B A cap : Nat) (mb : Nat → Nat) (m : Mo) : Prop where
  wf : WF m
  b : Cl w B 2 (hpF m.n A (ords m.n) cap)
  a : Cl w A (ords m.n) (fun k => .map (some (mb k)))
  s : ∀ k, k < ords m.n → SetAt w (mb k) (Bk m.F k)
  inj : ∀ k k', k < ords m.n → k' < ords m.n → mb k = mb k' → k = k'
  ob : O B
  oa : O A
  os : ∀ k, k < ords m.n → O (mb k)
  lt : ∀ k, O k → k < w.heap.size
  og : ∀ k, O k → 2 ≤ k
  tb : Tab w
  cp : ords m.n ≤ cap

def Hp (w : World) (O : Nat → Prop) (B : Nat) (m : Mo) : Prop := ∃ A cap mb, HpA w O B A cap mb m

section
variable {w : World} {O : Nat → Prop} {B A cap : Nat} {mb : Nat → Nat} {m : Mo}
theorem HpA.keep {w' : World} {O1 : Nat → Prop} (h : HpA w O B A cap mb m) (hk : Keep O1 w w') (hd : ∀ k, O k → O1 k → False) (hg : ¬ O1 1) : HpA w' O B A cap mb m := by
  have hb : ∀ k, O k → w'.heap[k]? = w.heap[k]? := fun k ho => hk.block k (h.lt k ho) (fun hx => hd k ho hx)
  exact ⟨h.wf, h.b.of_block (hb _ h.ob), h.a.of_block (hb _ h.oa), fun k hK => (h.s k hK).of_block (hb _ (h.os k hK)), h.inj, h.ob, h.oa, h.os, fun k ho => Nat.lt_of_lt_of_le (h.lt k ho) hk.size, h.og, h.tb.keep hk hg, h.cp⟩
theorem Hp.keep {w' : World} {O1 : Nat → Prop} (h : Hp w O B m) (hk : Keep O1 w w') (hd : ∀ k, O k → O1 k → False) (hg : ¬ O1 1) : Hp w' O B m := by
  obtain ⟨A, cap, mb, h⟩ := h
  exact ⟨A, cap, mb, h.keep hk hd hg⟩
theorem HpA.below {w' : World} (h : HpA w O B A cap mb m) (hb : Below w.heap.size w w') : HpA w' O B A cap mb m := h.keep (Keep.of (O := fun _ => False) hb) (fun _ _ h => h) (fun h => h)
theorem Hp.below {w' : World} (h : Hp w O B m) (hb : Below w.heap.size w w') : Hp w' O B m := h.keep (Keep.of (O := fun _ => False) hb) (fun _ _ h => h) (fun h => h)
theorem Hp.wf (h : Hp w O B m) : WF m := h.choose_spec.choose_spec.choose_spec.wf
theorem Hp.lt (h : Hp w O B m) : ∀ k, O k → k < w.heap.size := h.choose_spec.choose_spec.choose_spec.lt
theorem Hp.og (h : Hp w O B m) : ∀ k, O k → 2 ≤ k := h.choose_spec.choose_spec.choose_spec.og
theorem Hp.o1 (h : Hp w O B m) : ¬ O 1 := fun ho => by have := h.og 1 ho; omega
theorem Hp.ob (h : Hp w O B m) : O B := h.choose_spec.choose_spec.choose_spec.ob
theorem Hp.tb (h : Hp w O B m) : Tab w := h.choose_spec.choose_spec.choose_spec.tb
theorem Hp.mono {O' : Nat → Prop} (h : Hp w O B m) (ho : ∀ k, O k → O' k) (hl : ∀ k, O' k → k < w.heap.size) (hg : ∀ k, O' k → 2 ≤ k) : Hp w O' B m := by
  obtain ⟨A, cap, mb, h⟩ := h
  exact ⟨A, cap, mb, h.wf, h.b, h.a, h.s, h.inj, ho _ h.ob, ho _ h.oa, fun k hk => ho _ (h.os k hk), hl, hg, h.tb, h.cp⟩

theorem HpA.c0 (h : HpA w O B A cap mb m) : w.cell? ⟨B, 0, none⟩ = some (.int .i64 m.n) := h.b.cell 0 (by omega)
theorem HpA.c1 (h : HpA w O B A cap mb m) : w.cell? ⟨B, 1, none⟩ = some (.slice (some ⟨A, 0, none⟩) (ords m.n) cap) := h.b.cell 1 (by omega)
theorem HpA.a0 (h : HpA w O B A cap mb m) {k : Nat} (hk : k < ords m.n) : w.cell? ⟨A, k, none⟩ = some (.map (some (mb k))) := h.a.cell k hk
theorem HpA.sb (h : HpA w O B A cap mb m) {k : Nat} (hk : k < ords m.n) : mb k ≠ B ∧ mb k ≠ A := by
  have h0 := h.c0
  have h1 := h.a0 (k := 0) (by have := (h.wf.K).1; omega)
  refine ⟨fun e => ?_, fun e => ?_⟩
  · rw [(h.s k hk).no_cell ⟨B, 0, none⟩ e.symm] at h0; cases h0
  · rw [(h.s k hk).no_cell ⟨A, 0, none⟩ e.symm] at h1; cases h1

/-- One of the sets is written. -/
theorem HpA.turn (h : HpA w O B A cap mb m) {w' : World} {k : Nat} (hk : k < ords m.n) {F' : Nat → Bool} (hg : w.grownBy w' (some (mb k))) (hF : ∀ p, F' p = true → p < m.n) (hs : SetAt w' (mb k) (Bk F' k)) (ho : ∀ j, j ≠ k → ∀ t, Bk F' j t ↔ Bk m.F j t) :
    HpA w' O B A cap mb ⟨m.n, F'⟩ := by
  have hb : ∀ j, j < w.heap.size → j ≠ mb k → w'.heap[j]? = w.heap[j]? := fun j hj hne => hg.block j hj (fun e => by cases e; exact hne rfl)
  have hn := h.sb hk
  refine ⟨⟨h.wf.n1, h.wf.n2, hF⟩, h.b.of_block (hb _ (h.lt _ h.ob) hn.1.symm), h.a.of_block (hb _ (h.lt _ h.oa) hn.2.symm), fun j hj => ?_, h.inj, h.ob, h.oa, h.os, fun j hj => Nat.lt_of_lt_of_le (h.lt j hj) hg.size, h.og, ?_, h.cp⟩
  · by_cases e : j = k
    · subst e; exact hs
    · exact ((h.s j hj).of_block (hb _ (h.s j hj).lt (fun e2 => e (h.inj j k hj hk e2)))).congr (fun t => (ho j e t).symm)
  · refine h.tb.keep (O := fun j => j = mb k) ⟨hg.os, hg.tape, hg.output, hg.size, fun j hj hne => hb j hj hne⟩ (fun e => ?_)
    have := h.og _ (h.os k hk)
    omega
end

/-- What a call that changes a heap leaves. -/
def Mut (w : World) (O : Nat → Prop) (B : Nat) (m : Mo) (w' : World) : Prop := Hp w' O B m ∧ Keep O w w'
theorem Mut.same {w w' : World} {O : Nat → Prop} {B : Nat} {m : Mo} (h : Hp w O B m) (hb : Below w.heap.size w w') : Mut w O B m w' := ⟨h.below hb, Keep.of hb⟩
theorem Mut.trans {w w1 w2 : World} {O : Nat → Prop} {B : Nat} {m1 m2 : Mo} (h : Mut w O B m1 w1) (k : Mut w1 O B m2 w2) : Mut w O B m2 w2 := ⟨k.1, h.2.trans k.2⟩
theorem Mut.after {w w1 w2 : World} {O : Nat → Prop} {B : Nat} {m : Mo} (hb : Below w.heap.size w w1) (h : Mut w1 O B m w2) : Mut w O B m w2 := ⟨h.1, (Keep.of hb).trans h.2⟩
theorem Mut.then {w w1 w2 : World} {O : Nat → Prop} {B : Nat} {m : Mo} (h : Mut w O B m w1) (hb : Below w1.heap.size w1 w2) : Mut w O B m w2 := ⟨h.1.below hb, h.2.trans (Keep.of hb)⟩
/-- Behind what changes a heap that was made since w, all that lay before is as it was. -/
theorem Mut.bel {w W W' : World} {O : Nat → Prop} {B : Nat} {m : Mo} (h : Mut W O B m W') (hb : Below w.heap.size w W) (hO : ∀ k, O k → w.heap.size ≤ k) : Below w.heap.size w W' := hb.trans (h.2.below hb.size hO)

end Go.Proofs.YtnmejilpifmlnaaDoor
