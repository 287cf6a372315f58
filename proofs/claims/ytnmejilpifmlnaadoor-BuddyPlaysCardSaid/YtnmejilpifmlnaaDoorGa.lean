/- The document's own heap: what lies in memory, and its small functions. -/
import Derived.Test.YtnmejilpifmlnaaDoorNa
namespace Go.Proofs.YtnmejilpifmlnaaDoor
open Go.RowKit

/-- The document's heap in memory: its own block B, its pages in block A. -/
structure RfA (w : World) (O : Nat → Prop) (B A cap : Nat) (m : Mo) : Prop where
  wf : WF m
  b : Cl w B 1 (fun _ => .slice (some ⟨A, 0, none⟩) m.n cap)
  a : Cl w A m.n (fun p => .bool (m.F p))
  ne : A ≠ B
  ob : O B
  oa : O A
  lt : ∀ k, O k → k < w.heap.size
def Rf (w : World) (O : Nat → Prop) (B : Nat) (m : Mo) : Prop := ∃ A cap, RfA w O B A cap m
theorem Rf.keep {w w' : World} {O O1 : Nat → Prop} {B : Nat} {m : Mo} (h : Rf w O B m) (hk : Keep O1 w w') (hd : ∀ k, O k → O1 k → False) : Rf w' O B m := by
  obtain ⟨A, cap, h⟩ := h
  have hb : ∀ k, O k → w'.heap[k]? = w.heap[k]? := fun k ho => hk.block k (h.lt k ho) (fun hx => hd k ho hx)
  exact ⟨A, cap, h.wf, h.b.of_block (hb _ h.ob), h.a.of_block (hb _ h.oa), h.ne, h.ob, h.oa, fun k ho => Nat.lt_of_lt_of_le (h.lt k ho) hk.size⟩
theorem Rf.below {w w' : World} {O : Nat → Prop} {B : Nat} {m : Mo} (h : Rf w O B m) (hb : Below w.heap.size w w') : Rf w' O B m := h.keep (Keep.of (O := fun _ => False) hb) (fun _ _ h => h)
def RMut (w : World) (O : Nat → Prop) (B : Nat) (m : Mo) (w' : World) : Prop := Rf w' O B m ∧ Keep O w w'
theorem RMut.same {w w' : World} {O : Nat → Prop} {B : Nat} {m : Mo} (h : Rf w O B m) (hb : Below w.heap.size w w') : RMut w O B m w' := ⟨h.below hb, Keep.of hb⟩
theorem RMut.trans {w w1 w2 : World} {O : Nat → Prop} {B : Nat} {m1 m2 : Mo} (h : RMut w O B m1 w1) (k : RMut w1 O B m2 w2) : RMut w O B m2 w2 := ⟨k.1, h.2.trans k.2⟩

set_option maxHeartbeats 400000 in
theorem rmade_any {O : Nat → Prop} {B : Nat} {m : Mo} {w : World} (h : Rf w O B m) : Calls Tryd.prog 35 #[.pointer (some ⟨B, 0, none⟩)] w fun e w' => e = .returned (.bool true) ∧ w = w' := by
  obtain ⟨A, cap, h⟩ := h
  have c0 := h.b.cell 0 (by omega)
  have hn1 := h.wf.n1
  have hn2 := h.wf.n2
  clear h
  generalize m.n = n at *
  go_enter Tryd.func35, Tryd.ntmps35
  go_wp2
  go_ret
  exact ⟨ret_bool (by simp; omega), rfl⟩

set_option maxHeartbeats 1000000 in
theorem rin_any {O : Nat → Prop} {B : Nat} {m : Mo} {w : World} (s k : Int) (h : Rf w O B m) (hs : InR s) : Calls Tryd.prog 57 #[.pointer (some ⟨B, 0, none⟩), .int .i64 s, .int .i64 k] w fun e w' => e = .returned (.bool (inM m s k)) ∧ w = w' := by
  obtain ⟨A, cap, h⟩ := h
  have c0 := h.b.cell 0 (by omega)
  have hn1 := h.wf.n1
  have hn2 := h.wf.n2
  have hI : inM m s k = decide (0 ≤ s ∧ 1 ≤ k ∧ s < m.n ∧ k ≤ m.n - s) := rfl
  rw [hI]
  clear h hI
  generalize m.n = n at *
  obtain ⟨hs1, hs2⟩ := hs
  by_cases h1 : 0 ≤ s
  · by_cases h2 : 1 ≤ k
    · by_cases h3 : s < n
      · have hw : IntKind.i64.wrap ((n : Int) - s) = (n : Int) - s := IntWalk.i64_in _ (by omega)
        go_enter Tryd.func57, Tryd.ntmps57
        go_wp2_with fail
        go_ret
        exact ⟨ret_bool (by simp [h1, h2, h3]), rfl⟩
      · go_enter Tryd.func57, Tryd.ntmps57
        go_wp2_with fail
        go_ret
        exact ⟨ret_bool (by simp; omega), rfl⟩
    · go_enter Tryd.func57, Tryd.ntmps57
      go_wp2_with fail
      go_ret
      exact ⟨ret_bool (by simp; omega), rfl⟩
  · go_enter Tryd.func57, Tryd.ntmps57
    go_wp2_with fail
    go_ret
    exact ⟨ret_bool (by simp; omega), rfl⟩

/-- Whether the pages of a run are all as asked. -/
def sameM (m : Mo) (s k : Nat) (v : Bool) : Bool := decide (∀ j : Nat, j < k → m.F (s + j) = v)

set_option maxHeartbeats 1000000 in
theorem rall_any {O : Nat → Prop} {B : Nat} {m : Mo} {w : World} (s k : Nat) (v : Bool) (h : Rf w O B m) (hk : s + k ≤ m.n) : Calls Tryd.prog 58 #[.pointer (some ⟨B, 0, none⟩), .int .i64 s, .int .i64 k, .bool v] w fun e w' => e = .returned (.bool (sameM m s k v)) ∧ w = w' := by
  obtain ⟨A, cap, h⟩ := h
  have HA := Lib.hid h
  have hn2 := h.wf.n2
  have c0 := h.b.cell 0 (by omega)
  obtain ⟨n, hn⟩ : ∃ n, m.n = n := ⟨_, rfl⟩
  rw [hn] at hk hn2 c0
  have HN := Lib.hid hn
  have hw : IntKind.i64.wrap ((s : Int) + (k : Int)) = (s : Int) + (k : Int) := IntWalk.i64_in _ (by omega)
  clear h hn
  go_enter Tryd.func58, Tryd.ntmps58
  go_wp2
  go_loopw [9] (fun i wr => ∃ j : Nat, j ≤ k ∧ i = .int .i64 ((s + j : Nat) : Int) ∧ (∀ t, t < j → m.F (s + t) = v) ∧ w = wr) (fun i _ => s + k - (intOf i).toNat)
  case atStart => exact ⟨0, by omega, by simp, fun t ht => absurd ht (Nat.not_lt_zero _), rfl⟩
  case round =>
    obtain ⟨j, hj, rfl, hall, rfl⟩ := hrel
    have HAL := Lib.hid hall
    clear hall
    by_cases hlt : j < k
    · have ca := HA.out.a.cell (s + j) (by have := HN.out; omega)
      have hsn : s + j < n := by omega
      generalize hf : m.F (s + j) = f at ca
      have HF := Lib.hid hf
      clear hf
      obtain ⟨q, hq⟩ : ∃ q, s + j = q := ⟨_, rfl⟩
      rw [hq] at ca hsn
      have HQ := Lib.hid hq
      have hql : (q : Int) < (s : Int) + (k : Int) := by omega
      rw [hq]
      clear hq
      by_cases hfv : f = v
      · subst hfv
        cases f
        all_goals
          go_wp2_with fail
          go_roundw
          case rel => exact ⟨j + 1, by omega, by rw [← Nat.add_assoc, HQ.out]; go_num, fun t ht => by
            by_cases e : t = j
            · subst e; exact HF.out
            · exact HAL.out t (by omega), trivial⟩
          case measure => simp [intOf]; omega
      · have HR := Lib.hid (show sameM m s k v = false from decide_eq_false (fun h => hfv (HF.out.symm.trans (h j hlt))))
        cases f <;> cases v
        all_goals first
          | exact absurd rfl hfv
          | (go_wp2_with fail
             go_ret
             exact ⟨ret_bool HR.out.symm, rfl⟩)
    · obtain rfl : j = k := by omega
      have HR := Lib.hid (show sameM m s j v = true from decide_eq_true HAL.out)
      go_wp2_with fail
      go_ret
      exact ⟨ret_bool HR.out.symm, rfl⟩

end Go.Proofs.YtnmejilpifmlnaaDoor
