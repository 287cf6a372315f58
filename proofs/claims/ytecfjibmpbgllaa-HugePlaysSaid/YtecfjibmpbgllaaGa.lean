/- The reference's tracker: its leaves. -/
import Derived.Test.YtecfjibmpbgllaaXa
namespace Go.Proofs.Ytecfjibmpbgllaa
open Go.RowKit

/-- The reference's tracker in memory: its own block B, its pages' states in block A. -/
structure RfA (w : World) (O : Nat → Prop) (B A cap : Nat) (m : Mo) : Prop where
  wf : WF m
  b : Cl w B 1 (fun _ => .slice (some ⟨A, 0, none⟩) (16 * m.h) cap)
  a : Cl w A (16 * m.h) (fun i => .int .i64 (m.S i))
  ob : O B
  oa : O A
  lt : ∀ k, O k → k < w.heap.size
  ab : A ≠ B
  cp : 16 * m.h ≤ cap

def Rf (w : World) (O : Nat → Prop) (B : Nat) (m : Mo) : Prop := ∃ A cap, RfA w O B A cap m

section
variable {w w' : World} {O O1 O' : Nat → Prop} {B A cap : Nat} {m : Mo}
theorem RfA.keep (h : RfA w O B A cap m) (hk : Keep O1 w w') (hd : ∀ k, O k → O1 k → False) : RfA w' O B A cap m := by
  have hb : ∀ k, O k → w'.heap[k]? = w.heap[k]? := fun k ho => hk.block k (h.lt k ho) (fun hx => hd k ho hx)
  exact ⟨h.wf, h.b.of_block (hb _ h.ob), h.a.of_block (hb _ h.oa), h.ob, h.oa, fun k ho => Nat.lt_of_lt_of_le (h.lt k ho) hk.size, h.ab, h.cp⟩
theorem Rf.keep (h : Rf w O B m) (hk : Keep O1 w w') (hd : ∀ k, O k → O1 k → False) : Rf w' O B m := by
  obtain ⟨A, cap, h⟩ := h
  exact ⟨A, cap, h.keep hk hd⟩
theorem RfA.below (h : RfA w O B A cap m) (hb : Below w.heap.size w w') : RfA w' O B A cap m := h.keep (Keep.of (O := fun _ => False) hb) (fun _ _ h => h)
theorem Rf.below (h : Rf w O B m) (hb : Below w.heap.size w w') : Rf w' O B m := h.keep (Keep.of (O := fun _ => False) hb) (fun _ _ h => h)
theorem RfA.mono (h : RfA w O B A cap m) (ho : ∀ k, O k → O' k) (hl : ∀ k, O' k → k < w.heap.size) : RfA w O' B A cap m :=
  ⟨h.wf, h.b, h.a, ho _ h.ob, ho _ h.oa, hl, h.ab, h.cp⟩
theorem Rf.mono (h : Rf w O B m) (ho : ∀ k, O k → O' k) (hl : ∀ k, O' k → k < w.heap.size) : Rf w O' B m := by
  obtain ⟨A, cap, h⟩ := h
  exact ⟨A, cap, h.mono ho hl⟩
theorem Rf.wf (h : Rf w O B m) : WF m := h.choose_spec.choose_spec.wf
theorem Rf.lt (h : Rf w O B m) : ∀ k, O k → k < w.heap.size := h.choose_spec.choose_spec.lt
theorem Rf.ob (h : Rf w O B m) : O B := h.choose_spec.choose_spec.ob
theorem RfA.c0 (h : RfA w O B A cap m) : w.cell? ⟨B, 0, none⟩ = some (.slice (some ⟨A, 0, none⟩) (16 * m.h) cap) := h.b.cell 0 (by omega)
theorem RfA.at (h : RfA w O B A cap m) {i : Nat} (hi : i < 16 * m.h) : w.cell? ⟨A, i, none⟩ = some (.int .i64 (m.S i)) := h.a.cell i hi
theorem RfA.fr (h : RfA w O B A cap m) {i : Nat} (hi : i < 16 * m.h) : w.frozen? ⟨A, i, none⟩ = false := h.a.free i hi
end

/-- What a call that changes a tracker leaves. -/
def RMut (w : World) (O : Nat → Prop) (B : Nat) (m : Mo) (w' : World) : Prop := Rf w' (Ext O w w') B m ∧ Keep O w w'

theorem RMut.same {w w' : World} {O : Nat → Prop} {B : Nat} {m : Mo} (h : Rf w O B m) (hb : Below w.heap.size w w') : RMut w O B m w' :=
  ⟨(h.below hb).mono (fun _ hk => .inl hk) (Ext.lt h.lt hb.size), Keep.of hb⟩
theorem RMut.trans {w w1 w2 : World} {O : Nat → Prop} {B : Nat} {m1 m2 : Mo} (h : RMut w O B m1 w1) (k : RMut w1 (Ext O w w1) B m2 w2) : RMut w O B m2 w2 :=
  ⟨by rw [← ext_ext h.2.size k.2.size]; exact k.1, h.2.trans k.2⟩
/-- A step that makes memory alone, then a call. -/
theorem RMut.after {w w1 w2 : World} {O : Nat → Prop} {B : Nat} {m : Mo} (hb : Below w.heap.size w w1) (h : RMut w1 O B m w2) : RMut w O B m w2 := by
  refine ⟨h.1.mono (fun k hk => ?_) (fun k hk => ?_), (Keep.of hb).trans (h.2.mono fun _ _ hk => .inl hk)⟩
  · have := hb.size
    rcases hk with hk | hk
    · exact .inl hk
    · exact .inr (by omega)
  · rcases hk with hk | hk
    · exact h.1.lt k (.inl hk)
    · exact hk.2
theorem RMut.then {w w1 w2 : World} {O : Nat → Prop} {B : Nat} {m : Mo} (h : RMut w O B m w1) (hb : Below w1.heap.size w1 w2) : RMut w O B m w2 := h.trans (RMut.same h.1 hb)

set_option maxHeartbeats 400000 in
theorem rmade_any {O : Nat → Prop} {B : Nat} {m : Mo} {w : World} (h : Rf w O B m) : Calls Try.prog 41 #[.pointer (some ⟨B, 0, none⟩)] w fun e w' => e = .returned (.bool true) ∧ w = w' := by
  obtain ⟨A, cap, h⟩ := h
  have c0 := h.c0
  have hn := h.wf.h1
  have hn2 := h.wf.h2
  clear h
  go_enter Try.func41, Try.ntmps41
  go_wp2
  go_ret
  exact ⟨ret_bool (by simp; omega), rfl⟩

set_option maxHeartbeats 800000 in
theorem rof_any {O : Nat → Prop} {B : Nat} {m : Mo} {w : World} (g v : Nat) (h : Rf w O B m) (hg : g < m.h) :
    Calls Try.prog 68 #[.pointer (some ⟨B, 0, none⟩), .int .i64 g, .int .i64 v] w fun e w' => e = .returned (.int .i64 ((cnt m.S v (16 * g) 16 : Nat) : Int)) ∧ w = w' := by
  obtain ⟨A, cap, h⟩ := h
  have c0 := h.c0
  have HS := Lib.hid h
  have h2 := h.wf.h2
  have hg2 : g < 64 := by omega
  have HG := Lib.hid hg
  obtain ⟨n, hn⟩ : ∃ n, n = 16 * m.h := ⟨_, rfl⟩
  rw [← hn] at c0
  have hn2 : n ≤ 1024 := by omega
  have hgn : 16 * g + 16 ≤ n := by omega
  have HCV := Lib.hid (fun t => cnt_le m.S v (16 * g) t)
  clear hn h h2 hg
  go_enter Try.func68, Try.ntmps68
  go_wp2
  go_loop [7, 8] (fun c i => ∃ t : Nat, t ≤ 16 ∧ i = .int .i64 ((16 * g + t : Nat) : Int) ∧ c = .int .i64 ((cnt m.S v (16 * g) t : Nat) : Int)) (fun _ i => 16 * g + 16 - (intOf i).toNat)
  case atStart => exact ⟨0, by omega, by congr 1; omega, rfl⟩
  case round =>
    obtain ⟨t, ht, rfl, rfl⟩ := hrel
    by_cases hlt : t < 16
    · have g0 := HS.out.at (i := 16 * g + t) (by have := HG.out; omega)
      have hs3 := HS.out.wf.s3 (16 * g + t)
      have hc := HCV.out t
      by_cases he : m.S (16 * g + t) = v
      · have HC := Lib.hid (cnt_hit (S := m.S) (s := v) (a := 16 * g) (k := t) he)
        have q : (((m.S (16 * g + t) : Nat) : Int) == (v : Int)) = true := by simp [he]
        clear he
        generalize m.S (16 * g + t) = x at g0 q hs3
        generalize cnt m.S v (16 * g) t = C at *
        go_wp2
        go_round
        case rel => exact ⟨t + 1, by omega, by congr 1, by rw [HC.out]; go_num⟩
        case measure => simp [intOf]; omega
      · have HC := Lib.hid (cnt_miss (S := m.S) (s := v) (a := 16 * g) (k := t) he)
        have q : (((m.S (16 * g + t) : Nat) : Int) == (v : Int)) = false := by simp only [beq_eq_false_iff_ne]; omega
        clear he
        generalize m.S (16 * g + t) = x at g0 q hs3
        generalize cnt m.S v (16 * g) t = C at *
        go_wp2
        go_round
        case rel => exact ⟨t + 1, by omega, by congr 1, by rw [HC.out]⟩
        case measure => simp [intOf]; omega
    · obtain rfl : t = 16 := by omega
      go_wp2
      go_ret
      exact ⟨rfl, rfl⟩
set_option maxHeartbeats 400000 in
theorem rthere_any {O : Nat → Prop} {B : Nat} {m : Mo} {w : World} (g : Int) (h : Rf w O B m) :
    Calls Try.prog 63 #[.pointer (some ⟨B, 0, none⟩), .int .i64 g] w fun e w' => e = .returned (.bool (hasM m g)) ∧ w = w' := by
  obtain ⟨A, cap, h⟩ := h
  have c0 := h.c0
  have hn2 := h.wf.h2
  have hq : ((16 * m.h : Nat) : Int) / 16 = m.h := by omega
  have HQ := Lib.hid hq
  clear h hq
  by_cases h0 : 0 ≤ g
  · by_cases h1 : g < m.h
    · have e : hasM m g = true := decide_eq_true ⟨h0, h1⟩
      rw [e]
      clear e
      generalize m.h = H at *
      have hd : decide (g < ((16 * H : Nat) : Int) / 16) = true := decide_eq_true (by omega)
      go_enter Try.func63, Try.ntmps63
      go_wp2
      go_ret
      exact ⟨ret_bool (by first | rfl | (simp; omega)), rfl⟩
    · have e : hasM m g = false := decide_eq_false (fun h => h1 h.2)
      rw [e]
      clear e
      generalize m.h = H at *
      have hd : decide (g < ((16 * H : Nat) : Int) / 16) = false := decide_eq_false (by omega)
      go_enter Try.func63, Try.ntmps63
      go_wp2
      go_ret
      exact ⟨ret_bool (by first | rfl | (simp; omega)), rfl⟩
  · have e : hasM m g = false := decide_eq_false (fun h => h0 h.1)
    rw [e]
    clear e
    generalize m.h = H at *
    go_enter Try.func63, Try.ntmps63
    go_wp2
    go_ret
    exact ⟨rfl, rfl⟩

end Go.Proofs.Ytecfjibmpbgllaa
