/- Take: which block it chooses; calls that are refused at once. -/
import Derived.Test.YtnmejilpifmlnaaDoorLh
namespace Go.Proofs.YtnmejilpifmlnaaDoor
open Go.RowKit Go.Shelf

/-- The lowest free block of the least order from k on, of f orders, of which there is one: its order and its start. -/
def bst (F : Nat → Bool) (n : Nat) : Nat → Nat → Option (Nat × Nat)
  | _, 0 => none
  | k, f + 1 => match bl F n k with
    | [] => bst F n (k + 1) f
    | s :: _ => some (k, s)
theorem bst_nil {F : Nat → Bool} {n k f : Nat} (h : bl F n k = []) : bst F n k (f + 1) = bst F n (k + 1) f := by
  show (match bl F n k with | [] => _ | s :: _ => _) = _
  rw [h]
theorem bst_cons {F : Nat → Bool} {n k f s : Nat} {r : List Nat} (h : bl F n k = s :: r) : bst F n k (f + 1) = some (k, s) := by
  show (match bl F n k with | [] => _ | s :: _ => _) = _
  rw [h]
theorem bst_none {F : Nat → Bool} {n : Nat} : ∀ {f k : Nat}, (∀ j, k ≤ j → bl F n j = []) → bst F n k f = none
  | 0, _, _ => rfl
  | f + 1, k, h => by rw [bst_nil (h k (Nat.le_refl _))]; exact bst_none (fun j hj => h j (by omega))
theorem bst_bk {F : Nat → Bool} {n : Nat} (hF : ∀ p, F p = true → p < n) : ∀ {f k : Nat} {r : Nat × Nat}, bst F n k f = some r → Bk F r.1 r.2 ∧ k ≤ r.1
  | 0, _, _, h => by cases h
  | f + 1, k, r, h => by
    cases hb : bl F n k with
    | nil =>
      rw [bst_nil hb] at h
      have := bst_bk hF h
      exact ⟨this.1, by omega⟩
    | cons s t =>
      rw [bst_cons hb] at h
      cases h
      exact ⟨(bl_mem hF).1 (by rw [hb]; exact List.mem_cons_self ..), Nat.le_refl _⟩

def okA (p a : Int) : Bool := decide (1 ≤ p ∧ p ≤ 1024) && powI a
theorem pow_bd {a : Int} (h : powI a = true) : 1 ≤ a ∧ a ≤ 1024 := by
  have := of_decide_eq_true h
  omega
def tkB (m : Mo) (p a : Int) : Option (Nat × Nat) := bst m.F m.n (lv (max p a).toNat) (11 - lv (max p a).toNat)
def tkE (m : Mo) (p a : Int) : Int := if okA p a = true then (match tkB m p a with | none => 6 | some _ => 0) else 1
def tkV (m : Mo) (p a : Int) : Int := if okA p a = true then (match tkB m p a with | none => 0 | some r => (r.2 : Int)) else 0
def tkD (m : Mo) (p a : Int) : Mo := if okA p a = true then (match tkB m p a with | none => m | some r => ⟨m.n, setF m.F r.2 (r.2 + p.toNat) false⟩) else m
theorem tk_bad {m : Mo} {p a : Int} (h : okA p a = false) : tkE m p a = 1 ∧ tkV m p a = 0 ∧ tkD m p a = m := by
  unfold tkE tkV tkD
  rw [h]
  exact ⟨rfl, rfl, rfl⟩
theorem tk_full {m : Mo} {p a : Int} (h : okA p a = true) (hb : tkB m p a = none) : tkE m p a = 6 ∧ tkV m p a = 0 ∧ tkD m p a = m := by
  unfold tkE tkV tkD
  rw [h, hb]
  exact ⟨rfl, rfl, rfl⟩
theorem tk_yes {m : Mo} {p a : Int} {r : Nat × Nat} (h : okA p a = true) (hb : tkB m p a = some r) : tkE m p a = 0 ∧ tkV m p a = r.2 ∧ tkD m p a = ⟨m.n, setF m.F r.2 (r.2 + p.toNat) false⟩ := by
  unfold tkE tkV tkD
  rw [h, hb]
  exact ⟨rfl, rfl, rfl⟩

/-- What Take returns. -/
def TakePost (w : World) (O : Nat → Prop) (B : Nat) (m : Mo) (p a : Int) (e : Ending) (w' : World) : Prop := e = .returned (.tuple #[.int .i64 (tkV m p a), .int .i64 (tkE m p a)]) ∧ Mut w O B (tkD m p a) w'

set_option maxRecDepth 100000 in
set_option maxHeartbeats 1000000 in
theorem Take_bad {O : Nat → Prop} {B : Nat} {m : Mo} {w : World} (p a : Int) (h : Hp w O B m) (hok : okA p a = false) :
    Calls Tryd.prog 25 #[.pointer (some ⟨B, 0, none⟩), .int .i64 p, .int .i64 a] w (TakePost w O B m p a) := by
  have HM := Lib.hid (made_any (h.below (by exact ((((Below.refl w.heap.size w).alloc (Nat.le_refl _) (.cells #[.pointer (some ⟨B, 0, none⟩)] 25)).alloc (by simp) (.cells #[.int .i64 p] 3)).alloc (by simp; omega) (.cells #[.int .i64 0] 3)).alloc (by simp; omega) (.cells #[.int .i64 0] 26))))
  have HE := Lib.hid (tk_bad (m := m) hok)
  have HH := Lib.hid h
  have fin : ∀ W', Below w.heap.size w W' → TakePost w O B m p a (.returned (.tuple #[.int .i64 0, .int .i64 1])) W' := fun W' hb => by
    refine ⟨by rw [HE.out.1, HE.out.2.1], ?_⟩
    rw [HE.out.2.2]
    exact Mut.same HH.out hb
  have FIN := Lib.hid fin
  clear h fin
  by_cases h1 : p < 1
  · clear hok
    go_enter Tryd.func25, Tryd.ntmps25
    go_wp2_with (go_at_call 33; refine HM.out.mono ?_; rintro x _ ⟨rfl, rfl⟩)
    refine bodyPost_ret (v := .tuple #[.int .i64 0, .int .i64 1]) (by simp [results, Tryd.results25, go_sem]) rfl (FIN.out _ ?_)
    exact ((((Below.refl w.heap.size w).alloc (Nat.le_refl _) _).alloc (by simp) _).alloc (by simp; omega) _).alloc (by simp; omega) _
  · by_cases h2 : 1024 < p
    · clear hok
      go_enter Tryd.func25, Tryd.ntmps25
      go_wp2_with (go_at_call 33; refine HM.out.mono ?_; rintro x _ ⟨rfl, rfl⟩)
      refine bodyPost_ret (v := .tuple #[.int .i64 0, .int .i64 1]) (by simp [results, Tryd.results25, go_sem]) rfl (FIN.out _ ?_)
      exact ((((Below.refl w.heap.size w).alloc (Nat.le_refl _) _).alloc (by simp) _).alloc (by simp; omega) _).alloc (by simp; omega) _
    · have ha : powI a = false := by
        unfold okA at hok
        rw [decide_eq_true (show 1 ≤ p ∧ p ≤ 1024 by omega)] at hok
        simpa using hok
      have HV := Lib.hid (fun w => valid_any a w)
      rw [ha] at HV
      clear hok ha
      go_enter Tryd.func25, Tryd.ntmps25
      go_wp2_with (first | (go_at_call 33; refine HM.out.mono ?_; rintro x _ ⟨rfl, rfl⟩) | (go_at_call 49; refine (HV.out _).mono ?_; rintro x _ ⟨rfl, rfl⟩))
      refine bodyPost_ret (v := .tuple #[.int .i64 0, .int .i64 1]) (by simp [results, Tryd.results25, go_sem]) rfl (FIN.out _ ?_)
      exact ((((Below.refl w.heap.size w).alloc (Nat.le_refl _) _).alloc (by simp) _).alloc (by simp; omega) _).alloc (by simp; omega) _

end Go.Proofs.YtnmejilpifmlnaaDoor
