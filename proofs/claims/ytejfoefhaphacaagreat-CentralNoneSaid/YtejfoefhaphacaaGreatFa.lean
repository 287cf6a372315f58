/- The statements' helpers: calls in memory, great, do, made. -/
import Derived.Test.YtejfoefhaphacaaGreatCm
namespace Go.Proofs.YtejfoefhaphacaaGreat
open Go.RowKit Go.Sort Go.Shelf Go.Lib

def Yes (w : World) (e : Ending) (w' : World) : Prop := e = .returned (.bool true) ∧ Below w.heap.size w w'
/-- A call of the statements: its kind, its number, its list. -/
structure Ak where
  k : Int
  a : Int
  l : List Int
/-- .. as a value. -/
structure AkV (w : World) (N : Nat) (x : Ak) (u : Value) : Prop where
  k : InR x.k
  a : InR x.a
  n : x.l.length ≤ 9223372036854775807
  v : ∃ (A : Option Addr) (c : Nat), u = .slice A x.l.length c ∧ ZAt w N A x.l
theorem AkV.below {w w' : World} {N : Nat} {x : Ak} {u : Value} (h : AkV w N x u) (hb : Below N w w') : AkV w' N x u := by
  obtain ⟨A, c, e, hz⟩ := h.v
  exact ⟨h.k, h.a, h.n, A, c, e, hz.below hb⟩
theorem AkV.more {w : World} {N N' : Nat} {x : Ak} {u : Value} (h : AkV w N x u) (hN : N ≤ N') : AkV w N' x u := by
  obtain ⟨A, c, e, hz⟩ := h.v
  exact ⟨h.k, h.a, h.n, A, c, e, hz.more hN⟩
/-- The slice's cells hold the calls, in blocks below N. -/
def ActsAt (w : World) (N : Nat) (A : Option Addr) (l : List Ak) : Prop :=
  ∀ (k : Nat) (x : Ak), l[k]? = some x → ∃ (b o : Nat) (u : Value), A = some ⟨b, o, none⟩ ∧ b < N ∧ w.cell? ⟨b, o + k * 3, none⟩ = some (.int .i64 x.k) ∧ w.cell? ⟨b, o + k * 3 + 1, none⟩ = some (.int .i64 x.a) ∧ w.cell? ⟨b, o + k * 3 + 2, none⟩ = some u ∧ AkV w N x u
theorem ActsAt.below {w w' : World} {N : Nat} {A : Option Addr} {l : List Ak} (h : ActsAt w N A l) (hb : Below N w w') : ActsAt w' N A l := fun k x hk => by
  obtain ⟨b, o, u, e, hB, h1, h2, h3, h4⟩ := h k x hk
  exact ⟨b, o, u, e, hB, (hb.cell (p := ⟨b, _, none⟩) hB).trans h1, (hb.cell (p := ⟨b, _, none⟩) hB).trans h2, (hb.cell (p := ⟨b, _, none⟩) hB).trans h3, h4.below hb⟩
theorem ActsAt.more {w : World} {N N' : Nat} {A : Option Addr} {l : List Ak} (h : ActsAt w N A l) (hN : N ≤ N') : ActsAt w N' A l := fun k x hk => by
  obtain ⟨b, o, u, e, hB, h1, h2, h3, h4⟩ := h k x hk
  exact ⟨b, o, u, e, Nat.lt_of_lt_of_le hB hN, h1, h2, h3, h4.more hN⟩
theorem ActsAt.nil (w : World) (N : Nat) (A : Option Addr) : ActsAt w N A [] := fun k x hk => by simp at hk

def grB (l : List Ak) : Bool := l.any (fun x => decide (60 < x.l.length)) || decide (40 < l.length)
theorem grB_no {l : List Ak} (h : grB l = false) : l.length ≤ 40 ∧ ∀ (k : Nat) (x : Ak), l[k]? = some x → x.l.length ≤ 60 := by
  unfold grB at h
  rw [Bool.or_eq_false_iff, List.any_eq_false, decide_eq_false_iff_not] at h
  refine ⟨by omega, fun k x hk => ?_⟩
  have := h.1 x (List.mem_of_getElem? hk)
  simp only [decide_eq_true_eq] at this
  omega
set_option maxRecDepth 100000 in
set_option maxHeartbeats 1000000 in
theorem great_any {N : Nat} (A : Option Addr) (c : Nat) (l : List Ak) (w : World) (hl : l.length ≤ 9223372036854775807) (hA : ActsAt w N A l) : Calls Tryz.prog 5 #[.slice A l.length c] w fun e w' => e = .returned (.bool (grB l)) ∧ w = w' := by
  obtain ⟨n, hn⟩ : ∃ n, l.length = n := ⟨_, rfl⟩
  have HN := Lib.hid hn
  have HA := Lib.hid hA
  rw [hn] at hl ⊢
  clear hA hn
  go_enter Tryz.func5, Tryz.ntmps5
  go_wp2
  go_loopw [3] (fun i wr => ∃ k : Nat, k ≤ n ∧ i = .int .i64 k ∧ w = wr ∧ (l.take k).any (fun x => decide (60 < x.l.length)) = false) (fun i _ => n - (intOf i).toNat)
  case atStart => exact ⟨0, by omega, rfl, rfl, rfl⟩
  case round =>
    obtain ⟨k, hk, rfl, rfl, hno⟩ := hrel
    have HNO := Lib.hid hno
    by_cases hlt : k < n
    · obtain ⟨x, hx⟩ : ∃ x, l[k]? = some x := ⟨_, List.getElem?_eq_getElem (by have := HN.out; omega)⟩
      obtain ⟨b, o, u, rfl, _, _, _, h3, hv⟩ := HA.out k x hx
      obtain ⟨B, cb, rfl, _⟩ := hv.v
      have hxn := hv.n
      have HX := Lib.hid hx
      clear hv hno hx
      by_cases h60 : 60 < x.l.length
      · have HR := Lib.hid (show grB l = true from by
          unfold grB
          rw [Bool.or_eq_true]
          exact .inl (List.any_eq_true.2 ⟨x, List.mem_of_getElem? HX.out, by simpa using h60⟩))
        generalize x.l.length = xn at *
        have d1 : decide (60 < (xn : Int)) = true := decide_eq_true (by omega)
        clear h60
        go_wp2_with fail
        go_ret
        exact ⟨ret_bool HR.out.symm, rfl⟩
      · have HT := Lib.hid (show (l.take (k + 1)).any (fun x => decide (60 < x.l.length)) = false from by
          rw [List.take_add_one, HX.out, List.any_append, HNO.out]; simp; omega)
        generalize x.l.length = xn at *
        have d1 : decide (60 < (xn : Int)) = false := decide_eq_false (by omega)
        clear h60
        go_wp2_with fail
        go_roundw
        case rel => exact ⟨k + 1, by omega, by go_num, trivial, HT.out⟩
        case measure => simp [intOf]; omega
    · obtain rfl : k = n := by omega
      have HR := Lib.hid (show grB l = decide (40 < k) from by
        unfold grB
        rw [List.take_of_length_le (by rw [HN.out]; exact Nat.le_refl _)] at hno
        rw [hno, Bool.false_or, HN.out])
      clear hno
      go_wp2_with fail
      go_ret
      refine ⟨ret_bool ?_, rfl⟩
      rw [HR.out]
      simp
      omega

/-! What a call returns as its error, and leaves. -/
def dkE (om : Option Ce) (x : Ak) : Int := if x.k = 0 then adE om x.a else if x.k = 1 then tkEr om x.a else if x.k = 2 then ptEr om x.l else if x.k = 4 then fdE om x.a else if x.k = 5 then liE om x.a else 0
def dkD (om : Option Ce) (x : Ak) : Option Ce := if x.k = 0 then adD om x.a else if x.k = 1 then tkDr om x.a else if x.k = 2 then ptDr om x.l else if x.k = 3 then swD om else om
theorem newA3 (w : World) (a b c : Value) (t : TypeId) : ∃ W0, w.alloc (.cells #[a, b, c] t) = W0 ∧ Below w.heap.size w W0 ∧ w.heap.size < W0.heap.size ∧
    W0.cell? ⟨w.heap.size, 0, none⟩ = some a ∧ W0.cell? ⟨w.heap.size, 1, none⟩ = some b ∧ W0.cell? ⟨w.heap.size, 2, none⟩ = some c := by
  refine ⟨_, rfl, bnew _ _, by simp, ?_, ?_, ?_⟩ <;> go_simp









































































def runO (om : Option Ce) (l : List Ak) : Option Ce := l.foldl dkD om
theorem runO_take {om : Option Ce} {l : List Ak} {k : Nat} {x : Ak} (h : l[k]? = some x) : runO om (l.take (k + 1)) = dkD (runO om (l.take k)) x := by
  unfold runO
  rw [List.take_add_one, h, List.foldl_append]; rfl
theorem dkD_some (c : Ce) (x : Ak) : ∃ L, dkD (some c) x = some { c with L := L } := by
  have hself : some c = some { c with L := c.L } := rfl
  by_cases h0 : x.k = 0
  · rw [show dkD (some c) x = adD (some c) x.a from if_pos h0]
    simp only [adD]
    repeat' split
    all_goals first | exact ⟨_, rfl⟩ | exact ⟨c.L, rfl⟩
  · by_cases h1 : x.k = 1
    · rw [show dkD (some c) x = tkDr (some c) x.a from by unfold dkD; rw [if_neg h0, if_pos h1]]
      simp only [tkDr]
      repeat' split
      all_goals first | exact ⟨_, rfl⟩ | exact ⟨c.L, rfl⟩
    · by_cases h2 : x.k = 2
      · rw [show dkD (some c) x = ptDr (some c) x.l from by unfold dkD; rw [if_neg h0, if_neg h1, if_pos h2]]
        simp only [ptDr]
        repeat' split
        all_goals first | exact ⟨_, rfl⟩ | exact ⟨c.L, rfl⟩
      · by_cases h3 : x.k = 3
        · rw [show dkD (some c) x = swD (some c) from by unfold dkD; rw [if_neg h0, if_neg h1, if_neg h2, if_pos h3]]
          exact ⟨_, rfl⟩
        · rw [show dkD (some c) x = some c from by unfold dkD; rw [if_neg h0, if_neg h1, if_neg h2, if_neg h3]]
          exact ⟨c.L, hself⟩
theorem dkD_none (x : Ak) : dkD none x = none := by
  unfold dkD
  split
  · rfl
  · split
    · rfl
    · split
      · rfl
      · split <;> rfl
theorem runO_some (l : List Ak) : ∀ c : Ce, ∃ L, runO (some c) l = some { c with L := L } := by
  induction l with
  | nil => intro c; exact ⟨c.L, rfl⟩
  | cons x t ih =>
    intro c
    obtain ⟨L, hL⟩ := dkD_some c x
    obtain ⟨M, hM⟩ := ih { c with L := L }
    exact ⟨M, by show runO (dkD (some c) x) t = _; rw [hL, hM]⟩
theorem runO_none (l : List Ak) : runO none l = none := by
  induction l with
  | nil => rfl
  | cons x t ih => show runO (dkD none x) t = none; rw [dkD_none, ih]

/-- A list of one's own, since w0. -/
def LOwn (r : Bool) (w0 w : World) (v : Value) (om : Option Ce) : Prop := LOb r w (Nw w0 w) v om ∧ Below w0.heap.size w0 w
section
variable {r : Bool} {w00 w0 w w' : World} {v : Value} {om o1 o2 : Option Ce}
theorem LOwn.step (h : LOwn r w0 w v o1) (hM : LMut r w (Nw w0 w) v o2 w') : LOwn r w0 w' v o2 := by
  have s0 := h.2.size
  have s1 := hM.2.size
  refine ⟨hM.1.mono (fun k hk => ?_) (fun k hk => hk.2), h.2.trans (hM.2.below s0 (fun _ hk => hk.1))⟩
  rcases hk with hk | hk
  · exact ⟨hk.1, by have := hk.2; omega⟩
  · exact ⟨by omega, hk.2⟩
theorem LOwn.below (h : LOwn r w0 w v om) (hb : Below w.heap.size w w') : LOwn r w0 w' v om := h.step (LMut.same h.1 hb)
theorem LOwn.later (h : LOwn r w0 w v om) (hb : Below w00.heap.size w00 w0) : LOwn r w00 w v om :=
  ⟨h.1.mono (fun _ hk => ⟨Nat.le_trans hb.size hk.1, hk.2⟩) (fun _ hk => hk.2), hb.trans (h.2.mono hb.size)⟩
end
/-- What made leaves. -/
def MadeP (w : World) (om : Option Ce) (e : Ending) (w' : World) : Prop := ∃ v, e = .returned (.pointer v) ∧ LOwn false w w' (.pointer v) om ∧ (om = none ↔ v = none)
theorem lob_ptr {r : Bool} {w : World} {O : Nat → Prop} {v : Value} {c : Ce} (h : LOb r w O v (some c)) : ∃ B, v = .pointer (some ⟨B, 0, none⟩) := by
  obtain ⟨B, _, _, e, _⟩ := h
  exact ⟨B, e⟩
























































end Go.Proofs.YtejfoefhaphacaaGreat
