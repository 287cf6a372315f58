/- The document's cache: made, has, wrong, Len, Limit, Low. -/
import Derived.Test.YticcjelaenhigaaPb
namespace Go.Proofs.Yticcjelaenhigaa
open Go.RowKit Go.Lib

section
variable {w : World} {O : Nat → Prop} {B t l i j ct cl ci cj : Nat} {V : Nat → Value} {c : Tc}
theorem RcA.cells (h : RcA w O B t l i j ct cl ci cj V c) : w.cell? ⟨B, 0, none⟩ = some (.slice (some ⟨t, 0, none⟩) c.K.length ct) ∧ w.cell? ⟨B, 1, none⟩ = some (.int .i64 c.g) ∧ w.cell? ⟨B, 2, none⟩ = some (.slice (some ⟨l, 0, none⟩) c.K.length cl) ∧ w.cell? ⟨B, 3, none⟩ = some (.slice (some ⟨i, 0, none⟩) c.K.length ci) ∧ w.cell? ⟨B, 4, none⟩ = some (.slice (some ⟨j, 0, none⟩) c.K.length cj) :=
  ⟨h.hd.cell 0 (by omega), h.hd.cell 1 (by omega), h.hd.cell 2 (by omega), h.hd.cell 3 (by omega), h.hd.cell 4 (by omega)⟩
theorem RcA.limc (h : RcA w O B t l i j ct cl ci cj V c) {x : Nat} {k : Kl} (hk : c.K[x]? = some k) : w.cell? ⟨i, x, none⟩ = some (.int .i64 (k.lim : Nat)) := by
  have := h.lim.cell x (List.getElem?_eq_some_iff.1 hk).1
  rw [hk] at this
  exact this
theorem RcA.lowc (h : RcA w O B t l i j ct cl ci cj V c) {x : Nat} {k : Kl} (hk : c.K[x]? = some k) : w.cell? ⟨j, x, none⟩ = some (.int .i64 (k.lo : Nat)) := by
  have := h.low.cell x (List.getElem?_eq_some_iff.1 hk).1
  rw [hk] at this
  exact this
theorem RcA.listc (h : RcA w O B t l i j ct cl ci cj V c) {x : Nat} {k : Kl} (hk : c.K[x]? = some k) : ∃ A cp, w.cell? ⟨l, x, none⟩ = some (.slice A k.l.length cp) ∧ V x = .slice A k.l.length cp ∧ k.l.length ≤ cp ∧ cp ≤ maxLen ∧ IAt (fun g => O g ∧ g ≠ B ∧ g ≠ l ∧ g ≠ i ∧ g ≠ j) w A k.l := by
  obtain ⟨A, cp, e, h1, h2, h3⟩ := h.each x k hk
  have := h.ll.cell x (List.getElem?_eq_some_iff.1 hk).1
  rw [e] at this
  exact ⟨A, cp, this, e, h1, h2, h3⟩
end
theorem dno {w : World} {O : Nat → Prop} {v : Value} (h : TOb true w O v none) : v = .pointer none := by
  rcases h.1 with h | ⟨h, _⟩
  · exact h
  · cases h
set_option maxHeartbeats 1000000 in
theorem dmade_no (w : World) : Calls Try.prog 43 #[.pointer none] w fun e w' => e = .returned (.bool false) ∧ w = w' := by
  go_enter Try.func43, Try.ntmps43
  go_wp2
  go_ret
  exact ⟨rfl, rfl⟩
set_option maxHeartbeats 1000000 in
theorem dmade_yes {w : World} {O : Nat → Prop} {B t l i j ct cl ci cj : Nat} {V : Nat → Value} {c : Tc} (h : RcA w O B t l i j ct cl ci cj V c) : Calls Try.prog 43 #[.pointer (some ⟨B, 0, none⟩)] w fun e w' => e = .returned (.bool true) ∧ w = w' := by
  have c0 := h.cells.1
  have h1 := h.wf.n1
  generalize c.K.length = n at *
  have d1 : decide ((0 : Int) < (n : Int)) = true := decide_eq_true (by omega)
  have d2 : decide (0 < n) = true := decide_eq_true (by omega)
  clear h
  go_enter Try.func43, Try.ntmps43
  go_wp2
  go_ret
  exact ⟨rfl, rfl⟩
theorem atK_isSome (c : Tc) (x : Int) : (atK (some c) x).isSome = decide (0 ≤ x ∧ x < (c.K.length : Int)) := by
  unfold atK
  dsimp only
  split
  · by_cases h : x.toNat < c.K.length
    · rw [List.getElem?_eq_getElem h]
      exact (decide_eq_true ⟨by omega, by omega⟩).symm
    · rw [List.getElem?_eq_none_iff.2 (by omega)]
      exact (decide_eq_false (by omega)).symm
  · exact (decide_eq_false (by omega)).symm
set_option maxHeartbeats 2000000 in
theorem dhas_any {O : Nat → Prop} {v : Value} {om : Option Tc} {w : World} (x : Int) (h : TOb true w O v om) : Calls Try.prog 71 #[v, .int .i64 x] w fun e w' => e = .returned (.bool (atK om x).isSome) ∧ w = w' := by
  cases om with
  | none =>
    obtain rfl := dno h
    have HM := Lib.hid (dmade_no w)
    clear h
    go_enter Try.func71, Try.ntmps71
    go_wp2_with (go_at_call 43; refine HM.out.mono ?_; rintro e w1 ⟨rfl, rfl⟩)
    go_ret
    exact ⟨rfl, rfl⟩
  | some c =>
    rw [atK_isSome]
    obtain ⟨B, t, l, i, j, ct, cl, ci, cj, V, rfl, h⟩ := h
    have HM := Lib.hid (dmade_yes h)
    have c0 := h.cells.1
    generalize c.K.length = n at *
    clear h
    by_cases h0 : 0 ≤ x
    · by_cases h1 : x < (n : Int)
      · rw [decide_eq_true (show 0 ≤ x ∧ x < (n : Int) from ⟨h0, h1⟩)]
        have d1 : decide (0 ≤ x) = true := decide_eq_true h0
        have d2 : decide (x < (n : Int)) = true := decide_eq_true h1
        clear h0 h1
        go_enter Try.func71, Try.ntmps71
        go_wp2_with (go_at_call 43; refine HM.out.mono ?_; rintro e w1 ⟨rfl, rfl⟩)
        go_ret
        exact ⟨rfl, rfl⟩
      · rw [decide_eq_false (show ¬ (0 ≤ x ∧ x < (n : Int)) from fun h => h1 h.2)]
        have d1 : decide (0 ≤ x) = true := decide_eq_true h0
        have d2 : decide (x < (n : Int)) = false := decide_eq_false h1
        clear h0 h1
        go_enter Try.func71, Try.ntmps71
        go_wp2_with (go_at_call 43; refine HM.out.mono ?_; rintro e w1 ⟨rfl, rfl⟩)
        go_ret
        exact ⟨rfl, rfl⟩
    · rw [decide_eq_false (show ¬ (0 ≤ x ∧ x < (n : Int)) from fun h => h0 h.1)]
      have d1 : decide (0 ≤ x) = false := decide_eq_false h0
      clear h0
      go_enter Try.func71, Try.ntmps71
      go_wp2_with (go_at_call 43; refine HM.out.mono ?_; rintro e w1 ⟨rfl, rfl⟩)
      go_ret
      exact ⟨rfl, rfl⟩
set_option maxHeartbeats 2000000 in
theorem dwrong_any {O : Nat → Prop} {v : Value} {om : Option Tc} {w : World} (x : Int) (h : TOb true w O v om) : Calls Try.prog 69 #[v, .int .i64 x] w fun e w' => e = .returned (.int .i64 (errK om x)) ∧ w = w' := by
  have HH := Lib.hid (dhas_any x h)
  cases om with
  | none =>
    obtain rfl := dno h
    have HM := Lib.hid (dmade_no w)
    clear h
    go_enter Try.func69, Try.ntmps69
    go_wp2_with (go_at_call 43; refine HM.out.mono ?_; rintro e w1 ⟨rfl, rfl⟩)
    go_ret
    exact ⟨rfl, rfl⟩
  | some c =>
    obtain ⟨B, t, l, i, j, ct, cl, ci, cj, V, rfl, h⟩ := h
    have HM := Lib.hid (dmade_yes h)
    clear h
    by_cases hs : (atK (some c) x).isSome = true
    · rw [hs] at HH
      rw [show errK (some c) x = 0 from if_pos hs]
      clear hs
      go_enter Try.func69, Try.ntmps69
      go_wp2_with (first | (go_at_call 43; refine HM.out.mono ?_; rintro e w1 ⟨rfl, rfl⟩) | (go_at_call 71; refine HH.out.mono ?_; rintro e w1 ⟨rfl, rfl⟩))
      go_ret
      exact ⟨rfl, rfl⟩
    · rw [show errK (some c) x = 1 from if_neg hs]
      rw [show (atK (some c) x).isSome = false from by simpa using hs] at HH
      clear hs
      go_enter Try.func69, Try.ntmps69
      go_wp2_with (first | (go_at_call 43; refine HM.out.mono ?_; rintro e w1 ⟨rfl, rfl⟩) | (go_at_call 71; refine HH.out.mono ?_; rintro e w1 ⟨rfl, rfl⟩))
      go_ret
      exact ⟨rfl, rfl⟩
set_option maxHeartbeats 2000000 in
theorem dLen_any {O : Nat → Prop} {v : Value} {om : Option Tc} {w : World} {x : Int} (h : TOb true w O v om) : Calls Try.prog 50 #[v, .int .i64 x] w fun e w' => e = .returned (.int .i64 (lenT om x : Nat)) ∧ w = w' := by
  have HH := Lib.hid (dhas_any x h)
  cases hk : atK om x with
  | none =>
    rw [hk] at HH
    have HL := Lib.hid (show lenT om x = 0 from by unfold lenT; rw [hk])
    have HH2 := Lib.hid (show Calls Try.prog 71 #[v, .int .i64 x] w fun e w' => e = .returned (.bool false) ∧ w = w' from HH.out)
    clear h hk HH
    go_enter Try.func50, Try.ntmps50
    go_wp2_with (go_at_call 71; refine HH2.out.mono ?_; rintro e w1 ⟨rfl, rfl⟩)
    go_ret
    exact ⟨ret_int (by rw [HL.out]; rfl), rfl⟩
  | some k =>
    rw [hk] at HH
    have HH2 := Lib.hid (show Calls Try.prog 71 #[v, .int .i64 x] w fun e w' => e = .returned (.bool true) ∧ w = w' from HH.out)
    cases om with
    | none => cases hk
    | some c =>
      obtain ⟨B, t, l, i, j, ct, cl, ci, cj, V, rfl, h⟩ := h
      obtain ⟨h0, _, hK, _⟩ := h.wf.at hk
      have HL := Lib.hid (show lenT (some c) x = k.l.length from by unfold lenT; rw [hk])
      obtain ⟨n, rfl⟩ : ∃ n : Nat, x = (n : Int) := ⟨x.toNat, by omega⟩
      rw [Int.toNat_natCast] at hK
      have hn := (List.getElem?_eq_some_iff.1 hK).1
      have c0 := h.cells.2.2.1
      obtain ⟨A, cp, c1, _, _, _, _⟩ := h.listc hK
      generalize c.K.length = N at *
      have hn2 : (n : Int) < (N : Int) := by omega
      have hn0 : (0 : Int) ≤ (n : Int) := by omega
      clear h hk hK h0 HH
      go_enter Try.func50, Try.ntmps50
      go_wp2_with (go_at_call 71; refine HH2.out.mono ?_; rintro e w1 ⟨rfl, rfl⟩)
      go_ret
      exact ⟨ret_int (by rw [HL.out]), rfl⟩
set_option maxHeartbeats 2000000 in
theorem dLimit_any {O : Nat → Prop} {v : Value} {om : Option Tc} {w : World} {x : Int} (h : TOb true w O v om) : Calls Try.prog 51 #[v, .int .i64 x] w fun e w' => e = .returned (.int .i64 (limT om x : Nat)) ∧ w = w' := by
  have HH := Lib.hid (dhas_any x h)
  cases hk : atK om x with
  | none =>
    rw [hk] at HH
    have HL := Lib.hid (show limT om x = 0 from by unfold limT; rw [hk])
    have HH2 := Lib.hid (show Calls Try.prog 71 #[v, .int .i64 x] w fun e w' => e = .returned (.bool false) ∧ w = w' from HH.out)
    clear h hk HH
    go_enter Try.func51, Try.ntmps51
    go_wp2_with (go_at_call 71; refine HH2.out.mono ?_; rintro e w1 ⟨rfl, rfl⟩)
    go_ret
    exact ⟨ret_int (by rw [HL.out]; rfl), rfl⟩
  | some k =>
    rw [hk] at HH
    have HH2 := Lib.hid (show Calls Try.prog 71 #[v, .int .i64 x] w fun e w' => e = .returned (.bool true) ∧ w = w' from HH.out)
    cases om with
    | none => cases hk
    | some c =>
      obtain ⟨B, t, l, i, j, ct, cl, ci, cj, V, rfl, h⟩ := h
      obtain ⟨h0, _, hK, _⟩ := h.wf.at hk
      have HL := Lib.hid (show limT (some c) x = k.lim from by unfold limT; rw [hk])
      obtain ⟨n, rfl⟩ : ∃ n : Nat, x = (n : Int) := ⟨x.toNat, by omega⟩
      rw [Int.toNat_natCast] at hK
      have hn := (List.getElem?_eq_some_iff.1 hK).1
      have c0 := h.cells.2.2.2.1
      have c1 := h.limc hK
      generalize c.K.length = N at *
      have hn2 : (n : Int) < (N : Int) := by omega
      have hn0 : (0 : Int) ≤ (n : Int) := by omega
      clear h hk hK h0 HH
      go_enter Try.func51, Try.ntmps51
      go_wp2_with (go_at_call 71; refine HH2.out.mono ?_; rintro e w1 ⟨rfl, rfl⟩)
      go_ret
      exact ⟨ret_int (by rw [HL.out]), rfl⟩
set_option maxHeartbeats 2000000 in
theorem dLow_any {O : Nat → Prop} {v : Value} {om : Option Tc} {w : World} {x : Int} (h : TOb true w O v om) : Calls Try.prog 52 #[v, .int .i64 x] w fun e w' => e = .returned (.int .i64 (lowT om x : Nat)) ∧ w = w' := by
  have HH := Lib.hid (dhas_any x h)
  cases hk : atK om x with
  | none =>
    rw [hk] at HH
    have HL := Lib.hid (show lowT om x = 0 from by unfold lowT; rw [hk])
    have HH2 := Lib.hid (show Calls Try.prog 71 #[v, .int .i64 x] w fun e w' => e = .returned (.bool false) ∧ w = w' from HH.out)
    clear h hk HH
    go_enter Try.func52, Try.ntmps52
    go_wp2_with (go_at_call 71; refine HH2.out.mono ?_; rintro e w1 ⟨rfl, rfl⟩)
    go_ret
    exact ⟨ret_int (by rw [HL.out]; rfl), rfl⟩
  | some k =>
    rw [hk] at HH
    have HH2 := Lib.hid (show Calls Try.prog 71 #[v, .int .i64 x] w fun e w' => e = .returned (.bool true) ∧ w = w' from HH.out)
    cases om with
    | none => cases hk
    | some c =>
      obtain ⟨B, t, l, i, j, ct, cl, ci, cj, V, rfl, h⟩ := h
      obtain ⟨h0, _, hK, _⟩ := h.wf.at hk
      have HL := Lib.hid (show lowT (some c) x = k.lo from by unfold lowT; rw [hk])
      obtain ⟨n, rfl⟩ : ∃ n : Nat, x = (n : Int) := ⟨x.toNat, by omega⟩
      rw [Int.toNat_natCast] at hK
      have hn := (List.getElem?_eq_some_iff.1 hK).1
      have c0 := h.cells.2.2.2.2
      have c1 := h.lowc hK
      generalize c.K.length = N at *
      have hn2 : (n : Int) < (N : Int) := by omega
      have hn0 : (0 : Int) ≤ (n : Int) := by omega
      clear h hk hK h0 HH
      go_enter Try.func52, Try.ntmps52
      go_wp2_with (go_at_call 71; refine HH2.out.mono ?_; rintro e w1 ⟨rfl, rfl⟩)
      go_ret
      exact ⟨ret_int (by rw [HL.out]), rfl⟩
end Go.Proofs.Yticcjelaenhigaa
