/- Package transfer and its document: made, New, Len, Low. -/
import Derived.Test.YtaefhhkdfepgmaaMc
namespace Go.Proofs.Ytaefhhkdfepgmaa
open Go.RowKit

set_option maxHeartbeats 400000 in
theorem cmade_any {O : Nat → Prop} {B : Nat} {V : Value} {X : List Bt} {c : Tc} {w : World} (h : TcA false w O B V X c) : Calls Try.prog 29 #[.pointer (some ⟨B, 0, none⟩)] w fun e w' => e = .returned (.bool true) ∧ w = w' := by
  have c0 := h.cells.1
  have hz := h.wf.b1
  clear h
  go_enter Try.func29, Try.ntmps29
  go_wp2
  go_ret
  exact ⟨ret_bool (by simp; omega), rfl⟩
set_option maxHeartbeats 400000 in
theorem cmade_no {O : Nat → Prop} {v : Value} {w : World} (h : NoT w O v) : Calls Try.prog 29 #[v] w fun e w' => e = .returned (.bool false) ∧ w = w' := by
  rcases h with rfl | ⟨B, rfl, _, hc⟩
  · go_enter Try.func29, Try.ntmps29
    go_wp2
    go_ret
    exact ⟨rfl, rfl⟩
  · go_enter Try.func29, Try.ntmps29
    go_wp2
    go_ret
    exact ⟨rfl, rfl⟩
set_option maxHeartbeats 400000 in
theorem dmade_any {O : Nat → Prop} {B : Nat} {V : Value} {X : List Bt} {c : Tc} {w : World} (h : TcA true w O B V X c) : Calls Try.prog 31 #[.pointer (some ⟨B, 0, none⟩)] w fun e w' => e = .returned (.bool true) ∧ w = w' := by
  have c0 := h.cells.1
  have hz := h.wf.b1
  clear h
  go_enter Try.func31, Try.ntmps31
  go_wp2
  go_ret
  exact ⟨ret_bool (by simp; omega), rfl⟩
set_option maxHeartbeats 400000 in
theorem dmade_no {O : Nat → Prop} {v : Value} {w : World} (h : NoT w O v) : Calls Try.prog 31 #[v] w fun e w' => e = .returned (.bool false) ∧ w = w' := by
  rcases h with rfl | ⟨B, rfl, _, hc⟩
  · go_enter Try.func31, Try.ntmps31
    go_wp2
    go_ret
    exact ⟨rfl, rfl⟩
  · go_enter Try.func31, Try.ntmps31
    go_wp2
    go_ret
    exact ⟨rfl, rfl⟩

/-- What New of a cache leaves. -/
def TNewP (r : Bool) (w : World) (om : Option Tc) (err : Int) (e : Ending) (w' : World) : Prop :=
  ∃ v, e = .returned (.tuple #[.pointer v, .int .i64 err]) ∧ TOb r w' (Nw w w') (.pointer v) om ∧ (om = none ↔ v = none) ∧ Below w.heap.size w w'
theorem TNewP.bad {r : Bool} {w w' : World} {err : Int} {e : Ending} (he : e = .returned (.tuple #[.pointer none, .int .i64 err])) (hb : Below w.heap.size w w') : TNewP r w none err e w' :=
  ⟨_, he, ⟨.inl rfl, fun _ hk => hk.2⟩, ⟨fun _ => rfl, fun _ => rfl⟩, hb⟩
theorem newT_ok {b r' : Int} (r : Bool) (w : World) (t : TypeId) (h : okN b r' = true) : TNewP r w (newT b r') 0 (.returned (.tuple #[.pointer (some ⟨w.heap.size, 0, none⟩), .int .i64 0])) (w.alloc (.cells #[.int .i64 b, .int .i64 r', tF r ⟨b.toNat, r'.toNat, 0, []⟩ (.slice none 0 0) 2, tF r ⟨b.toNat, r'.toNat, 0, []⟩ (.slice none 0 0) 3] t)) := by
  rw [show newT b r' = some ⟨b.toNat, r'.toNat, 0, []⟩ from if_pos h]
  have hwf := newT_wf h
  unfold okN at h
  rw [decide_eq_true_eq] at h
  refine ⟨_, rfl, ⟨w.heap.size, .slice none 0 0, [], rfl, hwf, ?_, OffR.nil _ _, (fun g hg => nomatch hg), ⟨Nat.le_refl _, by simp⟩, (fun x hx => by cases hx), (fun x hx => by cases hx), rfl, fun k hk => hk.2⟩, ⟨(fun h => nomatch h), (fun h => nomatch h)⟩, bnew _ _⟩
  refine (Cl.new w).congr fun i hi => ?_
  have e1 : ((b.toNat : Nat) : Int) = b := by omega
  have e2 : ((r'.toNat : Nat) : Int) = r' := by omega
  have : i = 0 ∨ i = 1 ∨ i = 2 ∨ i = 3 := by omega
  rcases this with rfl | rfl | rfl | rfl <;> cases r <;> simp [tF, e1, e2]

set_option maxRecDepth 100000 in
set_option maxHeartbeats 1000000 in
theorem cNew_any (b r : Int) (w : World) : Calls Try.prog 11 #[.int .i64 b, .int .i64 r] w (TNewP false w (newT b r) (newE b r)) := by
  by_cases hok : okN b r = true
  · have e1 : newE b r = 0 := if_pos hok
    have HF := Lib.hid (newT_ok false w 42 hok)
    rw [e1]
    unfold okN at hok
    rw [decide_eq_true_eq] at hok
    obtain ⟨h1, h2, h3, h4⟩ := hok
    clear e1
    go_enter Try.func11, Try.ntmps11
    go_wp2
    go_ret2
    exact HF.out
  · have e1 : newE b r = 1 := if_neg hok
    have e2 : newT b r = none := if_neg hok
    rw [e1, e2]
    unfold okN at hok
    rw [decide_eq_true_eq] at hok
    clear e1 e2
    have hc : b < 1 ∨ (1 ≤ b ∧ 32 < b) ∨ (1 ≤ b ∧ b ≤ 32 ∧ r < 0) ∨ (1 ≤ b ∧ b ≤ 32 ∧ 0 ≤ r ∧ 8 < r) := by omega
    clear hok
    rcases hc with h1 | ⟨h1, h2⟩ | ⟨h1, h2, h3⟩ | ⟨h1, h2, h3, h4⟩
    all_goals
      go_enter Try.func11, Try.ntmps11
      go_wp2
      go_ret2
      exact TNewP.bad rfl (Below.refl _ _)
set_option maxRecDepth 100000 in
set_option maxHeartbeats 1000000 in
theorem dNew_any (b r : Int) (w : World) : Calls Try.prog 12 #[.int .i64 b, .int .i64 r] w (TNewP true w (newT b r) (newE b r)) := by
  by_cases hok : okN b r = true
  · have e1 : newE b r = 0 := if_pos hok
    have HF := Lib.hid (newT_ok true w 60 hok)
    rw [e1]
    unfold okN at hok
    rw [decide_eq_true_eq] at hok
    obtain ⟨h1, h2, h3, h4⟩ := hok
    clear e1
    go_enter Try.func12, Try.ntmps12
    go_wp2
    go_ret2
    exact HF.out
  · have e1 : newE b r = 1 := if_neg hok
    have e2 : newT b r = none := if_neg hok
    rw [e1, e2]
    unfold okN at hok
    rw [decide_eq_true_eq] at hok
    clear e1 e2
    have hc : b < 1 ∨ (1 ≤ b ∧ 32 < b) ∨ (1 ≤ b ∧ b ≤ 32 ∧ r < 0) ∨ (1 ≤ b ∧ b ≤ 32 ∧ 0 ≤ r ∧ 8 < r) := by omega
    clear hok
    rcases hc with h1 | ⟨h1, h2⟩ | ⟨h1, h2, h3⟩ | ⟨h1, h2, h3, h4⟩
    all_goals
      go_enter Try.func12, Try.ntmps12
      go_wp2
      go_ret2
      exact TNewP.bad rfl (Below.refl _ _)

set_option maxHeartbeats 1000000 in
theorem cLen_any {O : Nat → Prop} {v : Value} {om : Option Tc} {w : World} (h : TOb false w O v om) : Calls Try.prog 25 #[v] w fun e w' => e = .returned (.int .i64 (lenT om : Nat)) ∧ w = w' := by
  cases om with
  | none =>
    have HM := Lib.hid (cmade_no h.1)
    clear h
    go_enter Try.func25, Try.ntmps25
    go_wp2_with (go_at_call 29; refine HM.out.mono ?_; rintro e w1 ⟨rfl, rfl⟩)
    go_ret
    exact ⟨rfl, rfl⟩
  | some c =>
    obtain ⟨B, V, X, rfl, h⟩ := h
    have HM := Lib.hid (cmade_any h)
    obtain ⟨A, cap, rfl, h1, h2⟩ := h.form
    have c3 := h.pc.2
    have HL := Lib.hid h.len
    clear h
    go_enter Try.func25, Try.ntmps25
    go_wp2_with (go_at_call 29; refine HM.out.mono ?_; rintro e w1 ⟨rfl, rfl⟩)
    go_ret
    exact ⟨ret_int (by rw [HL.out]; rfl), rfl⟩
set_option maxHeartbeats 1000000 in
theorem dLen_any {O : Nat → Prop} {v : Value} {om : Option Tc} {w : World} (h : TOb true w O v om) : Calls Try.prog 36 #[v] w fun e w' => e = .returned (.int .i64 (lenT om : Nat)) ∧ w = w' := by
  cases om with
  | none =>
    have HM := Lib.hid (dmade_no h.1)
    clear h
    go_enter Try.func36, Try.ntmps36
    go_wp2_with (go_at_call 31; refine HM.out.mono ?_; rintro e w1 ⟨rfl, rfl⟩)
    go_ret
    exact ⟨rfl, rfl⟩
  | some c =>
    obtain ⟨B, V, X, rfl, h⟩ := h
    have HM := Lib.hid (dmade_any h)
    obtain ⟨A, cap, rfl, h1, h2⟩ := h.form
    have c3 := h.dc.1
    have HL := Lib.hid h.len
    clear h
    go_enter Try.func36, Try.ntmps36
    go_wp2_with (go_at_call 31; refine HM.out.mono ?_; rintro e w1 ⟨rfl, rfl⟩)
    go_ret
    exact ⟨ret_int (by rw [HL.out]; rfl), rfl⟩
set_option maxHeartbeats 1000000 in
theorem cLow_any {O : Nat → Prop} {v : Value} {om : Option Tc} {w : World} (h : TOb false w O v om) : Calls Try.prog 27 #[v] w fun e w' => e = .returned (.int .i64 (lowT om : Nat)) ∧ w = w' := by
  cases om with
  | none =>
    have HM := Lib.hid (cmade_no h.1)
    clear h
    go_enter Try.func27, Try.ntmps27
    go_wp2_with (go_at_call 29; refine HM.out.mono ?_; rintro e w1 ⟨rfl, rfl⟩)
    go_ret
    exact ⟨rfl, rfl⟩
  | some c =>
    obtain ⟨B, V, X, rfl, h⟩ := h
    have HM := Lib.hid (cmade_any h)
    have c2 := h.pc.1
    clear h
    go_enter Try.func27, Try.ntmps27
    go_wp2_with (go_at_call 29; refine HM.out.mono ?_; rintro e w1 ⟨rfl, rfl⟩)
    go_ret
    exact ⟨rfl, rfl⟩
set_option maxHeartbeats 1000000 in
theorem dLow_any {O : Nat → Prop} {v : Value} {om : Option Tc} {w : World} (h : TOb true w O v om) : Calls Try.prog 37 #[v] w fun e w' => e = .returned (.int .i64 (lowT om : Nat)) ∧ w = w' := by
  cases om with
  | none =>
    have HM := Lib.hid (dmade_no h.1)
    clear h
    go_enter Try.func37, Try.ntmps37
    go_wp2_with (go_at_call 31; refine HM.out.mono ?_; rintro e w1 ⟨rfl, rfl⟩)
    go_ret
    exact ⟨rfl, rfl⟩
  | some c =>
    obtain ⟨B, V, X, rfl, h⟩ := h
    have HM := Lib.hid (dmade_any h)
    have c2 := h.dc.2
    clear h
    go_enter Try.func37, Try.ntmps37
    go_wp2_with (go_at_call 31; refine HM.out.mono ?_; rintro e w1 ⟨rfl, rfl⟩)
    go_ret
    exact ⟨rfl, rfl⟩
end Go.Proofs.Ytaefhhkdfepgmaa
