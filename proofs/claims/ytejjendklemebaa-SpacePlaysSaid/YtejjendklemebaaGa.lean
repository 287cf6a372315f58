/- The document's own space in memory, and its readers. -/
import Derived.Test.YtejjendklemebaaRc
import Derived.Test.YtejjendklemebaaNa
namespace Go.Proofs.Ytejjendklemebaa
open Go.RowKit

def rfF (S H n cs ch p : Nat) : Nat → Value := fun i => if i = 0 then .slice (some ⟨S, 0, none⟩) n cs else if i = 1 then .slice (some ⟨H, 0, none⟩) (n * 32) ch else .int .i64 p

/-- The document's space in memory: its own block R, the states in block S, the words in block H. -/
structure RfA (w : World) (O : Nat → Prop) (R S H cs ch : Nat) (m : Mo) : Prop where
  wf : WF m
  r : Cl w R 3 (rfF S H m.n cs ch m.pk)
  s : Cl w S m.n (fun k => .int .i64 (m.st k))
  h : Cl w H (m.n * 32) (fun k => .int .i64 (m.hd k))
  oR : O R
  oS : O S
  oH : O H
  lt : ∀ k, O k → k < w.heap.size
  sh : S ≠ H
  sr : S ≠ R
  hr : H ≠ R
def Rf (w : World) (O : Nat → Prop) (R : Nat) (m : Mo) : Prop := ∃ S H cs ch, RfA w O R S H cs ch m

section
variable {w w' : World} {O O1 : Nat → Prop} {R S H cs ch : Nat} {m : Mo}
theorem RfA.keep (h : RfA w O R S H cs ch m) (hk : Keep O1 w w') (hd : ∀ k, O k → O1 k → False) : RfA w' O R S H cs ch m := by
  have hb : ∀ k, O k → w'.heap[k]? = w.heap[k]? := fun k ho => hk.block k (h.lt k ho) (fun hx => hd k ho hx)
  exact ⟨h.wf, h.r.of_block (hb _ h.oR), h.s.of_block (hb _ h.oS), h.h.of_block (hb _ h.oH), h.oR, h.oS, h.oH, fun k ho => Nat.lt_of_lt_of_le (h.lt k ho) hk.size, h.sh, h.sr, h.hr⟩
theorem Rf.keep (h : Rf w O R m) (hk : Keep O1 w w') (hd : ∀ k, O k → O1 k → False) : Rf w' O R m := by
  obtain ⟨S, H, cs, ch, h⟩ := h
  exact ⟨S, H, cs, ch, h.keep hk hd⟩
theorem RfA.below (h : RfA w O R S H cs ch m) (hb : Below w.heap.size w w') : RfA w' O R S H cs ch m := h.keep (Keep.of (O := fun _ => False) hb) (fun _ _ h => h)
theorem Rf.below (h : Rf w O R m) (hb : Below w.heap.size w w') : Rf w' O R m := h.keep (Keep.of (O := fun _ => False) hb) (fun _ _ h => h)
theorem RfA.mono (h : RfA w O R S H cs ch m) (ho : ∀ k, O k → O1 k) (hl : ∀ k, O1 k → k < w.heap.size) : RfA w O1 R S H cs ch m :=
  ⟨h.wf, h.r, h.s, h.h, ho _ h.oR, ho _ h.oS, ho _ h.oH, hl, h.sh, h.sr, h.hr⟩
theorem Rf.mono (h : Rf w O R m) (ho : ∀ k, O k → O1 k) (hl : ∀ k, O1 k → k < w.heap.size) : Rf w O1 R m := by
  obtain ⟨S, H, cs, ch, h⟩ := h
  exact ⟨S, H, cs, ch, h.mono ho hl⟩
theorem Rf.wf (h : Rf w O R m) : WF m := h.choose_spec.choose_spec.choose_spec.choose_spec.wf
theorem Rf.lt (h : Rf w O R m) : ∀ k, O k → k < w.heap.size := h.choose_spec.choose_spec.choose_spec.choose_spec.lt
theorem Rf.oR (h : Rf w O R m) : O R := h.choose_spec.choose_spec.choose_spec.choose_spec.oR
theorem RfA.c0 (h : RfA w O R S H cs ch m) : w.cell? ⟨R, 0, none⟩ = some (.slice (some ⟨S, 0, none⟩) m.n cs) := h.r.cell 0 (by omega)
theorem RfA.c1 (h : RfA w O R S H cs ch m) : w.cell? ⟨R, 1, none⟩ = some (.slice (some ⟨H, 0, none⟩) (m.n * 32) ch) := h.r.cell 1 (by omega)
theorem RfA.c2 (h : RfA w O R S H cs ch m) : w.cell? ⟨R, 2, none⟩ = some (.int .i64 m.pk) := h.r.cell 2 (by omega)
end

/-- What a call that changes the document's space leaves. -/
def RMut (w : World) (O : Nat → Prop) (R : Nat) (m : Mo) (w' : World) : Prop := Rf w' (Ext O w w') R m ∧ Keep O w w'
theorem RMut.same {w w' : World} {O : Nat → Prop} {R : Nat} {m : Mo} (h : Rf w O R m) (hb : Below w.heap.size w w') : RMut w O R m w' :=
  ⟨(h.below hb).mono (fun _ hk => .inl hk) (Ext.lt h.lt hb.size), Keep.of hb⟩
theorem RMut.trans {w w1 w2 : World} {O : Nat → Prop} {R : Nat} {m1 m2 : Mo} (h : RMut w O R m1 w1) (k : RMut w1 (Ext O w w1) R m2 w2) : RMut w O R m2 w2 :=
  ⟨by rw [← ext_ext h.2.size k.2.size]; exact k.1, h.2.trans k.2⟩
theorem RMut.after {w w1 w2 : World} {O : Nat → Prop} {R : Nat} {m : Mo} (hb : Below w.heap.size w w1) (h : RMut w1 O R m w2) : RMut w O R m w2 := by
  refine ⟨h.1.mono (fun k hk => ?_) (fun k hk => ?_), (Keep.of hb).trans (h.2.mono fun _ _ hk => .inl hk)⟩
  · have := hb.size
    rcases hk with hk | hk
    · exact .inl hk
    · exact .inr (by omega)
  · rcases hk with hk | hk
    · exact h.1.lt k (.inl hk)
    · exact hk.2
theorem RMut.then {w w1 w2 : World} {O : Nat → Prop} {R : Nat} {m : Mo} (h : RMut w O R m w1) (hb : Below w1.heap.size w1 w2) : RMut w O R m w2 := h.trans (RMut.same h.1 hb)

set_option maxHeartbeats 400000 in
theorem rmade_any {O : Nat → Prop} {R : Nat} {m : Mo} {w : World} (h : Rf w O R m) : Calls Try.prog 40 #[.pointer (some ⟨R, 0, none⟩)] w fun e w' => e = .returned (.bool true) ∧ w = w' := by
  obtain ⟨S, H, cs, ch, h⟩ := h
  have c0 := h.c0
  have hn := h.wf.n1
  have hn2 := h.wf.n2
  clear h
  go_enter Try.func40, Try.ntmps40
  go_wp2
  go_ret
  exact ⟨ret_bool (by simp; omega), rfl⟩

set_option maxHeartbeats 400000 in
theorem rin_any {O : Nat → Prop} {R : Nat} {m : Mo} {w : World} (s k : Int) (h : Rf w O R m) (hs : -9223372036854775808 ≤ s ∧ s ≤ 9223372036854775807) :
    Calls Try.prog 68 #[.pointer (some ⟨R, 0, none⟩), .int .i64 s, .int .i64 k] w fun e w' => e = .returned (.bool (inM m s k)) ∧ w = w' := by
  obtain ⟨S, H, cs, ch, h⟩ := h
  have c0 := h.c0
  have hn := h.wf.n1
  have hn2 := h.wf.n2
  clear h
  unfold inM
  go_enter Try.func68, Try.ntmps68
  go_wp2
  all_goals
    go_ret
    refine ⟨ret_bool ?_, rfl⟩
    rw [Bool.eq_iff_iff]
    simp only [decide_eq_true_eq, Bool.false_eq_true, false_iff, Bool.and_eq_true]
    omega

set_option maxHeartbeats 800000 in
theorem rhas_all {O : Nat → Prop} {R : Nat} {m : Mo} {w : World} (s k : Nat) (h : Rf w O R m) (hk : s + k ≤ m.n) :
    Calls Try.prog 69 #[.pointer (some ⟨R, 0, none⟩), .int .i64 s, .int .i64 k, .bool true] w fun e w' => e = .returned (.bool (allM m s k)) ∧ w = w' := by
  obtain ⟨S, H, cs, ch, h⟩ := h
  have c0 := h.c0
  have hn2 := h.wf.n2
  have HS := Lib.hid h.s
  clear h
  go_enter Try.func69, Try.ntmps69
  go_wp2
  go_loop [9] (fun i => ∃ q : Nat, q ≤ k ∧ i = .int .i64 ((s + q : Nat) : Int) ∧ (∀ j : Nat, j < q → m.st (s + j) ≠ 0)) (fun i => s + k - (intOf i).toNat)
  case atStart => exact ⟨0, by omega, rfl, fun _ h => absurd h (by omega)⟩
  case round =>
    obtain ⟨q, hq, rfl, hall⟩ := hrel
    have HA := Lib.hid hall
    clear hall
    by_cases hlt : q < k
    · have g0 := HS.out.cell (s + q) (by omega)
      by_cases hz : m.st (s + q) = 0
      · rw [hz] at g0
        have HZ := Lib.hid hz
        clear hz
        go_wp2
        go_ret
        exact ⟨ret_bool (allM_false hlt HZ.out).symm, rfl⟩
      · have HZ := Lib.hid hz
        generalize m.st (s + q) = V at g0 hz
        have z1 : (V == 0) = false := by simpa using hz
        have z2 : (V != 0) = true := by simpa using hz
        clear hz
        go_wp2
        go_round
        case rel => exact ⟨q + 1, by omega, by go_num, fun j hj => (by rcases Nat.lt_or_ge j q with hjk | hjk; exact HA.out j hjk; rw [show j = q from by omega]; exact HZ.out)⟩
        case measure => simp [intOf]; omega
    · obtain rfl : q = k := by omega
      go_wp2
      go_ret
      exact ⟨ret_bool (allM_true HA.out).symm, rfl⟩

set_option maxHeartbeats 800000 in
theorem rhas_none {O : Nat → Prop} {R : Nat} {m : Mo} {w : World} (s k : Nat) (h : Rf w O R m) (hk : s + k ≤ m.n) :
    Calls Try.prog 69 #[.pointer (some ⟨R, 0, none⟩), .int .i64 s, .int .i64 k, .bool false] w fun e w' => e = .returned (.bool (noneM m s k)) ∧ w = w' := by
  obtain ⟨S, H, cs, ch, h⟩ := h
  have c0 := h.c0
  have hn2 := h.wf.n2
  have HS := Lib.hid h.s
  clear h
  go_enter Try.func69, Try.ntmps69
  go_wp2
  go_loop [9] (fun i => ∃ q : Nat, q ≤ k ∧ i = .int .i64 ((s + q : Nat) : Int) ∧ (∀ j : Nat, j < q → m.st (s + j) = 0)) (fun i => s + k - (intOf i).toNat)
  case atStart => exact ⟨0, by omega, rfl, fun _ h => absurd h (by omega)⟩
  case round =>
    obtain ⟨q, hq, rfl, hall⟩ := hrel
    have HA := Lib.hid hall
    clear hall
    by_cases hlt : q < k
    · have g0 := HS.out.cell (s + q) (by omega)
      by_cases hz : m.st (s + q) = 0
      · rw [hz] at g0
        have HZ := Lib.hid hz
        clear hz
        go_wp2
        go_round
        case rel => exact ⟨q + 1, by omega, by go_num, fun j hj => (by rcases Nat.lt_or_ge j q with hjk | hjk; exact HA.out j hjk; rw [show j = q from by omega]; exact HZ.out)⟩
        case measure => simp [intOf]; omega
      · have HZ := Lib.hid hz
        generalize m.st (s + q) = V at g0 hz
        have z1 : (V == 0) = false := by simpa using hz
        have z2 : (V != 0) = true := by simpa using hz
        clear hz
        go_wp2
        go_ret
        exact ⟨ret_bool (noneM_false hlt HZ.out).symm, rfl⟩
    · obtain rfl : q = k := by omega
      go_wp2
      go_ret
      exact ⟨ret_bool (noneM_true HA.out).symm, rfl⟩

end Go.Proofs.Ytejjendklemebaa
