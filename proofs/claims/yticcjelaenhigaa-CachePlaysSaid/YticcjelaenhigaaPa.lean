/- Package cache: made, find, and what asks a list alone. -/
import Derived.Test.YticcjelaenhigaaLj
namespace Go.Proofs.Yticcjelaenhigaa
open Go.RowKit Go.Lib

theorem MpA.length {w : World} {b : Nat} {Q : List Nat} {p : Nat → Nat} (h : MpA w b Q p) (ty : TypeId) : (Builtin.len_ #[41] ty #[.map (some b)]).run Try.prog w = .ok (.int .i64 (Q.length : Nat)) w := by
  obtain ⟨es, clock, hb, h⟩ := h
  simp [Builtin.len_, run_underlying Try.underlying41, MapKept.run_getObj_map hb, Result.andThen, ← h.size, goInt]
section
variable {w w' : World} {O : Nat → Prop} {B M : Nat} {Q : List Nat} {p : Nat → Nat} {F : Nat → Nat → Prop} {v : Value} {c : Tc} {om : Option Tc}
theorem PcA.qlen (h : PcA w O B M Q p F c) : Q.length = c.K.length := by
  have hp : Q.Perm (List.range c.K.length) := (List.perm_ext_iff_of_nodup h.mp.nodup List.nodup_range).2 fun i => by rw [h.q i, List.mem_range]
  rw [hp.length_eq, List.length_range]
theorem PcA.perm (h : PcA w O B M Q p F c) : Q.Perm (List.range c.K.length) := (List.perm_ext_iff_of_nodup h.mp.nodup List.nodup_range).2 fun i => by rw [h.q i, List.mem_range]
theorem PcA.cells (h : PcA w O B M Q p F c) : w.cell? ⟨B, 0, none⟩ = some (.int .i64 c.g) ∧ w.cell? ⟨B, 1, none⟩ = some (.map (some M)) := ⟨h.hd.cell 0 (by omega), h.hd.cell 1 (by omega)⟩
theorem PcA.below (h : PcA w O B M Q p F c) (hb : Below w.heap.size w w') : PcA w' O B M Q p F c := h.keep (Keep.of (O := fun _ => False) hb) (fun _ _ h => h)
set_option maxRecDepth 100000 in
set_option maxHeartbeats 400000 in
theorem cmade_any (h : PcA w O B M Q p F c) : Calls Try.prog 41 #[.pointer (some ⟨B, 0, none⟩)] w fun e w' => e = .returned (.bool true) ∧ w = w' := by
  have c1 := h.cells.2
  have hl := h.mp.length
  have hz : 1 ≤ Q.length := by rw [h.qlen]; exact h.wf.n1
  generalize Q.length = q at *
  clear h
  have d1 : decide ((0 : Int) < (q : Int)) = true := decide_eq_true (by omega)
  go_enter Try.func41, Try.ntmps41
  go_wp2
  go_ret
  exact ⟨ret_bool (by simp; omega), rfl⟩
set_option maxHeartbeats 400000 in
theorem cmade_no (h : NoT false w O v) : Calls Try.prog 41 #[v] w fun e w' => e = .returned (.bool false) ∧ w = w' := by
  rcases h with rfl | ⟨_, B, rfl, _, hc⟩
  · go_enter Try.func41, Try.ntmps41
    go_wp2
    go_ret
    exact ⟨rfl, rfl⟩
  · go_enter Try.func41, Try.ntmps41
    go_wp2
    go_ret
    exact ⟨rfl, rfl⟩

/-- There is no such list. -/
theorem cfind_no {x : Int} (h : TOb false w O v om) (hn : atK om x = none) (hx : InR x) : Calls Try.prog 56 #[v, .int .i64 x] w fun e w' => e = .returned (.tuple #[.pointer none, .int .i64 (errK om x)]) ∧ w = w' := by
  cases om with
  | none =>
    have HM := Lib.hid (cmade_no h.1)
    rw [show errK none x = 5 from rfl]
    clear h hn
    go_enter Try.func56, Try.ntmps56
    go_wp2_with (go_at_call 41; refine HM.out.mono ?_; rintro e w1 ⟨rfl, rfl⟩)
    go_ret2
    exact ⟨rfl, rfl⟩
  | some c =>
    obtain ⟨B, M, Q, p, F, rfl, h⟩ := h
    have HM := Lib.hid (cmade_any h)
    rw [show errK (some c) x = 1 from by unfold errK; rw [hn]; rfl]
    have c1 := h.cells.2
    have hl := h.mp.look_no hx (fun i hi e => by
      have hi' := (h.q i).1 hi
      subst e
      unfold atK at hn
      dsimp only at hn
      rw [if_pos (Int.natCast_nonneg i), Int.toNat_natCast, List.getElem?_eq_getElem hi'] at hn
      cases hn)
    clear h hn
    go_enter Try.func56, Try.ntmps56
    go_wp2_with (go_at_call 41; refine HM.out.mono ?_; rintro e w1 ⟨rfl, rfl⟩)
    go_ret2
    exact ⟨rfl, rfl⟩
theorem cfind_yes {x : Int} {k : Kl} (h : PcA w O B M Q p F c) (hk : atK (some c) x = some k) (hx : InR x) : Calls Try.prog 56 #[.pointer (some ⟨B, 0, none⟩), .int .i64 x] w fun e w' => e = .returned (.tuple #[.pointer (some ⟨p x.toNat, 0, none⟩), .int .i64 0]) ∧ w = w' := by
  obtain ⟨h0, hl, _, _⟩ := h.wf.at hk
  have HM := Lib.hid (cmade_any h)
  have c1 := h.cells.2
  have e : ((x.toNat : Nat) : Int) = x := by omega
  have hlk := h.mp.look (i := x.toNat) (by rw [e]; exact hx) ((h.q _).2 hl)
  rw [e] at hlk
  generalize p x.toNat = px at *
  clear h hk
  go_enter Try.func56, Try.ntmps56
  go_wp2_with (go_at_call 41; refine HM.out.mono ?_; rintro e w1 ⟨rfl, rfl⟩)
  go_ret2
  exact ⟨rfl, rfl⟩
end
theorem errK_ne (om : Option Tc) (x : Int) (h : atK om x = none) : ∃ er, errK om x = er ∧ (er == 0) = false ∧ (er != 0) = true ∧ er ≠ 0 := by
  refine ⟨_, rfl, ?_⟩
  have : errK om x = 5 ∨ errK om x = 1 := by
    cases om with
    | none => exact .inl rfl
    | some c => right; unfold errK; rw [h]; rfl
  rcases this with e | e <;> rw [e] <;> decide

set_option maxHeartbeats 1000000 in
theorem cLen_any {O : Nat → Prop} {v : Value} {om : Option Tc} {w : World} {x : Int} (h : TOb false w O v om) (hx : InR x) : Calls Try.prog 28 #[v, .int .i64 x] w fun e w' => e = .returned (.int .i64 (lenT om x : Nat)) ∧ w = w' := by
  cases hk : atK om x with
  | none =>
    have HF := Lib.hid (cfind_no h hk hx)
    obtain ⟨er, he, e1, e2, _⟩ := errK_ne om x hk
    rw [he] at HF
    have HL := Lib.hid (show lenT om x = 0 from by unfold lenT; rw [hk])
    clear h hk he
    go_enter Try.func28, Try.ntmps28
    go_wp2_with (go_at_call 56; refine HF.out.mono ?_; rintro e w1 ⟨rfl, rfl⟩)
    go_ret
    exact ⟨ret_int (by rw [HL.out]; rfl), rfl⟩
  | some k =>
    cases om with
    | none => cases hk
    | some c =>
      obtain ⟨B, M, Q, p, F, rfl, h⟩ := h
      obtain ⟨_, _, hK, _⟩ := h.wf.at hk
      have HF := Lib.hid (cfind_yes h hk hx)
      have HL := Lib.hid (show lenT (some c) x = k.l.length from by unfold lenT; rw [hk])
      obtain ⟨V, ha⟩ := h.each _ k hK
      obtain ⟨A, cap, rfl, _, _⟩ := ha.form
      have c2 := ha.cells.2.2.1
      generalize p x.toNat = px at *
      clear h hk ha hK
      go_enter Try.func28, Try.ntmps28
      go_wp2_with (go_at_call 56; refine HF.out.mono ?_; rintro e w1 ⟨rfl, rfl⟩)
      go_ret
      exact ⟨ret_int (by rw [HL.out]), rfl⟩
set_option maxHeartbeats 1000000 in
theorem cLimit_any {O : Nat → Prop} {v : Value} {om : Option Tc} {w : World} {x : Int} (h : TOb false w O v om) (hx : InR x) : Calls Try.prog 29 #[v, .int .i64 x] w fun e w' => e = .returned (.int .i64 (limT om x : Nat)) ∧ w = w' := by
  cases hk : atK om x with
  | none =>
    have HF := Lib.hid (cfind_no h hk hx)
    obtain ⟨er, he, e1, e2, _⟩ := errK_ne om x hk
    rw [he] at HF
    have HL := Lib.hid (show limT om x = 0 from by unfold limT; rw [hk])
    clear h hk he
    go_enter Try.func29, Try.ntmps29
    go_wp2_with (go_at_call 56; refine HF.out.mono ?_; rintro e w1 ⟨rfl, rfl⟩)
    go_ret
    exact ⟨ret_int (by rw [HL.out]; rfl), rfl⟩
  | some k =>
    cases om with
    | none => cases hk
    | some c =>
      obtain ⟨B, M, Q, p, F, rfl, h⟩ := h
      obtain ⟨_, _, hK, _⟩ := h.wf.at hk
      have HF := Lib.hid (cfind_yes h hk hx)
      have HL := Lib.hid (show limT (some c) x = k.lim from by unfold limT; rw [hk])
      obtain ⟨V, ha⟩ := h.each _ k hK
      have c2 := ha.cells.2.2.2.1
      generalize p x.toNat = px at *
      clear h hk ha hK
      go_enter Try.func29, Try.ntmps29
      go_wp2_with (go_at_call 56; refine HF.out.mono ?_; rintro e w1 ⟨rfl, rfl⟩)
      go_ret
      exact ⟨ret_int (by rw [HL.out]), rfl⟩
set_option maxHeartbeats 1000000 in
theorem cLow_any {O : Nat → Prop} {v : Value} {om : Option Tc} {w : World} {x : Int} (h : TOb false w O v om) (hx : InR x) : Calls Try.prog 31 #[v, .int .i64 x] w fun e w' => e = .returned (.int .i64 (lowT om x : Nat)) ∧ w = w' := by
  cases hk : atK om x with
  | none =>
    have HF := Lib.hid (cfind_no h hk hx)
    obtain ⟨er, he, e1, e2, _⟩ := errK_ne om x hk
    rw [he] at HF
    have HL := Lib.hid (show lowT om x = 0 from by unfold lowT; rw [hk])
    clear h hk he
    go_enter Try.func31, Try.ntmps31
    go_wp2_with (go_at_call 56; refine HF.out.mono ?_; rintro e w1 ⟨rfl, rfl⟩)
    go_ret
    exact ⟨ret_int (by rw [HL.out]; rfl), rfl⟩
  | some k =>
    cases om with
    | none => cases hk
    | some c =>
      obtain ⟨B, M, Q, p, F, rfl, h⟩ := h
      obtain ⟨_, _, hK, _⟩ := h.wf.at hk
      have HF := Lib.hid (cfind_yes h hk hx)
      have HL := Lib.hid (show lowT (some c) x = k.lo from by unfold lowT; rw [hk])
      obtain ⟨V, ha⟩ := h.each _ k hK
      have c2 := ha.cells.2.2.2.2
      generalize p x.toNat = px at *
      clear h hk ha hK
      go_enter Try.func31, Try.ntmps31
      go_wp2_with (go_at_call 56; refine HF.out.mono ?_; rintro e w1 ⟨rfl, rfl⟩)
      go_ret
      exact ⟨ret_int (by rw [HL.out]), rfl⟩
/-- What Objects returns and leaves. -/
def ObjP (w : World) (l : List Int) (e : Ending) (w' : World) : Prop := ∃ A c', e = .returned (.slice A l.length c') ∧ IAt (fun g => w.heap.size ≤ g) w' A l ∧ Below w.heap.size w w'
set_option maxHeartbeats 1000000 in
theorem cObjects_any {O : Nat → Prop} {v : Value} {om : Option Tc} {w : World} {x : Int} (h : TOb false w O v om) (hx : InR x) : Calls Try.prog 23 #[v, .int .i64 x] w (ObjP w (objT om x)) := by
  cases hk : atK om x with
  | none =>
    have HF := Lib.hid (cfind_no h hk hx)
    obtain ⟨er, he, e1, e2, _⟩ := errK_ne om x hk
    rw [he] at HF
    rw [show objT om x = [] from by unfold objT; rw [hk]]
    clear h hk he
    go_enter Try.func23, Try.ntmps23
    go_wp2_with (go_at_call 56; refine HF.out.mono ?_; rintro e w1 ⟨rfl, rfl⟩)
    go_ret
    exact ⟨none, 0, rfl, IAt.nil _ _ _, Below.refl _ _⟩
  | some k =>
    cases om with
    | none => cases hk
    | some c =>
      obtain ⟨B, M, Q, p, F, rfl, h⟩ := h
      obtain ⟨_, _, hK, _⟩ := h.wf.at hk
      have HF := Lib.hid (cfind_yes h hk hx)
      rw [show objT (some c) x = k.l from by unfold objT; rw [hk]]
      obtain ⟨V, ha⟩ := h.each _ k hK
      obtain ⟨A, cap, rfl, _, _⟩ := ha.form
      have c2 := ha.cells.2.2.1
      have hlen := ha.wf.len
      have HR := Lib.hid ha.inr
      have HC := Lib.hid (slClone_any A k.l.length cap k.l w rfl (by omega) ha.row)
      have HP := Lib.hid (fun (w1 : World) (A1 : Option Addr) (c5 : Nat) (hr : w1.ownsRow w.heap.size 3 1 (.slice A1 k.l.length c5) k.l.length (cZ k.l)) (hb : Below w.heap.size w w1) => show ObjP w k.l (.returned (.slice A1 k.l.length c5)) w1 from ⟨A1, c5, rfl, (own_off hr).1.iat (own_off hr).2 HR.out, hb⟩)
      generalize p x.toNat = px at *
      generalize k.l.length = n at *
      clear h hk ha hK
      go_enter Try.func23, Try.ntmps23
      go_wp2_with (first
        | (go_at_call 56; refine HF.out.mono ?_; rintro e w1 ⟨rfl, rfl⟩)
        | (go_at_call 57; refine HC.out.mono ?_; rintro e w1 ⟨A1, c5, rfl, h5, h6⟩; have HR5 := Lib.hid (And.intro h5 h6); clear h5 h6))
      go_ret
      exact HP.out _ _ _ HR5.out.1 HR5.out.2
end Go.Proofs.Yticcjelaenhigaa
