/- The document's own space: set, Map, Unmap, Release. -/
import Derived.Test.YtejjendklemebaaGa
namespace Go.Proofs.Ytejjendklemebaa
open Go.RowKit

/-- The states and the words while they are being set. -/
structure RawR (w wr : World) (n S H : Nat) (st hd : Nat → Int) : Prop where
  k : Keep (fun k => k = S ∨ k = H) w wr
  s : Cl wr S n (fun k => .int .i64 (st k))
  h : Cl wr H (n * 32) (fun k => .int .i64 (hd k))
  ne : S ≠ H
theorem RawR.setS {w wr : World} {n S H : Nat} {st hd : Nat → Int} (h : RawR w wr n S H st hd) (p : Nat) (v : Int) {st' : Nat → Int} (hs : ∀ k, k < n → st' k = if k = p then v else st k) : RawR w (wr.setCell ⟨S, p, none⟩ (.int .i64 v)) n S H st' hd :=
  ⟨h.k.set (.inl (.inl rfl)) _, (h.s.set p _).congr fun k hk => by rw [hs k hk]; split <;> rfl, h.h.other (a := ⟨S, p, none⟩) (fun e => h.ne e.symm) _, h.ne⟩
theorem RawR.setH {w wr : World} {n S H : Nat} {st hd : Nat → Int} (h : RawR w wr n S H st hd) (p : Nat) (v : Int) {hd' : Nat → Int} (hs : ∀ k, k < n * 32 → hd' k = if k = p then v else hd k) : RawR w (wr.setCell ⟨H, p, none⟩ (.int .i64 v)) n S H st hd' :=
  ⟨h.k.set (.inl (.inr rfl)) _, h.s.other (a := ⟨H, p, none⟩) h.ne _, (h.h.set p _).congr fun k hk => by rw [hs k hk]; split <;> rfl, h.ne⟩
theorem RfA.raw {w : World} {O : Nat → Prop} {R S H cs ch : Nat} {m : Mo} (h : RfA w O R S H cs ch m) : RawR w w m.n S H m.st m.hd := ⟨Keep.refl _ _, h.s, h.h, h.sh⟩
/-- The space is as before, but for the states and the words. -/
theorem RfA.of_raw {w wr : World} {O : Nat → Prop} {R S H cs ch : Nat} {m m' : Mo} (h : RfA w O R S H cs ch m) (hr : RawR w wr m.n S H m'.st m'.hd) (hwf : WF m') (hn : m'.n = m.n) (hp : m'.pk = m.pk) : RMut w O R m' wr := by
  have hk : Keep O w wr := hr.k.mono fun k _ hk => by rcases hk with rfl | rfl; exact h.oS; exact h.oH
  refine ⟨⟨S, H, cs, ch, hwf, ?_, by rw [hn]; exact hr.s, by rw [hn]; exact hr.h, .inl h.oR, .inl h.oS, .inl h.oH, Ext.lt h.lt hk.size, h.sh, h.sr, h.hr⟩, hk⟩
  rw [hn, hp]
  exact h.r.of_block (hr.k.block R (h.lt _ h.oR) (fun hx => by rcases hx with hx | hx; exact h.sr hx.symm; exact h.hr hx.symm))

set_option maxHeartbeats 1000000 in
theorem rset_any {O : Nat → Prop} {R : Nat} {m : Mo} {w : World} (s k : Nat) (v : Int) (hv : v = 0 ∨ v = 1) (h : Rf w O R m) (hk : s + k ≤ m.n) :
    Calls Try.prog 70 #[.pointer (some ⟨R, 0, none⟩), .int .i64 s, .int .i64 k, .int .i64 v] w fun e w' => e = .returned (.tuple #[]) ∧ RMut w O R (setM m s k v) w' := by
  obtain ⟨S, H, cs, ch, h⟩ := h
  have hn2 := h.wf.n2
  have HR := Lib.hid h
  obtain ⟨n, hn⟩ : ∃ n, n = m.n := ⟨_, rfl⟩
  rw [← hn] at hk hn2
  have HN := Lib.hid hn
  have HV := Lib.hid hv
  clear h hn hv
  have HC := Lib.hid (fun wr (hk : Keep (fun k => k = S ∨ k = H) w wr) => And.intro
    ((World.cell?_of_block (w := w) (a := ⟨R, 0, none⟩) (hk.block R (HR.out.lt _ HR.out.oR) (fun hx => by rcases hx with hx | hx; exact HR.out.sr hx.symm; exact HR.out.hr hx.symm))).trans HR.out.c0)
    ((World.cell?_of_block (w := w) (a := ⟨R, 1, none⟩) (hk.block R (HR.out.lt _ HR.out.oR) (fun hx => by rcases hx with hx | hx; exact HR.out.sr hx.symm; exact HR.out.hr hx.symm))).trans HR.out.c1))
  go_enter Try.func70, Try.ntmps70
  go_wp2
  go_loopw [8] (fun i wr => ∃ j : Nat, j ≤ k ∧ i = .int .i64 ((s + j : Nat) : Int) ∧ RawR w wr m.n S H (setM m s j v).st (setM m s j v).hd) (fun i _ => s + k - (intOf i).toNat)
  case atStart => exact ⟨0, by omega, rfl, by rw [setM_zero]; exact HR.out.raw⟩
  case round =>
    obtain ⟨j, hj, rfl, hr⟩ := hrel
    have HW := Lib.hid hr
    clear hr
    by_cases hlt : j < k
    · obtain ⟨c0, c1⟩ := HC.out _ HW.out.k
      have g0 := HW.out.s.cell (s + j) (by have := HN.out; omega)
      have g1 := HW.out.s.free (s + j) (by have := HN.out; omega)
      rw [← HN.out] at c0 c1
      have HW2 := Lib.hid (HW.out.setS (s + j) v (st' := (setM m s (j + 1) v).st) (fun p hp => by
        show (if s ≤ p ∧ p < s + (j + 1) then v else m.st p) = if p = s + j then v else (if s ≤ p ∧ p < s + j then v else m.st p)
        by_cases e : p = s + j
        · rw [if_pos (by omega), if_pos e]
        · rw [if_neg e]
          by_cases e2 : s ≤ p ∧ p < s + j
          · rw [if_pos (by omega), if_pos e2]
          · rw [if_neg (by omega), if_neg e2]))
      generalize (setM m s j v).st (s + j) = V at g0
      go_wp2_with fail
      go_loopw [9] (fun i wz => ∃ t : Nat, t ≤ 32 ∧ i = .int .i64 ((32 * (s + j) + t : Nat) : Int) ∧ RawR w wz m.n S H (setM m s (j + 1) v).st (fun q => if 32 * (s + j) ≤ q ∧ q < 32 * (s + j) + t then 0 else (setM m s j v).hd q)) (fun i _ => 32 * (s + j) + 32 - (intOf i).toNat)
      case atStart =>
        refine ⟨0, by omega, by congr 1; omega, ?_⟩
        have e : (fun q => if 32 * (s + j) ≤ q ∧ q < 32 * (s + j) + 0 then 0 else (setM m s j v).hd q) = (setM m s j v).hd := by funext q; rw [if_neg (by omega)]
        rw [e]
        exact HW2.out
      case round =>
        obtain ⟨t, ht, rfl, hr⟩ := hrel
        have HX := Lib.hid hr
        clear hr c0 c1 g0 g1
        by_cases htl : t < 32
        · obtain ⟨c0, c1⟩ := HC.out _ HX.out.k
          have g0 := HX.out.h.cell (32 * (s + j) + t) (by have := HN.out; omega)
          have g1 := HX.out.h.free (32 * (s + j) + t) (by have := HN.out; omega)
          rw [← HN.out] at c0 c1
          have HX2 := Lib.hid (HX.out.setH (32 * (s + j) + t) 0 (hd' := fun q => if 32 * (s + j) ≤ q ∧ q < 32 * (s + j) + (t + 1) then 0 else (setM m s j v).hd q) (fun q hq => by
            by_cases e : q = 32 * (s + j) + t
            · rw [if_pos (by omega), if_pos e]
            · rw [if_neg e]
              by_cases e2 : 32 * (s + j) ≤ q ∧ q < 32 * (s + j) + t
              · rw [if_pos (by omega), if_pos e2]
              · rw [if_neg (by omega), if_neg e2]))
          generalize (if 32 * (s + j) ≤ 32 * (s + j) + t ∧ 32 * (s + j) + t < 32 * (s + j) + t then 0 else (setM m s j v).hd (32 * (s + j) + t)) = U at g0
          go_wp2_with fail
          go_roundw
          case rel => exact ⟨t + 1, by omega, by congr 1, HX2.out⟩
          case measure => simp [intOf]; omega
        · obtain rfl : t = 32 := by omega
          have e : (fun q => if 32 * (s + j) ≤ q ∧ q < 32 * (s + j) + 32 then 0 else (setM m s j v).hd q) = (setM m s (j + 1) v).hd := by
            funext q
            show (if 32 * (s + j) ≤ q ∧ q < 32 * (s + j) + 32 then 0 else (if s ≤ q / 32 ∧ q / 32 < s + j then 0 else m.hd q)) = if s ≤ q / 32 ∧ q / 32 < s + (j + 1) then 0 else m.hd q
            by_cases e1 : 32 * (s + j) ≤ q ∧ q < 32 * (s + j) + 32
            · rw [if_pos e1, if_pos (by omega)]
            · rw [if_neg e1]
              by_cases e2 : s ≤ q / 32 ∧ q / 32 < s + j
              · rw [if_pos e2, if_pos (by omega)]
              · rw [if_neg e2, if_neg (by omega)]
          have hX := HX.out
          rw [e] at hX
          have HX3 := Lib.hid hX
          clear e hX
          go_wp2_with fail
          go_roundw
          case rel => exact ⟨j + 1, by omega, by go_num, HX3.out⟩
          case measure => simp [intOf]; omega
    · obtain rfl : j = k := by omega
      have HF := Lib.hid (HR.out.of_raw HW.out (setM_wf HR.out.wf s v HV.out j (by have := HN.out; omega)) rfl rfl)
      go_wp2_with fail
      go_end0
      exact ⟨rfl, HF.out⟩

end Go.Proofs.Ytejjendklemebaa
