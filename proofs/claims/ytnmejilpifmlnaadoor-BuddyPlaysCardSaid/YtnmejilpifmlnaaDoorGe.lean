/- The document's own heap: Blocks. -/
import Derived.Test.YtnmejilpifmlnaaDoorGd
import Derived.Test.YtnmejilpifmlnaaDoorLq
namespace Go.Proofs.YtnmejilpifmlnaaDoor
open Go.RowKit

theorem w64d (a b : Int) (e : a = b) (h : -9223372036854775808 ≤ b ∧ b ≤ 9223372036854775807) : wrap64 a = b ∧ IntKind.i64.wrap a = b := by
  subst e; exact ⟨IntWalk.wrap64_in _ h, IntWalk.i64_in _ h⟩

set_option maxHeartbeats 1000000 in
theorem rBlocks_out {O : Nat → Prop} {B : Nat} {m : Mo} {w : World} (k : Int) (h : Rf w O B m) (hk : k < 0 ∨ 20 < k) :
    Calls Tryd.prog 45 #[.pointer (some ⟨B, 0, none⟩), .int .i64 k] w fun e w' => e = .returned (.slice none 0 0) ∧ w = w' := by
  have HM := Lib.hid (rmade_any h)
  clear h
  rcases hk with hk | hk
  · go_enter Tryd.func45, Tryd.ntmps45
    go_wp2_with (go_at_call 35; refine HM.out.mono ?_; rintro x _ ⟨rfl, rfl⟩)
    go_ret
    exact ⟨rfl, rfl⟩
  · have h0 : ¬ k < 0 := by omega
    go_enter Tryd.func45, Tryd.ntmps45
    go_wp2_with (go_at_call 35; refine HM.out.mono ?_; rintro x _ ⟨rfl, rfl⟩)
    go_ret
    exact ⟨rfl, rfl⟩

theorem bl_len_le (F : Nat → Bool) (q k : Nat) : (bl F q k).length ≤ q := by
  unfold bl
  exact Nat.le_trans (List.length_filter_le _ _) (by simp)
/-- Where Blocks stands. -/
structure BlR (w wr : World) (F : Nat → Bool) (k q : Nat) (v : Value) : Prop where
  own : wr.ownsRow w.heap.size 3 1 v (bl F q k).length (natC (bl F q k))
  bel : Below w.heap.size w wr
theorem BlR.skip {w wr : World} {F : Nat → Bool} {k q r : Nat} {v : Value} (h : BlR w wr F k q v) (hq : q % 2 ^ k = 0) (hn : ¬ Bk F k q) (hr : q + 2 ^ k = r) : BlR w wr F k r v := by
  have e : bl F r k = bl F q k := by rw [← hr, bl_step' hq, if_neg hn, List.append_nil]
  exact ⟨by rw [e]; exact h.own, h.bel⟩
theorem BlR.add {w wr : World} {F : Nat → Bool} {k q r : Nat} {v : Value} (hq : q % 2 ^ k = 0) (hn : Bk F k q) (hr : q + 2 ^ k = r) (ho : wr.ownsRow w.heap.size 3 1 v ((bl F q k).length + 1) (natC (bl F q k) ++ [.int .i64 (q : Int)])) (hb : Below w.heap.size w wr) : BlR w wr F k r v := by
  have e : bl F r k = bl F q k ++ [q] := by rw [← hr, bl_step' hq, if_pos hn]
  refine ⟨?_, hb⟩
  rw [e, List.length_append]
  have e2 : natC (bl F q k ++ [q]) = natC (bl F q k) ++ [.int .i64 (q : Int)] := by unfold natC; rw [List.map_append]; rfl
  rw [e2]; exact ho

set_option maxRecDepth 100000 in
set_option maxHeartbeats 4000000 in
theorem rBlocks_go {O : Nat → Prop} {B : Nat} {m : Mo} {w : World} (k : Nat) (h : Rf w O B m) (hk : k ≤ 20) :
    Calls Tryd.prog 45 #[.pointer (some ⟨B, 0, none⟩), .int .i64 k] w (NatsPost w (bl m.F m.n k)) := by
  have HM := Lib.hid (rmade_any h)
  have HH := Lib.hid h
  have hwf := h.choose_spec.choose_spec.wf
  have hn2 := hwf.n2
  have HPS := Lib.hid hwf.f
  obtain ⟨i0, hi, hz0, hz1, hz2⟩ := info_parts Tryd.info3
  have HI := Lib.hid (And.intro hi (And.intro hz0 (And.intro hz1 hz2)))
  obtain ⟨n, hn⟩ : ∃ n, m.n = n := ⟨_, rfl⟩
  have HN := Lib.hid hn
  rw [hn] at hn2 ⊢
  have hkI : decide ((k : Int) < 0) = false := decide_eq_false (by omega)
  have hkI2 : decide ((20 : Int) < (k : Int)) = false := decide_eq_false (by omega)
  clear h hwf hi hz0 hz1 hz2 hn
  go_enter Tryd.func45, Tryd.ntmps45
  go_wp2_with (go_at_call 35; refine HM.out.mono ?_; rintro x _ ⟨rfl, rfl⟩)
  go_loopw [6, 7] (fun p j wr => ∃ t P : Nat, t ≤ k ∧ P = 2 ^ t ∧ p = .int .i64 P ∧ j = .int .i64 t ∧ w = wr) (fun _ j _ => k - (intOf j).toNat)
  case atStart => exact ⟨0, 1, by omega, rfl, rfl, rfl, rfl⟩
  case round =>
    obtain ⟨t, P, htk, hP, rfl, rfl, rfl⟩ := hrel
    have hP1 : P ≤ 1048576 := by rw [hP]; exact Nat.pow_le_pow_right (by omega) (show t ≤ 20 by omega)
    have hP0 : 1 ≤ P := by rw [hP]; exact Nat.two_pow_pos t
    have HP := Lib.hid hP
    clear hP
    obtain ⟨Q, hQ⟩ : ∃ Q, 2 * P = Q := ⟨_, rfl⟩
    have FQ0 := Lib.hid (w64d (2 * (P : Int)) (Q : Int) (by omega) (by omega))
    have HQ := Lib.hid hQ
    clear hQ
    by_cases hlt : t < k
    · obtain ⟨f1, f2⟩ := FQ0.out
      go_wp2_with fail
      clear f1 f2
      go_roundw
      case rel => exact ⟨t + 1, Q, by omega, by rw [← HQ.out, HP.out, Nat.pow_succ, Nat.mul_comm], rfl, by go_num, trivial⟩
      case measure => simp [intOf]; omega
    · have htk' : t = k := by omega
      have HP' := Lib.hid (show P = 2 ^ k by rw [← htk']; exact HP.out)
      have HTK := Lib.hid htk'
      clear htk' HP
      go_wp2_with fail
      go_loopw [5, 8] (fun v s wr => ∃ q : Nat, s = .int .i64 q ∧ q % 2 ^ k = 0 ∧ q ≤ n + P ∧ BlR w wr m.F k q v) (fun _ s _ => n + P + 1 - (intOf s).toNat)
      case atStart => exact ⟨0, rfl, Nat.zero_mod _, by omega, ⟨⟨by simp [bl, natC], .inl ⟨rfl, by simp [bl]⟩⟩, Below.refl _ _⟩⟩
      case round =>
        obtain ⟨q, rfl, hq, hqn, hR⟩ := hrel
        have HMD := Lib.hid hq
        have HR := Lib.hid hR
        have HRF := Lib.hid (HH.out.below hR.bel)
        obtain ⟨Ax, cx, rfl⟩ := owns_form hR.own
        obtain ⟨A', cap', hA⟩ := HH.out.below hR.bel
        have c0 := hA.b.cell 0 (by omega)
        rw [HN.out] at c0
        have hL := bl_len_le m.F q k
        clear hR hA hq
        by_cases hlt2 : q < n
        · obtain ⟨r, hr⟩ : ∃ r, q + P = r := ⟨_, rfl⟩
          have HRr := Lib.hid hr
          have HRP := Lib.hid (show q + 2 ^ k = r by rw [← HP'.out]; exact hr)
          have HPL := Lib.hid (rplace_any q P HRF.out (by omega) hP0)
          have HIF := Lib.hid (show Pl m.F k q ↔ ∀ j, j < P → m.F (q + j) = true from by rw [HP'.out]; exact ⟨fun h => h.2, fun h => ⟨HMD.out, h⟩⟩)
          have hrn : r ≤ n + P := by omega
          generalize hLL : (bl m.F q k).length = L at hL
          have HLL := Lib.hid hLL
          clear hLL hr
          by_cases hp : Pl m.F k q
          · rw [decide_eq_true (HIF.out.1 hp)] at HPL
            have hqQ : 1 ≤ Q := by have := HQ.out; omega
            obtain ⟨d, hd⟩ : ∃ d, q / Q = d := ⟨_, rfl⟩
            obtain ⟨f, hf⟩ : ∃ f, d * Q = f := ⟨_, rfl⟩
            have HFL := Lib.hid (show fl (k + 1) q = f by unfold fl; rw [Nat.pow_succ, Nat.mul_comm (2 ^ k) 2, ← HP'.out, HQ.out, hd, hf])
            have hfq : f ≤ q := by rw [← hf, ← hd]; exact Nat.div_mul_le_self _ _
            have hdq : d ≤ q := by rw [← hd]; exact Nat.div_le_self _ _
            have hQI : (Q : Int) = 2 * (P : Int) := by have := HQ.out; omega
            have FD := Lib.hid (show ((2 * (P : Int)) == 0) = false ∧ (q : Int).tdiv (2 * (P : Int)) = (d : Int) ∧ (d : Int) * (2 * (P : Int)) = (f : Int) from by
              rw [← hQI]
              exact ⟨by simp; omega, by rw [Int.tdiv_eq_ediv_of_nonneg (by omega)]; exact_mod_cast hd, by exact_mod_cast hf⟩)
            have HQI := Lib.hid hQI
            have hd2 : d ≤ 1024 := by omega
            have hf2 : f ≤ 1024 := by omega
            clear hQI
            have HPL2 := rplace_any f Q HRF.out (by omega) hqQ
            rw [HQI.out] at HPL2
            have HPL2 := Lib.hid HPL2
            have HIF2 := Lib.hid (show Pl m.F (k + 1) (fl (k + 1) q) ↔ ∀ j, j < Q → m.F (f + j) = true from by
              rw [HFL.out]
              have e : 2 ^ (k + 1) = Q := by rw [Nat.pow_succ, Nat.mul_comm, ← HP'.out, HQ.out]
              exact ⟨fun h j hj => h.2 j (by rw [e]; exact hj), fun h => ⟨by rw [← HFL.out]; exact fl_mod _ _, fun j hj => h j (by rw [← e]; exact hj)⟩⟩)
            have HPP := Lib.hid hp
            clear hd hf hp
            by_cases hp2 : Pl m.F (k + 1) (fl (k + 1) q)
            · rw [decide_eq_true (HIF2.out.1 hp2)] at HPL2
              have HNEW := Lib.hid (show BlR w wr m.F k r (.slice Ax L cx) from by rw [← HLL.out]; exact HR.out.skip HMD.out (fun hb => hb.2 hp2) HRP.out)
              clear hp2
              go_wp2_with fail
              refine HPL.out.mono ?_
              rintro e _ ⟨rfl, rfl⟩
              obtain ⟨f1, f2, f3⟩ := FD.out
              go_wp2_with fail
              clear f1 f2 f3
              refine HPL2.out.mono ?_
              rintro e _ ⟨rfl, rfl⟩
              go_wp2_with fail
              go_roundw
              case rel => exact ⟨r, by have := HRr.out; rw [← this]; rfl, by rw [← HRP.out, Nat.add_mod_right]; exact HMD.out, hrn, HNEW.out⟩
              case measure => simp [intOf]; have := HRr.out; omega
            · rw [decide_eq_false (fun h => hp2 (HIF2.out.2 h))] at HPL2
              have HBK := Lib.hid (show Bk m.F k q from ⟨HPP.out, hp2⟩)
              clear hp2
              have hzm : w.heap.size ≤ wr.heap.size := HR.out.bel.size
              go_wp2_with fail
              refine HPL.out.mono ?_
              rintro e _ ⟨rfl, rfl⟩
              obtain ⟨f1, f2, f3⟩ := FD.out
              go_wp2_with fail
              clear f1 f2 f3
              refine HPL2.out.mono ?_
              rintro e _ ⟨rfl, rfl⟩
              obtain ⟨hi, hz0, hz1, hz2⟩ := HI.out
              have HOW := Lib.hid (show wr.ownsRow w.heap.size 3 1 (.slice Ax L cx) L (natC (bl m.F q k)) by have := HR.out.own; rw [HLL.out] at this; exact this)
              go_wp2_with (at_builtin; go_loud (refine wpList_append_own _ rfl _ _ 43 rfl w.heap.size 3 i0 (.int .i64 0) 1 8 Tryd.underlying43 hi hz0 hz1 hz2 rfl (by decide) _ _ _ rfl (HOW.out.alloc _) ⟨wr.heap.size, 0, none⟩ 1 1 [.int .i64 (q : Int)] rfl rfl (cell_one_new wr _ _) (by simp [Value.oneCell']) (by unfold maxLen; omega) (by omega) (by simp; omega) ?_); intro v' w5 hown' hgrow _; have HO5 := Lib.hid hown'; have HG5 := Lib.hid hgrow; clear hown' hgrow)
              have HB5 := Lib.hid ((HR.out.bel.alloc HR.out.bel.size _).grown HG5.out (by simp; omega) (fun k e => (HOW.out.lt k e).1))
              have HNEW := Lib.hid (BlR.add HMD.out HBK.out HRP.out (by rw [HLL.out]; exact HO5.out) HB5.out)
              go_roundw
              case rel => exact ⟨r, by have := HRr.out; rw [← this]; rfl, by rw [← HRP.out, Nat.add_mod_right]; exact HMD.out, hrn, HNEW.out⟩
              case measure => simp [intOf]; have := HRr.out; omega
          · rw [decide_eq_false (fun h => hp (HIF.out.2 h))] at HPL
            have HNEW := Lib.hid (show BlR w wr m.F k r (.slice Ax L cx) from by rw [← HLL.out]; exact HR.out.skip HMD.out (fun hb => hp hb.1) HRP.out)
            clear hp
            go_wp2_with fail
            refine HPL.out.mono ?_
            rintro e _ ⟨rfl, rfl⟩
            go_wp2_with fail
            go_roundw
            case rel => exact ⟨r, by have := HRr.out; rw [← this]; rfl, by rw [← HRP.out, Nat.add_mod_right]; exact HMD.out, hrn, HNEW.out⟩
            case measure => simp [intOf]; have := HRr.out; omega
        · have HE := Lib.hid (bl_past' (k := k) HPS.out (show m.n ≤ q by have := HN.out; omega))
          go_wp2_with fail
          go_ret
          have ho := HR.out.own
          rw [HE.out, HN.out] at ho
          obtain ⟨A, c, e, hA⟩ := nats_of_owns ho
          refine ⟨A, c, ?_, hA, HR.out.bel⟩
          show Ending.returned (.slice Ax (bl m.F q k).length cx) = _
          rw [HE.out, HN.out]
          exact congrArg _ e

theorem rBlocks_any {O : Nat → Prop} {B : Nat} {m : Mo} {w : World} (k : Int) (h : Rf w O B m) :
    Calls Tryd.prog 45 #[.pointer (some ⟨B, 0, none⟩), .int .i64 k] w (NatsPost w (blV m k)) := by
  have hwf := h.choose_spec.choose_spec.wf
  by_cases hk : k < 0 ∨ 20 < k
  · have hv : blV m k = [] := by
      unfold blV
      by_cases h0 : 0 ≤ k
      · rw [if_pos h0]
        have hp := pow_le (show 11 ≤ k.toNat by omega)
        have := hwf.n2
        have e : (2 : Nat) ^ 11 = 2048 := rfl
        exact bl_nil hwf.f (by omega)
      · rw [if_neg h0]
    rw [hv]
    refine (rBlocks_out k h hk).mono ?_
    rintro e w' ⟨rfl, rfl⟩
    exact ⟨none, 0, rfl, NatsAt.nil _ _, Below.refl _ _⟩
  · obtain ⟨j, rfl⟩ : ∃ j : Nat, k = j := ⟨k.toNat, by omega⟩
    have hv : blV m j = bl m.F m.n j := by unfold blV; rw [if_pos (by omega), Int.toNat_natCast]
    rw [hv]
    exact rBlocks_go j h (by omega)

set_option maxRecDepth 100000 in
set_option maxHeartbeats 1000000 in
theorem rOrder_any {O : Nat → Prop} {B : Nat} {m : Mo} {w : World} (h : Rf w O B m) : Calls Tryd.prog 41 #[.pointer (some ⟨B, 0, none⟩)] w fun e w' => e = .returned (.int .i64 m.od) ∧ Below w.heap.size w w' := by
  have HM := Lib.hid (rmade_any h)
  have HH := Lib.hid h
  have HOD := Lib.hid (show m.od = ordN m.F m.n 11 from rfl)
  clear h
  go_enter Tryd.func41, Tryd.ntmps41
  go_wp2_with (go_at_call 35; refine HM.out.mono ?_; rintro x _ ⟨rfl, rfl⟩)
  go_loopw [3, 4] (fun v i wr => ∃ (k : Nat) (z : Int), k ≤ 11 ∧ i = .int .i64 k ∧ v = .int .i64 z ∧ z = ordN m.F m.n k ∧ Below w.heap.size w wr) (fun _ i _ => 11 - (intOf i).toNat)
  case atStart => exact ⟨0, -1, by omega, rfl, rfl, rfl, Below.refl _ _⟩
  case round =>
    obtain ⟨k, z, hk, rfl, rfl, hz, hb⟩ := hrel
    have HZ := Lib.hid hz
    have HB := Lib.hid hb
    have HBL := Lib.hid (rBlocks_go k (HH.out.below hb) (by omega))
    clear hz hb
    by_cases hlt : k < 11
    · have e1 : ordN m.F m.n (k + 1) = if (bl m.F m.n k).length = 0 then ordN m.F m.n k else (k : Int) := rfl
      rw [← HZ.out] at e1
      generalize bl m.F m.n k = l at *
      have HE := Lib.hid e1
      have hlc : l.length = 0 ∨ 0 < l.length := by omega
      clear e1
      go_wp2_with fail
      refine HBL.out.mono ?_
      rintro e w1 ⟨A, c, rfl, _, hb1⟩
      have HB1 := Lib.hid (btr HB.out hb1 (Nat.le_refl _))
      clear hb1
      generalize l.length = L at *
      rcases hlc with h0 | h0
      · subst h0
        go_wp2_with fail
        go_roundw
        case rel => exact ⟨k + 1, z, by omega, by go_num, rfl, by rw [HE.out]; simp, HB1.out⟩
        case measure => simp [intOf]; omega
      · have hn0 : L ≠ 0 := by omega
        go_wp2_with fail
        go_roundw
        case rel => exact ⟨k + 1, k, by omega, by go_num, rfl, by rw [HE.out, if_neg hn0], HB1.out⟩
        case measure => simp [intOf]; omega
    · go_wp2_with fail
      go_ret
      obtain rfl : k = 11 := by omega
      exact ⟨ret_int (by rw [HOD.out]; exact HZ.out), HB.out⟩

end Go.Proofs.YtnmejilpifmlnaaDoor
