/- The statements' helpers: runs compared, two lists alike, a number in a list. -/
import Derived.Test.YtjacbkaeploabaaFa
namespace Go.Proofs.Ytjacbkaeploabaa
open Go.RowKit Go.Shelf

theorem neq_run (a b : Int) (w : World) : (binOp .neq 45 (.agg #[.int .i64 a, .int .i64 b]) (.agg #[.int .i64 a, .int .i64 b])).run Try.prog w = .ok (.bool false) w := by
  have u3 := Try.underlying3
  have hS : Try.prog.underlying 45 = some (.struct (Try.prog.fieldsOf 45)) := by kernel_rfl
  have hp : Try.prog.stoodInHeld 45 = false := by kernel_rfl
  rw [run_neq_struct, show (10000 : Nat) = 9999 + 1 from rfl, run_equalIn_agg w 9999 45 _ _ hS hp]
  simp only [Program.fieldsOf, Try.underlying45]
  go_simp
theorem neq_cls (a b c : Int) (w : World) : (binOp .neq 23 (.agg #[.int .i64 a, .int .i64 b, .int .i64 c]) (.agg #[.int .i64 a, .int .i64 b, .int .i64 c])).run Try.prog w = .ok (.bool false) w := by
  have u3 := Try.underlying3
  have hS : Try.prog.underlying 23 = some (.struct (Try.prog.fieldsOf 23)) := by kernel_rfl
  have hp : Try.prog.stoodInHeld 23 = false := by kernel_rfl
  rw [run_neq_struct, show (10000 : Nat) = 9999 + 1 from rfl, run_equalIn_agg w 9999 23 _ _ hS hp]
  simp only [Program.fieldsOf, Try.underlying23]
  go_simp

set_option maxRecDepth 100000 in
set_option maxHeartbeats 1000000 in
theorem RunsEq_any (A A' : Option Addr) (c c' : Nat) (l : List (Nat × Nat)) (w : World) (hl : l.length ≤ 1024) (hT : RsAt w A l) (hT' : RsAt w A' l) :
    Calls Try.prog 27 #[.slice A l.length c, .slice A' l.length c'] w fun e w' => e = .returned (.bool true) ∧ Below w.heap.size w w' := by
  obtain ⟨n, hn⟩ : ∃ n : Nat, n = l.length := ⟨_, rfl⟩
  have HN := Lib.hid hn
  have HT := Lib.hid hT
  have HT' := Lib.hid hT'
  have hneq := neq_run
  rw [← hn] at hl ⊢
  clear hn hT hT'
  go_enter Try.func27, Try.ntmps27
  go_wp2
  go_loopw [5] (fun i wr => ∃ k : Nat, k ≤ n ∧ i = .int .i64 k ∧ Below w.heap.size w wr) (fun i _ => n - (intOf i).toNat)
  case atStart => exact ⟨0, by omega, rfl, Below.refl _ _⟩
  case round =>
    obtain ⟨k, hk, rfl, hB⟩ := hrel
    by_cases hlt : k < n
    · have l0 : k < l.length := by have := HN.out; omega
      obtain ⟨⟨a, b⟩, hc⟩ : ∃ c, l[k]? = some c := ⟨_, List.getElem?_eq_getElem l0⟩
      obtain ⟨g, rfl, _, g1, g2⟩ := (HT.out.below hB) k a b hc
      obtain ⟨g', rfl, _, f1, f2⟩ := (HT'.out.below hB) k a b hc
      clear hc
      go_wp2_with fail
      go_quiet (fail)
      go_wp2_with fail
      go_roundw
      case rel => exact ⟨k + 1, by omega, by go_num, belowN hB _⟩
      case measure => simp [intOf]; omega
    · go_wp2_with fail
      go_ret
      exact ⟨rfl, hB⟩

/-- The class lies in a block that was new, and what is left below is as it was. -/
def Cw (w1 : World) (c : Ce) (wr : World) : Prop := Below w1.heap.size w1 wr ∧ w1.heap.size < wr.heap.size ∧ wr.cell? ⟨w1.heap.size, 0, none⟩ = some (.int .i64 c.z) ∧ wr.cell? ⟨w1.heap.size, 1, none⟩ = some (.int .i64 c.g) ∧ wr.cell? ⟨w1.heap.size, 2, none⟩ = some (.int .i64 c.t)
theorem Cw.below {w1 wr w' : World} {c : Ce} (h : Cw w1 c wr) (hb : Below wr.heap.size wr w') : Cw w1 c w' :=
  ⟨btr h.1 hb (Nat.le_refl _), Nat.lt_of_lt_of_le h.2.1 hb.size, (hb.cell (p := ⟨_, 0, none⟩) h.2.1).trans h.2.2.1, (hb.cell (p := ⟨_, 1, none⟩) h.2.1).trans h.2.2.2.1, (hb.cell (p := ⟨_, 2, none⟩) h.2.1).trans h.2.2.2.2⟩
theorem Cw.drew {w1 wr : World} {c : Ce} (h : Cw w1 c wr) (k : Nat) : Cw w1 c (wr.drewN k) := h.below (belowN (Below.refl _ _) k)
theorem cw_new (w1 : World) (c : Ce) : Cw w1 c (w1.alloc (.cells #[.int .i64 c.z, .int .i64 c.g, .int .i64 c.t] 23)) := by
  refine ⟨bnew _ _, by simp, ?_, ?_, ?_⟩ <;> go_simp
theorem ro_n (c : Ce) : ((c.g : Int) * 256 / c.z) = (c.n : Nat) := by unfold Ce.n; rw [Int.natCast_ediv, Int.natCast_mul]; rfl
theorem kz_le {c : Ce} (h : CWf c) {j : Nat} (hj : j < c.n) : j * c.z ≤ 1024 := by
  have h1 := h.n1.2.2
  have h2 := Nat.mul_le_mul_right c.z (Nat.le_of_lt hj)
  have := h.g2
  omega

set_option maxRecDepth 100000 in
set_option maxHeartbeats 4000000 in
theorem alike_any {w : World} {O1 O2 : Nat → Prop} {a b : Value} {c : Ce} (h1 : LOb false w O1 a (some c)) (h2 : LOb false w O2 b (some c)) :
    Calls Try.prog 26 #[a, b] w (Yes w) := by
  obtain ⟨bA, rfl⟩ := lob_ptr h1
  obtain ⟨bB, rfl⟩ := lob_ptr h2
  have hwf : CWf c := by obtain ⟨_, _, _, _, h⟩ := h1; exact h.wf
  have hlen : (runs (some c)).length ≤ 1024 := by show (c.L.map _).length ≤ _; rw [List.length_map]; exact hwf.len
  have S1 := Lib.hid (fun W (hb : Below w.heap.size w W) => cSpans_any (h1.below hb))
  have S2 := Lib.hid (fun W (hb : Below w.heap.size w W) => cSpans_any (h2.below hb))
  have T1 := Lib.hid (fun W (hb : Below w.heap.size w W) => cTaken_any (h1.below hb))
  have T2 := Lib.hid (fun W (hb : Below w.heap.size w W) => cTaken_any (h2.below hb))
  have R1 := Lib.hid (fun W (hb : Below w.heap.size w W) => cRoom_any (h1.below hb))
  have R2 := Lib.hid (fun W (hb : Below w.heap.size w W) => cRoom_any (h2.below hb))
  have C1 := Lib.hid (fun W (hb : Below w.heap.size w W) => cClass_any (h1.below hb))
  have C2 := Lib.hid (fun W (hb : Below w.heap.size w W) => cClass_any (h2.below hb))
  have I1 := Lib.hid (fun W (hb : Below w.heap.size w W) => cIsTaken_any (h1.below hb))
  have I2 := Lib.hid (fun W (hb : Below w.heap.size w W) => cIsTaken_any (h2.below hb))
  have E0 := Lib.hid (fun (A A' : Option Addr) (k k' : Nat) (W : World) (hT : RsAt W A (runs (some c))) (hT' : RsAt W A' (runs (some c))) => RunsEq_any A A' k k' (runs (some c)) W hlen hT hT')
  have RO := Lib.hid (fun W => RObjects_any c.z c.g c.t W (by have := hwf.g1; omega) (by have := hwf.g2; omega) (by have := hwf.z1; omega) (by have := hwf.z2; omega))
  have HW := Lib.hid hwf
  have hnn := hwf.n1.2.1
  obtain ⟨nn, hnn2⟩ : ∃ nn, c.n = nn := ⟨_, rfl⟩
  have KZ := Lib.hid (fun j (hj : j < c.n) => kz_le hwf hj)
  rw [hnn2] at KZ hnn
  simp only [ro_n, hnn2] at RO
  clear hnn2
  have hq := neq_cls
  have hg : ∀ (x y : Operand) (xs ys : Array Value) (W : World), (eqGuard .neq 23 x y (.agg xs) (.agg ys)).run Try.prog W = .ok () W := fun x y xs ys W => run_eqGuard_agg W .neq 23 x y xs ys (by kernel_rfl)
  rw [show clC (some c) = .agg #[.int .i64 c.z, .int .i64 c.g, .int .i64 c.t] from rfl] at C1 C2
  clear h1 h2 hwf
  generalize tkC (some c) = tkc at *
  generalize rmC (some c) = rmc at *
  obtain ⟨R, hR⟩ : ∃ R, runs (some c) = R := ⟨_, rfl⟩
  have HR := Lib.hid hR
  rw [hR] at S1 S2 E0 hlen
  obtain ⟨n, hn⟩ : ∃ n, R.length = n := ⟨_, rfl⟩
  have HN := Lib.hid hn
  rw [hn] at E0 hlen
  clear hR hn
  go_enter Try.func26, Try.ntmps26
  have B0 := Lib.hid (Below.refl w.heap.size w)
  go_wp2_with fail
  refine (S1.out _ B0.out).mono ?_
  rintro e w1 ⟨P1, c1, rfl, hr, _, hb⟩
  have L1 := Lib.hid (hr.below (Below.refl _ _))
  have B1 := Lib.hid hb
  clear hb hr
  rw [HN.out]
  go_wp2_with fail
  refine (S2.out _ B1.out).mono ?_
  rintro e w2 ⟨P2, c2, rfl, hr, _, hb⟩
  have L2 := Lib.hid hr
  have L1' := Lib.hid (L1.out.below hb)
  have B2 := Lib.hid (btr B1.out hb (Nat.le_refl _))
  clear hb hr
  rw [HN.out]
  go_wp2_with fail
  refine (E0.out _ _ _ _ _ L1'.out L2.out).mono ?_
  rintro e w3 ⟨rfl, hb⟩
  have B3 := Lib.hid (btr B2.out hb (Nat.le_refl _))
  clear hb
  go_wp2_with fail
  refine (T1.out _ B3.out).mono ?_
  rintro e w4 ⟨rfl, hb⟩
  have B4 := Lib.hid (btr B3.out hb (Nat.le_refl _))
  clear hb
  go_wp2_with fail
  refine (T2.out _ B4.out).mono ?_
  rintro e w5 ⟨rfl, hb⟩
  have B5 := Lib.hid (btr B4.out hb (Nat.le_refl _))
  clear hb
  go_wp2_with fail
  refine (R1.out _ B5.out).mono ?_
  rintro e w6 ⟨rfl, hb⟩
  have B6 := Lib.hid (btr B5.out hb (Nat.le_refl _))
  clear hb
  go_wp2_with fail
  refine (R2.out _ B6.out).mono ?_
  rintro e w7 ⟨rfl, hb⟩
  have B7 := Lib.hid (btr B6.out hb (Nat.le_refl _))
  clear hb
  go_wp2_with fail
  refine (C1.out _ B7.out).mono ?_
  rintro e w8 ⟨rfl, hb⟩
  have B8 := Lib.hid (btr B7.out hb (Nat.le_refl _))
  clear hb
  go_wp2_with fail
  refine (C2.out _ B8.out).mono ?_
  rintro e w9 ⟨rfl, hb⟩
  have B9 := Lib.hid (btr B8.out hb (Nat.le_refl _))
  clear hb
  go_wp2_with fail
  refine (S1.out _ B9.out).mono ?_
  rintro e w10 ⟨P3, c3, rfl, hr, _, hb⟩
  have L3 := Lib.hid (hr.below (Below.refl _ _))
  have B10 := Lib.hid (btr B9.out hb (Nat.le_refl _))
  clear hb hr
  rw [HN.out]
  go_wp2_with fail
  refine (C1.out _ B10.out).mono ?_
  rintro e w11 ⟨rfl, hb⟩
  have L4 := Lib.hid (L3.out.below hb)
  have B11 := Lib.hid (btr B10.out hb (Nat.le_refl _))
  clear hb
  go_wp2_with fail
  clear S1 S2 E0 T1 T2 R1 R2 C1 C2
  go_loopw [7] (fun i wr => ∃ k : Nat, k ≤ n ∧ i = .int .i64 k ∧ Cw w11 c wr) (fun i _ => n - (intOf i).toNat)
  case atStart => exact ⟨0, by omega, rfl, cw_new w11 c⟩
  case round =>
    obtain ⟨k, hk, rfl, hC⟩ := hrel
    by_cases hlt : k < n
    · obtain ⟨⟨sx, gx⟩, hx⟩ : ∃ x, R[k]? = some x := ⟨_, List.getElem?_eq_getElem (by have := HN.out; omega)⟩
      have hsx : sx ≤ 1024 := by
        have h := hx
        rw [← HR.out] at h
        obtain ⟨m, hm, e⟩ := List.mem_map.1 (List.mem_of_getElem? h)
        have := (HW.out.sp m hm).wf.s1
        have : m.s = sx := congrArg Prod.fst e
        omega
      have HX := Lib.hid hx
      clear hx
      go_wp2_with fail
      go_loopw [8] (fun i wr => ∃ j : Nat, j ≤ nn ∧ i = .int .i64 j ∧ Cw w11 c wr) (fun i _ => nn - (intOf i).toNat)
      case atStart => exact ⟨0, by omega, rfl, hC⟩
      case round =>
        obtain ⟨j, hj, rfl, hD⟩ := hrel
        obtain ⟨d0, d1, d2⟩ := hD.2.2
        have HD := Lib.hid hD
        clear hD
        go_wp2_with fail
        refine (RO.out _).mono ?_
        rintro e w12 ⟨rfl, hb⟩
        have hD2 := HD.out.below hb
        obtain ⟨f0, f1, f2⟩ := hD2.2.2
        obtain ⟨g, rfl, _, g1, g2⟩ := (L4.out.below hD2.1) k sx gx HX.out
        have B12 := Lib.hid (btr B11.out hD2.1 (Nat.le_refl _))
        have HD2 := Lib.hid hD2
        clear hb hD2 d0 d1 d2
        by_cases hlt2 : j < nn
        · have hp := KZ.out j hlt2
          have hp0 : (0 : Int) ≤ (j : Int) * c.z := by rw [← Int.natCast_mul]; omega
          have hp1 : (j : Int) * c.z ≤ 1024 := by rw [← Int.natCast_mul]; omega
          go_wp2_with fail
          have hin : InR ((sx : Int) * 256 + (j : Int) * c.z) := ⟨by omega, by omega⟩
          go_quiet (fail)
          have B13 := Lib.hid (belowN B12.out nq)
          go_wp2_with fail
          refine (I1.out _ B13.out _ hin).mono ?_
          rintro e w13 ⟨rfl, hb⟩
          have B14 := Lib.hid (btr B13.out hb (Nat.le_refl _))
          have HD3 := Lib.hid ((HD2.out.drew nq).below hb)
          clear hb
          go_wp2_with fail
          refine (I2.out _ B14.out _ hin).mono ?_
          rintro e w14 ⟨rfl, hb⟩
          have HD4 := Lib.hid (HD3.out.below hb)
          clear hb
          generalize liV (some c) _ = lv at *
          generalize liE (some c) _ = le at *
          go_wp2_with fail
          go_roundw
          case rel => exact ⟨j + 1, by omega, by go_num, HD4.out⟩
          case measure => simp [intOf]; omega
        · go_wp2_with fail
          go_roundw
          case rel => exact ⟨k + 1, by omega, by go_num, HD2.out⟩
          case measure => simp [intOf]; omega
    · go_wp2_with fail
      go_ret
      exact ⟨rfl, btr B11.out hC.1 (Nat.le_refl _)⟩

end Go.Proofs.Ytjacbkaeploabaa
