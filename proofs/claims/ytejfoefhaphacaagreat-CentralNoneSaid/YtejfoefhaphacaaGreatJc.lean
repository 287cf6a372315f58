/- The statements' helper: a list beside the document's. -/
import Derived.Test.YtejfoefhaphacaaGreatJb
namespace Go.Proofs.YtejfoefhaphacaaGreat
open Go.RowKit Go.Sort Go.Shelf Go.Lib

theorem cl_form (om : Option Ce) : ∃ z g t : Int, clC om = .agg #[.int .i64 z, .int .i64 g, .int .i64 t] ∧ ∀ c, om = some c → z = c.z ∧ g = c.g ∧ t = c.t := by
  cases om with
  | none => exact ⟨0, 0, 0, rfl, fun c h => nomatch h⟩
  | some c => exact ⟨c.z, c.g, c.t, rfl, fun c' h => by cases h; exact ⟨rfl, rfl, rfl⟩⟩
theorem fldC (z g t : Int) (w : World) : (Instr.field 23 (.agg #[.int .i64 z, .int .i64 g, .int .i64 t]) 0).run Tryz.prog w = .ok (.int .i64 z) w := by kernel_rfl
set_option maxRecDepth 100000 in
set_option maxHeartbeats 8000000 in
theorem Same_any {w : World} {O1 O2 : Nat → Prop} {a b : Value} {om : Option Ce} (h1 : LOb false w O1 a om) (h2 : LOb true w O2 b om) : Calls Tryz.prog 12 #[a, b] w (Yes w) := by
  have hlen := runs_le h1
  have S1 := Lib.hid (fun W (hb : Below w.heap.size w W) => cSpans_any (h1.below hb))
  have S2 := Lib.hid (fun W (hb : Below w.heap.size w W) => dSpans_any (h2.below hb))
  have T1 := Lib.hid (fun W (hb : Below w.heap.size w W) => cTaken_any (h1.below hb))
  have T2 := Lib.hid (fun W (hb : Below w.heap.size w W) => dTaken_any (h2.below hb))
  have R1 := Lib.hid (fun W (hb : Below w.heap.size w W) => cRoom_any (h1.below hb))
  have R2 := Lib.hid (fun W (hb : Below w.heap.size w W) => dRoom_any (h2.below hb))
  have C1 := Lib.hid (fun W (hb : Below w.heap.size w W) => cClass_any (h1.below hb))
  have C2 := Lib.hid (fun W (hb : Below w.heap.size w W) => dClass_any (h2.below hb))
  have I1 := Lib.hid (fun W (hb : Below w.heap.size w W) => cIsTaken_any (h1.below hb))
  have I2 := Lib.hid (fun W (hb : Below w.heap.size w W) => dIsTaken_any (h2.below hb))
  have E0 := Lib.hid (fun (A A' : Option Addr) (k k' : Nat) (W : World) (hT : RsAt W A (runs om)) (hT' : RsAt W A' (runs om)) => RunsEq_any A A' k k' (runs om) W hlen hT hT')
  have HW := Lib.hid (show ∀ c, om = some c → CWf c from fun c hc => by subst hc; obtain ⟨_, _, _, _, h⟩ := h1; exact h.wf)
  obtain ⟨Z, G, T, hcl, hzg⟩ := cl_form om
  have HZG := Lib.hid hzg
  rw [hcl] at C1 C2
  have RO := Lib.hid (fun (c : Ce) (e : om = some c) (W : World) => show Calls Tryz.prog 41 #[.agg #[.int .i64 Z, .int .i64 G, .int .i64 T]] W fun e w' => e = .returned (.int .i64 (c.n : Nat)) ∧ Below W.heap.size W w' from by
    have hwf := HW.out c e
    obtain ⟨rfl, rfl, rfl⟩ := hzg c e
    have := RObjects_any c.z c.g c.t W (by have := hwf.g1; omega) (by have := hwf.g2; omega) (by have := hwf.z1; omega) (by have := hwf.z2; omega)
    rw [ro_n] at this
    exact this)
  have hq := neq_cls
  have hg : ∀ (x y : Operand) (xs ys : Array Value) (W : World), (eqGuard .neq 23 x y (.agg xs) (.agg ys)).run Tryz.prog W = .ok () W := fun x y xs ys W => run_eqGuard_agg W .neq 23 x y xs ys (by kernel_rfl)
  clear h1 h2 hcl hzg
  generalize tkC om = tkc at *
  generalize rmC om = rmc at *
  obtain ⟨R, hR⟩ : ∃ R, runs om = R := ⟨_, rfl⟩
  have HR := Lib.hid hR
  rw [hR] at S1 S2 E0 hlen
  obtain ⟨n, hn⟩ : ∃ n, R.length = n := ⟨_, rfl⟩
  have HN := Lib.hid hn
  rw [hn] at E0 hlen
  clear hR hn
  go_enter Tryz.func12, Tryz.ntmps12
  have B0 := Lib.hid (Below.refl w.heap.size w)
  go_wp2_with fail
  refine (R1.out _ B0.out).mono ?_
  rintro e w1 ⟨rfl, hb⟩
  have B1 := Lib.hid (btr B0.out hb (Nat.le_refl _))
  clear hb
  go_wp2_with fail
  refine (R2.out _ B1.out).mono ?_
  rintro e w2 ⟨rfl, hb⟩
  have B2 := Lib.hid (btr B1.out hb (Nat.le_refl _))
  clear hb
  go_wp2_with fail
  refine (T1.out _ B2.out).mono ?_
  rintro e w3 ⟨rfl, hb⟩
  have B3 := Lib.hid (btr B2.out hb (Nat.le_refl _))
  clear hb
  go_wp2_with fail
  refine (T2.out _ B3.out).mono ?_
  rintro e w4 ⟨rfl, hb⟩
  have B4 := Lib.hid (btr B3.out hb (Nat.le_refl _))
  clear hb
  go_wp2_with fail
  refine (C1.out _ B4.out).mono ?_
  rintro e w5 ⟨rfl, hb⟩
  have B5 := Lib.hid (btr B4.out hb (Nat.le_refl _))
  clear hb
  go_wp2_with fail
  refine (C2.out _ B5.out).mono ?_
  rintro e w6 ⟨rfl, hb⟩
  have B6 := Lib.hid (btr B5.out hb (Nat.le_refl _))
  clear hb
  go_wp2_with fail
  refine (S1.out _ B6.out).mono ?_
  rintro e w7 ⟨P1, c1, rfl, hr, _, hb⟩
  have L1 := Lib.hid hr
  have B7 := Lib.hid (btr B6.out hb (Nat.le_refl _))
  clear hb hr
  rw [HN.out]
  go_wp2_with fail
  refine (S2.out _ B7.out).mono ?_
  rintro e w8 ⟨P2, c2, rfl, hr, _, hb⟩
  have L2 := Lib.hid hr
  have L1' := Lib.hid (L1.out.below hb)
  have B8 := Lib.hid (btr B7.out hb (Nat.le_refl _))
  clear hb hr
  rw [HN.out]
  go_wp2_with fail
  refine (E0.out _ _ _ _ _ L1'.out L2.out).mono ?_
  rintro e w9 ⟨rfl, hb⟩
  have B9 := Lib.hid (btr B8.out hb (Nat.le_refl _))
  clear hb
  go_wp2_with fail
  refine (S2.out _ B9.out).mono ?_
  rintro e w10 ⟨P3, c3, rfl, hr, _, hb⟩
  have L3 := Lib.hid hr
  have B10 := Lib.hid (btr B9.out hb (Nat.le_refl _))
  clear hb hr
  rw [HN.out]
  go_wp2_with fail
  clear S1 S2 E0 T1 T2 R1 R2 C1
  go_loopw [6] (fun i wr => ∃ k : Nat, k ≤ n ∧ i = .int .i64 k ∧ Below w10.heap.size w10 wr) (fun i _ => n - (intOf i).toNat)
  case atStart => exact ⟨0, by omega, rfl, Below.refl _ _⟩
  case round =>
    obtain ⟨k, hk, rfl, hC⟩ := hrel
    have HC := Lib.hid hC
    by_cases hlt : k < n
    · obtain ⟨⟨sx, gx⟩, hx⟩ : ∃ x, R[k]? = some x := ⟨_, List.getElem?_eq_getElem (by have := HN.out; omega)⟩
      obtain ⟨c, hc⟩ : ∃ c, om = some c := by
        cases om with
        | none => have h := hx; rw [← HR.out] at h; simp [runs] at h
        | some c => exact ⟨c, rfl⟩
      have hwf := HW.out c hc
      have hsx : sx ≤ 1024 := by
        have h := hx
        rw [← HR.out, hc] at h
        obtain ⟨m, hm, e⟩ := List.mem_map.1 (List.mem_of_getElem? h)
        have := (hwf.sp m hm).wf.s1
        have : m.s = sx := congrArg Prod.fst e
        omega
      have HX := Lib.hid hx
      have HZ := Lib.hid ((HZG.out c hc).1)
      have hnn := hwf.n1.2.1
      have KZ := Lib.hid (fun j (hj : j < c.n) => kz_le hwf hj)
      have ROc := Lib.hid (RO.out c hc)
      obtain ⟨nn, hnn2⟩ : ∃ nn, c.n = nn := ⟨_, rfl⟩
      rw [hnn2] at KZ hnn ROc
      have HB0 := Lib.hid (btr B10.out hC (Nat.le_refl _))
      clear hx hc hwf hnn2 hC
      go_wp2_with fail
      obtain ⟨W0, hW0⟩ : ∃ W0, wr = W0 := ⟨_, rfl⟩
      subst hW0
      go_loopw [7] (fun i wv => ∃ j : Nat, j ≤ nn ∧ i = .int .i64 j ∧ Below w10.heap.size w10 wv) (fun i _ => nn - (intOf i).toNat)
      case atStart => exact ⟨0, by omega, rfl, HC.out⟩
      case round =>
        clear HC HB0
        obtain ⟨j, hj, rfl, hD⟩ := hrel
        have HD := Lib.hid hD
        have HDw := Lib.hid (btr B10.out hD (Nat.le_refl _))
        clear hD
        go_wp2_with fail
        refine (C2.out _ HDw.out).mono ?_
        rintro e w11 ⟨rfl, hb⟩
        have HD1 := Lib.hid (btr HD.out hb (Nat.le_refl _))
        clear hb
        go_wp2_with fail
        refine (ROc.out _).mono ?_
        rintro e w12 ⟨rfl, hb⟩
        have HD2 := Lib.hid (btr HD1.out hb (Nat.le_refl _))
        have HE2 := Lib.hid (btr B10.out HD2.out (Nat.le_refl _))
        clear hb
        by_cases hlt2 : j < nn
        · obtain ⟨g, rfl, hgl, g1, g2⟩ := (L3.out.below HD2.out) k sx gx HX.out
          have hp := KZ.out j hlt2
          have hp0 : (0 : Int) ≤ (j : Int) * Z := by rw [HZ.out, ← Int.natCast_mul]; omega
          have hp1 : (j : Int) * Z ≤ 1024 := by rw [HZ.out, ← Int.natCast_mul]; omega
          have hin : InR ((sx : Int) * 256 + (j : Int) * Z) := ⟨by omega, by omega⟩
          have HIN := Lib.hid hin
          have HRX := Lib.hid (fun W (hb : Below w12.heap.size w12 W) => C2.out W (btr HE2.out hb (Nat.le_refl _)))
          go_wp2_with fail
          have G1 := CW.cell (N := w12.heap.size) (a := ⟨g, k * 2, none⟩) (World.block_lt_of_cell? _ _ g1) g1
          have hfx := fldC Z G T
          obtain ⟨m1, m2⟩ := w64 ((sx : Int) * 256) (by omega)
          obtain ⟨m3, m4⟩ := w64 ((j : Int) * Z) (by clear m1 m2; omega)
          obtain ⟨m5, m6⟩ := w64 ((sx : Int) * 256 + (j : Int) * Z) (by clear m1 m2 m3 m4; omega)
          clear g1 g2
          refine region_below2 (CW.mk (N := w12.heap.size) w12 (Below.refl _ _)) (by kernel_rfl) (by kernel_rfl) ?_
          repeat (first | go_big_quiet_step ((go_at_call 39; exact quietB2 HRX.out)) | quiet_step ((go_at_call 39; exact quietB2 HRX.out)))
          refine wpQuiet_nil ?_
          rintro _ ⟨nq, rfl⟩
          have HD3 := Lib.hid (btr HD2.out nq.bel (Nat.le_refl _))
          have HE3 := Lib.hid (btr HE2.out nq.bel (Nat.le_refl _))
          generalize nq.wd = wq at *
          clear m1 m2 m3 m4 m5 m6
          go_wp2_with fail
          refine (I1.out _ HE3.out _ HIN.out).mono ?_
          rintro e w13 ⟨rfl, hb⟩
          have HD4 := Lib.hid (btr HD3.out hb (Nat.le_refl _))
          have HE4 := Lib.hid (btr HE3.out hb (Nat.le_refl _))
          clear hb
          go_wp2_with fail
          refine (I2.out _ HE4.out _).mono ?_
          rintro e w14 ⟨rfl, hb⟩
          have HD5 := Lib.hid (btr HD4.out hb (Nat.le_refl _))
          clear hb
          generalize liV om _ = lv at *
          generalize liE om _ = le at *
          go_wp2_with fail
          go_roundw
          case rel => exact ⟨j + 1, by omega, by go_num, HD5.out⟩
          case measure => simp [intOf]; omega
        · go_wp2_with fail
          go_roundw
          case rel => exact ⟨k + 1, by omega, by go_num, HD2.out⟩
          case measure => simp [intOf]; omega
    · go_wp2_with fail
      go_ret
      exact ⟨rfl, btr B10.out HC.out (Nat.le_refl _)⟩
end Go.Proofs.YtejfoefhaphacaaGreat
