/- The statements' helpers: how many objects of each span are taken; a number in a list. -/
import Derived.Test.YtjacbkaeploabaaWc
namespace Go.Proofs.Ytjacbkaeploabaa
open Go.RowKit Go.Shelf

theorem hl_next {f : Nat → Bool} {k : Nat} : hl f 0 (k + 1) = hl f 0 k ++ (if f k = true then [k] else []) := by
  rw [hl_split (c := f) (k := 0) (m := k) (n := k + 1) (by omega) (by omega)]
  congr 1
  by_cases h : f k = true
  · rw [hl_hit (Nat.lt_succ_self k) h, hl_end (Nat.le_refl _), if_pos h]
  · have h : f k = false := by simpa using h
    rw [hl_miss (Nat.lt_succ_self k) h, hl_end (Nat.le_refl _), h]; rfl
/-- How many of a span's first objects are taken. -/
def cnt (m : Mo) (j : Nat) : Nat := (hl m.f 0 j).length
theorem cnt_next (m : Mo) (j : Nat) : cnt m (j + 1) = cnt m j + if m.f j = true then 1 else 0 := by
  unfold cnt
  rw [hl_next, List.length_append]
  split <;> rfl
theorem cnt_all (m : Mo) : cnt m m.n = tc m := rfl
theorem cnt_le (m : Mo) (j : Nat) : cnt m j ≤ j := by have := hl_len m.f 0 j; unfold cnt; omega
theorem cw_grown {w1 wr w' : World} {c : Ce} {row : Option Nat} (h : Cw w1 c wr) (hg : wr.grownBy w' row) (hr : ∀ k, row = some k → w1.heap.size + 1 ≤ k) : Cw w1 c w' := by
  have hb := hg.block w1.heap.size h.2.1 (fun e => by have := hr _ e.symm; omega)
  exact ⟨h.1.grown hg h.1.size (fun k e => by have := hr k e; omega), Nat.lt_of_lt_of_le h.2.1 hg.size, (World.cell?_of_block (a := ⟨_, 0, none⟩) hb).trans h.2.2.1, (World.cell?_of_block (a := ⟨_, 1, none⟩) hb).trans h.2.2.2.1, (World.cell?_of_block (a := ⟨_, 2, none⟩) hb).trans h.2.2.2.2⟩

set_option maxRecDepth 100000 in
set_option maxHeartbeats 4000000 in
theorem taken_any {w : World} {O1 : Nat → Prop} {a : Value} {c : Ce} (h1 : LOb false w O1 a (some c)) :
    Calls Try.prog 22 #[a] w fun e w' => ∃ A cp, e = .returned (.slice A (c.L.map tc).length cp) ∧ LAt w' A (c.L.map tc) ∧ NewA w A ∧ Below w.heap.size w w' := by
  obtain ⟨i0, hi, hz0, hz1, hz2⟩ := info_parts info3
  obtain ⟨bA, rfl⟩ := lob_ptr h1
  have hwf : CWf c := by obtain ⟨_, _, _, _, h⟩ := h1; exact h.wf
  have hlen : (runs (some c)).length ≤ 1024 := by show (c.L.map _).length ≤ _; rw [List.length_map]; exact hwf.len
  have S1 := Lib.hid (fun W (hb : Below w.heap.size w W) => cSpans_any (h1.below hb))
  have C1 := Lib.hid (fun W (hb : Below w.heap.size w W) => cClass_any (h1.below hb))
  have I1 := Lib.hid (fun W (hb : Below w.heap.size w W) => cIsTaken_any (h1.below hb))
  have RO := Lib.hid (fun W => RObjects_any c.z c.g c.t W (by have := hwf.g1; omega) (by have := hwf.g2; omega) (by have := hwf.z1; omega) (by have := hwf.z2; omega))
  have HW := Lib.hid hwf
  have hnn := hwf.n1.2.1
  obtain ⟨nn, hnn2⟩ : ∃ nn, c.n = nn := ⟨_, rfl⟩
  have HNN := Lib.hid hnn2
  have KZ := Lib.hid (fun j (hj : j < c.n) => kz_le hwf hj)
  rw [hnn2] at KZ hnn
  simp only [ro_n, hnn2] at RO
  clear hnn2
  rw [show clC (some c) = .agg #[.int .i64 c.z, .int .i64 c.g, .int .i64 c.t] from rfl] at C1
  clear h1 hwf
  obtain ⟨R, hR⟩ : ∃ R, runs (some c) = R := ⟨_, rfl⟩
  have HR := Lib.hid hR
  rw [hR] at S1 hlen
  obtain ⟨n, hn⟩ : ∃ n, R.length = n := ⟨_, rfl⟩
  have HN := Lib.hid hn
  have HNL := Lib.hid (show c.L.length = n by rw [← hn, ← hR]; show _ = (c.L.map _).length; rw [List.length_map])
  rw [hn] at hlen
  clear hR hn
  go_enter Try.func22, Try.ntmps22
  go_wp2_with fail
  refine (S1.out _ (Below.refl _ _)).mono ?_
  rintro e w1 ⟨P1, c1, rfl, hr, _, hb⟩
  have L1 := Lib.hid hr
  have B1 := Lib.hid hb
  clear hb hr
  rw [HN.out]
  go_wp2_with fail
  refine (C1.out _ B1.out).mono ?_
  rintro e w2 ⟨rfl, hb⟩
  have L2 := Lib.hid (L1.out.below hb)
  have B2 := Lib.hid (btr B1.out hb (Nat.le_refl _))
  clear hb L1
  go_wp2_with fail
  go_loopw [3, 6] (fun t i wr => ∃ k : Nat, k ≤ n ∧ i = .int .i64 k ∧ Cw w2 c wr ∧ wr.ownsRow (w2.heap.size + 1) 3 1 t k (cellsI ((c.L.map tc).take k))) (fun _ i _ => n - (intOf i).toNat)
  case atStart => exact ⟨0, by omega, rfl, cw_new w2 c, World.ownsRow_nil _ _ _ _⟩
  case round =>
    obtain ⟨k, hk, rfl, hC, hrow⟩ := hrel
    obtain ⟨A6, c6, rfl⟩ := owns_form hrow
    by_cases hlt : k < n
    · obtain ⟨m, hm⟩ : ∃ m, c.L[k]? = some m := ⟨_, List.getElem?_eq_getElem (by have := HNL.out; omega)⟩
      have hx : R[k]? = some (m.s, m.g) := by rw [← HR.out]; show (c.L.map _)[k]? = _; rw [List.getElem?_map, hm]; rfl
      have hof := HW.out.at hm
      have hsx : m.s ≤ 1024 := by have := hof.wf.s1; omega
      have HTK := Lib.hid (show (c.L.map tc).take (k + 1) = (c.L.map tc).take k ++ [tc m] from by rw [List.take_add_one, List.getElem?_map, hm]; rfl)
      have HLV := Lib.hid (fun j (hj : j < nn) => show liV (some c) ((m.s : Int) * 256 + (j : Int) * c.z) = m.f j from by
        have h := liV_set HW.out hm (q := j) (by rw [hof.n, HNN.out]; exact hj)
        have e : ((adr m j : Nat) : Int) = (m.s : Int) * 256 + (j : Int) * c.z := by unfold adr; rw [hof.z]; push_cast; rfl
        rw [e] at h
        exact h)
      have HCA := Lib.hid (show cnt m nn = tc m from by rw [← HNN.out, ← hof.n]; rfl)
      have HX := Lib.hid hx
      have HRW := Lib.hid hrow
      clear hx hm hof hrow
      generalize m.s = sx at *
      generalize m.g = gx at *
      have HCJ := Lib.hid (fun j => cnt_next m j)
      have HC0 := Lib.hid (show cnt m 0 = 0 from rfl)
      have HCL := Lib.hid (fun j => cnt_le m j)
      generalize hcn : cnt m = cn at *
      generalize m.f = mf at *
      generalize tc m = tcm at *
      clear hcn
      go_wp2_with fail
      go_loopw [7, 8] (fun cv i wr => ∃ j : Nat, j ≤ nn ∧ i = .int .i64 j ∧ cv = .int .i64 (cn j : Nat) ∧ Cw w2 c wr ∧ wr.ownsRow (w2.heap.size + 1) 3 1 (.slice A6 k c6) k (cellsI ((c.L.map tc).take k))) (fun _ i _ => nn - (intOf i).toNat)
      case atStart => exact ⟨0, by omega, rfl, by rw [HC0.out]; rfl, hC, HRW.out⟩
      case round =>
        obtain ⟨j, hj, rfl, rfl, hD, hrow2⟩ := hrel
        obtain ⟨d0, d1, d2⟩ := hD.2.2
        have HD := Lib.hid hD
        have HR2 := Lib.hid hrow2
        clear hD hC hrow2
        go_wp2_with fail
        refine (RO.out _).mono ?_
        rintro e w12 ⟨rfl, hb⟩
        have hD2 := HD.out.below hb
        obtain ⟨f0, f1, f2⟩ := hD2.2.2
        obtain ⟨g, rfl, hgl, g1, g2⟩ := (L2.out.below hD2.1) k sx gx HX.out
        have B12 := Lib.hid (btr B2.out hD2.1 (Nat.le_refl _))
        have HD2 := Lib.hid hD2
        have HR3 := Lib.hid (owns_below HR2.out hb)
        have hcl := HCL.out j
        clear hb d0 d1 d2
        by_cases hlt2 : j < nn
        · have hp := KZ.out j hlt2
          have hp0 : (0 : Int) ≤ (j : Int) * c.z := by rw [← Int.natCast_mul]; omega
          have hp1 : (j : Int) * c.z ≤ 1024 := by rw [← Int.natCast_mul]; omega
          have hin : InR ((sx : Int) * 256 + (j : Int) * c.z) := ⟨by omega, by omega⟩
          have HI := Lib.hid (fun W (hb : Below w12.heap.size w12 W) => I1.out W (btr B12.out hb (Nat.le_refl _)) _ hin)
          rw [HLV.out j hlt2] at HI
          have G1 := CW.cell (N := w12.heap.size) (a := ⟨g, k * 2, none⟩) hgl g1
          have G3 := CW.cell (N := w12.heap.size) (a := ⟨w2.heap.size, 0, none⟩) hD2.2.1 f0
          clear hin hgl g1 g2 f0 f1 f2 hD2
          go_wp2_with fail
          refine region_below w12.heap.size (by kernel_rfl) (by kernel_rfl) ?_
          repeat (first | go_big_quiet_step ((go_at_call 32; exact quietB (Nat.le_refl _) (HI.out _ (CW.bel _)))) | quiet_step ((go_at_call 32; exact quietB (Nat.le_refl _) (HI.out _ (CW.bel _)))))
          refine wpQuiet_nil ?_
          rintro _ ⟨nq, rfl⟩
          have hnb := nq.bel
          have HD4 := Lib.hid (HD2.out.below hnb)
          have HR4 := Lib.hid (owns_below HR3.out hnb)
          have hcj := HCJ.out j
          clear hnb HI
          generalize nq.wd = w13 at *
          generalize liE (some c) _ = le at *
          cases hf : mf j with
          | true =>
            rw [hf, if_pos rfl] at hcj
            go_wp2_with fail
            go_roundw
            case rel => exact ⟨j + 1, by omega, by go_num, by rw [hcj]; go_num, HD4.out, HR4.out⟩
            case measure => simp [intOf]; omega
          | false =>
            rw [hf, if_neg (by decide)] at hcj
            go_wp2_with fail
            go_roundw
            case rel => exact ⟨j + 1, by omega, by go_num, by rw [hcj]; rfl, HD4.out, HR4.out⟩
            case measure => simp [intOf]; omega
        · obtain rfl : j = nn := by omega
          rw [HCA.out] at hcl ⊢
          have hrow := HR3.out
          have hw2 := HD2.out.1.size
          have hlt3 := HD2.out.2.1
          go_wp2_with (at_builtin; (refine wpList_append_own _ rfl _ _ 29 rfl (w2.heap.size + 1) 3 i0 (.int .i64 0) 1 8 Try.underlying29 hi hz0 hz1 hz2 rfl (by decide) _ _ _ rfl (HR3.out.alloc _) ⟨w12.heap.size, 0, none⟩ 1 1 [.int .i64 (tcm : Nat)] rfl rfl (cells1_new w12 _ _) (by simp [Value.oneCell']) (by unfold maxLen; omega) (by omega) (by simp; omega) ?_; intro v' w4 hown' hgrow _; have HO4 := Lib.hid hown'; have HC4 := Lib.hid (cw_grown (HD2.out.below (bnew w12 (.cells #[.int .i64 (tcm : Nat)] 3))) hgrow (fun k e => (HR3.out.lt k e).1)); clear hown' hgrow))
          go_roundw
          case rel => exact ⟨k + 1, by omega, by go_num, HC4.out, by rw [HTK.out, show cellsI ((c.L.map tc).take k ++ [tcm]) = cellsI ((c.L.map tc).take k) ++ [.int .i64 tcm] from cellsI_snoc _ _]; exact HO4.out⟩
          case measure => simp [intOf]; omega
    · obtain rfl : k = n := by omega
      have e : (c.L.map tc).take k = c.L.map tc := List.take_of_length_le (by rw [List.length_map, HNL.out]; exact Nat.le_refl _)
      rw [e] at hrow
      have HRW := Lib.hid hrow
      have HC := Lib.hid hC
      clear hrow hC e
      go_wp2_with fail
      go_ret
      have hl : (c.L.map tc).length = k := by rw [List.length_map, HNL.out]
      rw [hl]
      have hrow := HRW.out
      rw [← hl] at hrow
      have hs := B2.out.size
      have h2 := lat_of (w := w) (owns_base hrow (by omega))
      exact ⟨A6, c6, rfl, h2.1, h2.2, btr B2.out HC.out.1 (Nat.le_refl _)⟩

end Go.Proofs.Ytjacbkaeploabaa
