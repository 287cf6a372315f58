/- The document's own answers: classes and tables. -/
import Derived.Test.YtjloipljecjbaaaTc
import Derived.Test.YtjloipljecjbaaaLb
import Derived.Test.YtjloipljecjbaaaQa
namespace Go.Proofs.Ytjloipljecjbaaa
open Go.RowKit

set_option maxRecDepth 100000 in
set_option maxHeartbeats 1000000 in
theorem Right_any (s p b : Int) (w : World) :
    Calls Try.prog 17 #[.agg #[.int .i64 s, .int .i64 p, .int .i64 b]] w fun e w' => e = .returned (.bool (okC ⟨s, p, b⟩)) ∧ Below w.heap.size w w' := by
  go_enter Try.func17, Try.ntmps17
  go_wp2
  all_goals
    go_ret
    refine ⟨ret_bool ?_, bnew _ _⟩
    unfold okC
    rw [Bool.eq_iff_iff]
    simp only [decide_eq_true_eq, Bool.false_eq_true, false_iff]
    omega

theorem prevS_get {t : List Cl} {k : Nat} (h : 0 < k) : prevS t k = (t.getD (k - 1) default).s := by unfold prevS; rw [if_neg (by omega)]

set_option maxRecDepth 100000 in
set_option maxHeartbeats 2000000 in
theorem RValid_any (A : Option Addr) (cap : Nat) (t : List Cl) (w : World) (hl : t.length ≤ 9223372036854775807) (hT : TabAt w w.heap.size A t) :
    Calls Try.prog 19 #[.slice A t.length cap] w fun e w' => e = .returned (.bool (okT t)) ∧ Below w.heap.size w w' := by
  by_cases hlen : 1 ≤ t.length ∧ t.length ≤ 40
  · obtain ⟨hl1, hl2⟩ := hlen
    obtain ⟨n, hn⟩ : ∃ n : Nat, n = t.length := ⟨_, rfl⟩
    have HN := Lib.hid hn
    rw [← hn] at hl hl1 hl2 ⊢
    clear hn
    have HT := Lib.hid hT
    clear hT
    go_enter Try.func19, Try.ntmps19
    go_wp2
    go_loopw [3] (fun i wr => ∃ k : Nat, k ≤ n ∧ i = .int .i64 k ∧ AllOk t k ∧ Below w.heap.size w wr) (fun i _ => n - (intOf i).toNat)
    case atStart => exact ⟨0, by omega, rfl, fun _ h => absurd h (by omega), Below.refl _ _⟩
    case round =>
      obtain ⟨k, hk, rfl, hall, hB⟩ := hrel
      have HA := Lib.hid hall
      clear hall
      by_cases hlt : k < n
      · have hk' : k < t.length := by have := HN.out; omega
        obtain ⟨⟨cs, cp, cb⟩, hc⟩ : ∃ c, t[k]? = some c := ⟨_, List.getElem?_eq_getElem hk'⟩
        have hg : t.getD k default = ⟨cs, cp, cb⟩ := by rw [List.getD_eq_getElem?_getD, hc]; rfl
        have HG := Lib.hid hg
        obtain ⟨bk, o, rfl, hab, g1, g2, g3⟩ := (HT.out.below hB) k _ hc
        dsimp only at g1 g2 g3
        clear hg hc
        have at1 : okAt t k = (okC ⟨cs, cp, cb⟩ && decide (prevS t k < cs)) := by unfold okAt; rw [HG.out]
        have A1 := Lib.hid at1
        clear at1
        have hz := hB.size
        cases hok : okC ⟨cs, cp, cb⟩
        · have HR := Lib.hid (fun w => by have := Right_any cs cp cb w; rw [hok] at this; exact this : ∀ w, Calls Try.prog 17 #[.agg #[.int .i64 cs, .int .i64 cp, .int .i64 cb]] w fun e w' => e = .returned (.bool false) ∧ Below w.heap.size w w')
          have hkf : okAt t k = false := by rw [A1.out, hok]; rfl
          have HKF := Lib.hid hkf
          clear hok hkf
          go_wp2_with fail
          have G1 := CW.cell (a := ⟨bk, o + k * 3, none⟩) hab g1
          have G2 := CW.cell (a := ⟨bk, o + k * 3 + 1, none⟩) hab g2
          have G3 := CW.cell (a := ⟨bk, o + k * 3 + 2, none⟩) hab g3
          refine region_below w.heap.size (by kernel_rfl) (by kernel_rfl) ?_
          repeat (first | go_big_quiet_step ((go_at_call 17; exact quietB hz (HR.out _))) | quiet_step ((go_at_call 17; exact quietB hz (HR.out _))))
          refine wpQuiet_nil ?_
          rintro _ ⟨nq, rfl⟩
          have hbn := hB.trans nq.bel
          go_wp2_with fail
          go_ret
          exact ⟨ret_bool (okT_false hk' HKF.out).symm, hbn⟩
        · have HR := Lib.hid (fun w => by have := Right_any cs cp cb w; rw [hok] at this; exact this : ∀ w, Calls Try.prog 17 #[.agg #[.int .i64 cs, .int .i64 cp, .int .i64 cb]] w fun e w' => e = .returned (.bool true) ∧ Below w.heap.size w w')
          obtain ⟨k1, _⟩ := okC_bd hok
          rcases Nat.eq_zero_or_pos k with h0 | h0
          · have hkt : okAt t k = true := by rw [A1.out, hok, h0, prevS_zero, decide_eq_true (by omega)]; rfl
            have HKT := Lib.hid hkt
            have hd0 : decide (0 < k) = false := decide_eq_false (by omega)
            clear h0
            clear hok hkt
            go_wp2_with fail
            have G1 := CW.cell (a := ⟨bk, o + k * 3, none⟩) hab g1
            have G2 := CW.cell (a := ⟨bk, o + k * 3 + 1, none⟩) hab g2
            have G3 := CW.cell (a := ⟨bk, o + k * 3 + 2, none⟩) hab g3
            refine region_below w.heap.size (by kernel_rfl) (by kernel_rfl) ?_
            repeat (first | go_big_quiet_step ((go_at_call 17; exact quietB hz (HR.out _))) | quiet_step ((go_at_call 17; exact quietB hz (HR.out _))))
            refine wpQuiet_nil ?_
            rintro _ ⟨nq, rfl⟩
            have hbn := hB.trans nq.bel
            go_wp2_with fail
            go_roundw
            case rel => exact ⟨k + 1, by omega, by go_num, HA.out.snoc HKT.out, hbn⟩
            case measure => simp [intOf]; omega
          · have hk1 : k - 1 < t.length := by omega
            obtain ⟨⟨ps, pp, pb⟩, hpc⟩ : ∃ c, t[k - 1]? = some c := ⟨_, List.getElem?_eq_getElem hk1⟩
            have hps : prevS t k = ps := by rw [prevS_get h0, List.getD_eq_getElem?_getD, hpc]; rfl
            obtain ⟨bk', o', hA', hab', g1', _, _⟩ := (HT.out.below hB) (k - 1) _ hpc
            cases hA'
            dsimp only at g1'
            rw [hps] at A1
            clear hpc hps
            obtain ⟨q, hq⟩ : ∃ q, k = q + 1 := ⟨k - 1, by omega⟩
            subst hq
            rw [Nat.add_sub_cancel] at g1'
            have G0 := CW.cell (a := ⟨bk, o + q * 3, none⟩) hab g1'
            by_cases hgt : ps < cs
            · have hkt : okAt t (q + 1) = true := by rw [A1.out, hok, decide_eq_true hgt]; rfl
              have HKT := Lib.hid hkt
              have hd : decide (cs ≤ ps) = false := decide_eq_false (by omega)
              clear hok hkt
              go_wp2_with fail
              have G1 := CW.cell (a := ⟨bk, o + (q + 1) * 3, none⟩) hab g1
              have G2 := CW.cell (a := ⟨bk, o + (q + 1) * 3 + 1, none⟩) hab g2
              have G3 := CW.cell (a := ⟨bk, o + (q + 1) * 3 + 2, none⟩) hab g3
              refine region_below w.heap.size (by kernel_rfl) (by kernel_rfl) ?_
              repeat (first | go_big_quiet_step ((go_at_call 17; exact quietB hz (HR.out _))) | quiet_step ((go_at_call 17; exact quietB hz (HR.out _))))
              refine wpQuiet_nil ?_
              rintro _ ⟨nq, rfl⟩
              have hbn := hB.trans nq.bel
              go_wp2_with fail
              go_roundw
              case rel => exact ⟨q + 1 + 1, by omega, by go_num, HA.out.snoc HKT.out, hbn⟩
              case measure => simp [intOf]; omega
            · have hkf : okAt t (q + 1) = false := by rw [A1.out, hok, decide_eq_false hgt]; rfl
              have HKF := Lib.hid hkf
              have hd : decide (cs ≤ ps) = true := decide_eq_true (by omega)
              clear hok hkf
              go_wp2_with fail
              have G1 := CW.cell (a := ⟨bk, o + (q + 1) * 3, none⟩) hab g1
              have G2 := CW.cell (a := ⟨bk, o + (q + 1) * 3 + 1, none⟩) hab g2
              have G3 := CW.cell (a := ⟨bk, o + (q + 1) * 3 + 2, none⟩) hab g3
              refine region_below w.heap.size (by kernel_rfl) (by kernel_rfl) ?_
              repeat (first | go_big_quiet_step ((go_at_call 17; exact quietB hz (HR.out _))) | quiet_step ((go_at_call 17; exact quietB hz (HR.out _))))
              refine wpQuiet_nil ?_
              rintro _ ⟨nq, rfl⟩
              have hbn := hB.trans nq.bel
              go_wp2_with fail
              go_ret
              exact ⟨ret_bool (okT_false hk' HKF.out).symm, hbn⟩
      · go_wp2
        go_ret
        obtain rfl : k = n := by omega
        exact ⟨ret_bool (okT_true (by rw [← HN.out]; exact hl1) (by rw [← HN.out]; exact hl2) (by rw [← HN.out]; exact HA.out)).symm, hB⟩
  · have hf : okT t = false := okT_false_len hlen
    have HF := Lib.hid hf
    clear hf hT
    by_cases h1 : t.length < 1
    · go_enter Try.func19, Try.ntmps19
      go_wp2
      go_ret
      exact ⟨ret_bool HF.out.symm, Below.refl _ _⟩
    · have h2 : 40 < t.length := by omega
      clear hlen
      go_enter Try.func19, Try.ntmps19
      go_wp2
      go_ret
      exact ⟨ret_bool HF.out.symm, Below.refl _ _⟩

end Go.Proofs.Ytjloipljecjbaaa
