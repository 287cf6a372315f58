/- Classes and tables: what Valid returns, the program's and the document's. -/
import Derived.Test.YticcjelaenhigaaPi
namespace Go.Proofs.Yticcjelaenhigaa
open Go.RowKit

/-- A call that leaves the world as it was is quiet behind any draws. -/
theorem quietL {P : Program} {f : FuncId} {args : Array Value} {w : World} {k : Nat} {r : Value} (hc : Calls P f args (w.drewN k) fun e w' => e = .returned r ∧ w.drewN k = w') :
    Calls P f args (w.drewN k) fun e w' => e = .returned r ∧ ∃ j, w' = w.drewN j := by
  refine hc.mono ?_
  rintro e w' ⟨he, rfl⟩
  exact ⟨he, k, rfl⟩
structure Cs where
  s : Int
  p : Int
  b : Int

def Cs.val (c : Cs) : Value := .agg #[.int .i64 c.s, .int .i64 c.p, .int .i64 c.b]

def okC (c : Cs) : Bool := decide (8 ≤ c.s ∧ c.s ≤ 512 ∧ c.s % 8 = 0 ∧ 1 ≤ c.p ∧ c.p ≤ 4 ∧ c.s ≤ c.p * 256 ∧ 1 ≤ c.b ∧ c.b ≤ 32)

set_option maxHeartbeats 400000 in
theorem spanBytes_any (p : Int) (w : World) (h0 : 0 ≤ p) (h1 : p ≤ 16) :
    Calls Try.prog 77 #[.int .i64 p] w fun e w' => e = .returned (.int .i64 (p * 256)) ∧ w = w' := by
  go_enter Try.func77, Try.ntmps77
  go_wp2
  go_ret
  exact ⟨rfl, rfl⟩

set_option maxHeartbeats 400000 in
theorem validClass_any (s p b : Int) (w : World) :
    Calls Try.prog 67 #[.agg #[.int .i64 s, .int .i64 p, .int .i64 b]] w fun e w' => e = .returned (.bool (okC ⟨s, p, b⟩)) ∧ Below w.heap.size w w' := by
  go_enter Try.func67, Try.ntmps67
  go_wp2
  refine wp_region_quiet_lit (by kernel_rfl) (by kernel_rfl) ?_
  repeat (any_goals (first | go_big_quiet_step ((go_at_call 77; exact quietL (spanBytes_any _ _ (by omega) (by omega)))) | quiet_step ((go_at_call 77; exact quietL (spanBytes_any _ _ (by omega) (by omega)))) | (refine wpQuiet_step (fun K hK => ?_); go_simp; split <;> (refine hK _ ?_; clear hK K))))
  all_goals (refine wpQuiet_nil ?_; intro _ hw'; obtain ⟨nq, hw''⟩ := hw'; subst hw'')
  all_goals
    go_wp2
    go_ret
    refine ⟨ret_bool ?_, belowN ((Below.refl _ _).alloc (Nat.le_refl _) _) _⟩
    unfold okC
    rw [Bool.eq_iff_iff]
    simp only [decide_eq_true_eq, Bool.false_eq_true, false_iff]
    omega

theorem okC_bd {s p b : Int} (h : okC ⟨s, p, b⟩ = true) : 8 ≤ s ∧ s ≤ 512 ∧ s % 8 = 0 ∧ 1 ≤ p ∧ p ≤ 4 ∧ s ≤ p * 256 ∧ 1 ≤ b ∧ b ≤ 32 := by
  unfold okC at h
  simpa using h

/-- The slice's cells hold the classes, in blocks below B. -/
def TabAt (w : World) (B : Nat) (A : Option Addr) (t : List Cs) : Prop :=
  ∀ (k : Nat) (c : Cs), t[k]? = some c → ∃ b o : Nat, A = some ⟨b, o, none⟩ ∧ b < B ∧ w.cell? ⟨b, o + k * 3, none⟩ = some (.int .i64 c.s) ∧ w.cell? ⟨b, o + k * 3 + 1, none⟩ = some (.int .i64 c.p) ∧ w.cell? ⟨b, o + k * 3 + 2, none⟩ = some (.int .i64 c.b)

theorem TabAt.below {w w' : World} {B : Nat} {A : Option Addr} {t : List Cs} (h : TabAt w B A t) (hb : Below B w w') : TabAt w' B A t := fun k c hk => by
  obtain ⟨b, o, e, hB, h1, h2, h3⟩ := h k c hk
  exact ⟨b, o, e, hB, (hb.cell (p := ⟨b, _, none⟩) hB).trans h1, (hb.cell (p := ⟨b, _, none⟩) hB).trans h2, (hb.cell (p := ⟨b, _, none⟩) hB).trans h3⟩
theorem TabAt.more {w : World} {B B' : Nat} {A : Option Addr} {t : List Cs} (h : TabAt w B A t) (hb : B ≤ B') : TabAt w B' A t := fun k c hk => by
  obtain ⟨b, o, e, hB, h1, h2, h3⟩ := h k c hk
  exact ⟨b, o, e, Nat.lt_of_lt_of_le hB hb, h1, h2, h3⟩

instance : Inhabited Cs := ⟨⟨0, 0, 0⟩⟩
def prevS (t : List Cs) (k : Nat) : Int := if k = 0 then 0 else (t.getD (k - 1) default).s
def okAt (t : List Cs) (k : Nat) : Bool := okC (t.getD k default) && decide (prevS t k < (t.getD k default).s)
def okT (t : List Cs) : Bool := decide (1 ≤ t.length ∧ t.length ≤ 40) && (List.range t.length).all (okAt t)

def AllOk (t : List Cs) (k : Nat) : Prop := ∀ j : Nat, j < k → okAt t j = true
theorem AllOk.snoc {t : List Cs} {k : Nat} (h : AllOk t k) (h1 : okAt t k = true) : AllOk t (k + 1) := fun j hj => by
  rcases Nat.lt_or_ge j k with hlt | hge
  · exact h j hlt
  · obtain rfl : j = k := by omega
    exact h1
theorem okT_true {t : List Cs} (h1 : 1 ≤ t.length) (h2 : t.length ≤ 40) (h : AllOk t t.length) : okT t = true := by
  unfold okT
  rw [Bool.and_eq_true]
  exact ⟨decide_eq_true ⟨h1, h2⟩, List.all_eq_true.2 fun j hj => h j (List.mem_range.1 hj)⟩
theorem okT_len {t : List Cs} (h : okT t = true) : 1 ≤ t.length ∧ t.length ≤ 40 := by
  unfold okT at h
  rw [Bool.and_eq_true] at h
  exact of_decide_eq_true h.1
theorem okT_all {t : List Cs} (h : okT t = true) : AllOk t t.length := fun j hj => by
  unfold okT at h
  rw [Bool.and_eq_true] at h
  exact List.all_eq_true.1 h.2 j (List.mem_range.2 hj)
theorem okT_false {t : List Cs} {k : Nat} (hk : k < t.length) (h : okAt t k = false) : okT t = false := by
  rw [Bool.eq_false_iff]
  intro hT
  have := okT_all hT k hk
  rw [h] at this
  cases this
theorem okT_false_len {t : List Cs} (h : ¬ (1 ≤ t.length ∧ t.length ≤ 40)) : okT t = false := by
  rw [Bool.eq_false_iff]
  intro hT
  exact h (okT_len hT)

theorem prevS_succ (t : List Cs) (k : Nat) : prevS t (k + 1) = (t.getD k default).s := by unfold prevS; rw [if_neg (by omega)]; rfl
theorem prevS_zero (t : List Cs) : prevS t 0 = 0 := rfl

set_option maxRecDepth 100000 in
set_option maxHeartbeats 1000000 in
theorem Valid_any (A : Option Addr) (cap : Nat) (t : List Cs) (w : World) (hl : t.length ≤ 9223372036854775807) (hT : TabAt w w.heap.size A t) :
    Calls Try.prog 39 #[.slice A t.length cap] w fun e w' => e = .returned (.bool (okT t)) ∧ Below w.heap.size w w' := by
  by_cases hlen : 1 ≤ t.length ∧ t.length ≤ 40
  · obtain ⟨hl1, hl2⟩ := hlen
    obtain ⟨n, hn⟩ : ∃ n : Nat, n = t.length := ⟨_, rfl⟩
    have HN := Lib.hid hn
    rw [← hn] at hl hl1 hl2 ⊢
    clear hn
    have HT := Lib.hid hT
    clear hT
    go_enter Try.func39, Try.ntmps39
    go_wp2
    go_loopw [3, 16] (fun v i wr => ∃ k : Nat, k ≤ n ∧ i = .int .i64 k ∧ v = .int .i64 (prevS t k) ∧ AllOk t k ∧ Below w.heap.size w wr) (fun _ i _ => n - (intOf i).toNat)
    case atStart => exact ⟨0, by omega, rfl, rfl, fun _ h => absurd h (by omega), Below.refl _ _⟩
    case round =>
      obtain ⟨k, hk, rfl, rfl, hall, hB⟩ := hrel
      have HA := Lib.hid hall
      clear hall
      by_cases hlt : k < n
      · have hk' : k < t.length := by have := HN.out; omega
        obtain ⟨⟨cs, cp, cb⟩, hc⟩ : ∃ c, t[k]? = some c := ⟨_, List.getElem?_eq_getElem hk'⟩
        have hg : t.getD k default = ⟨cs, cp, cb⟩ := by rw [List.getD_eq_getElem?_getD, hc]; rfl
        have HG := Lib.hid hg
        obtain ⟨bk, o, rfl, hab, g1, g2, g3⟩ := (HT.out.below hB) k _ hc
        dsimp only at g1 g2 g3
        clear hg hc
        have at1 : okAt t k = (okC ⟨cs, cp, cb⟩ && decide (prevS t k < cs)) := by unfold okAt; rw [HG.out]
        have A1 := Lib.hid at1
        clear at1
        have nx : prevS t (k + 1) = cs := by rw [prevS_succ, HG.out]
        have NX := Lib.hid nx
        clear nx
        cases hok : okC ⟨cs, cp, cb⟩
        · go_wp2_with (go_at_call 67; refine (validClass_any _ _ _ _).mono ?_; rintro e w1 ⟨rfl, hb1⟩)
          go_ret
          exact ⟨ret_bool (okT_false hk' (by rw [A1.out, hok]; rfl)).symm, btr hB (btr (bnew wr _) hb1 (Nat.le_refl _)) (Nat.le_refl _)⟩
        · by_cases hgt : prevS t k < cs
          · go_wp2_with (go_at_call 67; refine (validClass_any _ _ _ _).mono ?_; rintro e w1 ⟨rfl, hb1⟩; have d0 := hb1.cell (p := ⟨wr.heap.size, 0, none⟩) (by simp))
            go_roundw
            case rel => exact ⟨k + 1, by omega, by go_num, by rw [NX.out], HA.out.snoc (by rw [A1.out, hok, decide_eq_true hgt]; rfl), btr hB (btr (bnew wr _) hb1 (Nat.le_refl _)) (Nat.le_refl _)⟩
            case measure => simp [intOf]; omega
          · go_wp2_with (go_at_call 67; refine (validClass_any _ _ _ _).mono ?_; rintro e w1 ⟨rfl, hb1⟩; have d0 := hb1.cell (p := ⟨wr.heap.size, 0, none⟩) (by simp))
            go_ret
            exact ⟨ret_bool (okT_false hk' (by rw [A1.out, hok, decide_eq_false (show ¬ prevS t k < cs by omega)]; rfl)).symm, btr hB (btr (bnew wr _) hb1 (Nat.le_refl _)) (Nat.le_refl _)⟩
      · go_wp2
        go_ret
        obtain rfl : k = n := by omega
        exact ⟨ret_bool (okT_true (by rw [← HN.out]; exact hl1) (by rw [← HN.out]; exact hl2) (by rw [← HN.out]; exact HA.out)).symm, hB⟩
  · have hf : okT t = false := okT_false_len hlen
    have HF := Lib.hid hf
    clear hf hT
    by_cases h1 : t.length < 1
    · go_enter Try.func39, Try.ntmps39
      go_wp2
      go_ret
      exact ⟨ret_bool HF.out.symm, Below.refl _ _⟩
    · have h2 : 40 < t.length := by omega
      clear hlen
      go_enter Try.func39, Try.ntmps39
      go_wp2
      go_ret
      exact ⟨ret_bool HF.out.symm, Below.refl _ _⟩

set_option maxRecDepth 100000 in
set_option maxHeartbeats 1000000 in
theorem Right_any (s p b : Int) (w : World) :
    Calls Try.prog 68 #[.agg #[.int .i64 s, .int .i64 p, .int .i64 b]] w fun e w' => e = .returned (.bool (okC ⟨s, p, b⟩)) ∧ Below w.heap.size w w' := by
  go_enter Try.func68, Try.ntmps68
  go_wp2
  all_goals
    go_ret
    refine ⟨ret_bool ?_, bnew _ _⟩
    unfold okC
    rw [Bool.eq_iff_iff]
    simp only [decide_eq_true_eq, Bool.false_eq_true, false_iff]
    omega

theorem prevS_get {t : List Cs} {k : Nat} (h : 0 < k) : prevS t k = (t.getD (k - 1) default).s := by unfold prevS; rw [if_neg (by omega)]

set_option maxRecDepth 100000 in
set_option maxHeartbeats 2000000 in
theorem RValid_any (A : Option Addr) (cap : Nat) (t : List Cs) (w : World) (hl : t.length ≤ 9223372036854775807) (hT : TabAt w w.heap.size A t) :
    Calls Try.prog 40 #[.slice A t.length cap] w fun e w' => e = .returned (.bool (okT t)) ∧ Below w.heap.size w w' := by
  by_cases hlen : 1 ≤ t.length ∧ t.length ≤ 40
  · obtain ⟨hl1, hl2⟩ := hlen
    obtain ⟨n, hn⟩ : ∃ n : Nat, n = t.length := ⟨_, rfl⟩
    have HN := Lib.hid hn
    rw [← hn] at hl hl1 hl2 ⊢
    clear hn
    have HT := Lib.hid hT
    clear hT
    go_enter Try.func40, Try.ntmps40
    go_wp2
    go_loopw [3] (fun i wr => ∃ k : Nat, k ≤ n ∧ i = .int .i64 k ∧ AllOk t k ∧ Below w.heap.size w wr) (fun i _ => n - (intOf i).toNat)
    case atStart => exact ⟨0, by omega, rfl, fun _ h => absurd h (by omega), Below.refl _ _⟩
    case round =>
      obtain ⟨k, hk, rfl, hall, hB⟩ := hrel
      have HA := Lib.hid hall
      clear hall
      by_cases hlt : k < n
      · have hk' : k < t.length := by have := HN.out; omega
        obtain ⟨⟨cs, cp, cb⟩, hc⟩ : ∃ c, t[k]? = some c := ⟨_, List.getElem?_eq_getElem hk'⟩
        have hg : t.getD k default = ⟨cs, cp, cb⟩ := by rw [List.getD_eq_getElem?_getD, hc]; rfl
        have HG := Lib.hid hg
        obtain ⟨bk, o, rfl, hab, g1, g2, g3⟩ := (HT.out.below hB) k _ hc
        dsimp only at g1 g2 g3
        clear hg hc
        have at1 : okAt t k = (okC ⟨cs, cp, cb⟩ && decide (prevS t k < cs)) := by unfold okAt; rw [HG.out]
        have A1 := Lib.hid at1
        clear at1
        have hz := hB.size
        cases hok : okC ⟨cs, cp, cb⟩
        · have HR := Lib.hid (fun w => by have := Right_any cs cp cb w; rw [hok] at this; exact this : ∀ w, Calls Try.prog 68 #[.agg #[.int .i64 cs, .int .i64 cp, .int .i64 cb]] w fun e w' => e = .returned (.bool false) ∧ Below w.heap.size w w')
          have hkf : okAt t k = false := by rw [A1.out, hok]; rfl
          have HKF := Lib.hid hkf
          clear hok hkf
          go_wp2_with fail
          have G1 := CW.cell (a := ⟨bk, o + k * 3, none⟩) hab g1
          have G2 := CW.cell (a := ⟨bk, o + k * 3 + 1, none⟩) hab g2
          have G3 := CW.cell (a := ⟨bk, o + k * 3 + 2, none⟩) hab g3
          refine region_below w.heap.size (by kernel_rfl) (by kernel_rfl) ?_
          repeat (first | go_big_quiet_step ((go_at_call 68; exact quietB hz (HR.out _))) | quiet_step ((go_at_call 68; exact quietB hz (HR.out _))))
          refine wpQuiet_nil ?_
          rintro _ ⟨nq, rfl⟩
          have hbn := hB.trans nq.bel
          go_wp2_with fail
          go_ret
          exact ⟨ret_bool (okT_false hk' HKF.out).symm, hbn⟩
        · have HR := Lib.hid (fun w => by have := Right_any cs cp cb w; rw [hok] at this; exact this : ∀ w, Calls Try.prog 68 #[.agg #[.int .i64 cs, .int .i64 cp, .int .i64 cb]] w fun e w' => e = .returned (.bool true) ∧ Below w.heap.size w w')
          obtain ⟨k1, _⟩ := okC_bd hok
          rcases Nat.eq_zero_or_pos k with h0 | h0
          · have hkt : okAt t k = true := by rw [A1.out, hok, h0, prevS_zero, decide_eq_true (by omega)]; rfl
            have HKT := Lib.hid hkt
            have hd0 : decide (0 < k) = false := decide_eq_false (by omega)
            clear h0
            clear hok hkt
            go_wp2_with fail
            have G1 := CW.cell (a := ⟨bk, o + k * 3, none⟩) hab g1
            have G2 := CW.cell (a := ⟨bk, o + k * 3 + 1, none⟩) hab g2
            have G3 := CW.cell (a := ⟨bk, o + k * 3 + 2, none⟩) hab g3
            refine region_below w.heap.size (by kernel_rfl) (by kernel_rfl) ?_
            repeat (first | go_big_quiet_step ((go_at_call 68; exact quietB hz (HR.out _))) | quiet_step ((go_at_call 68; exact quietB hz (HR.out _))))
            refine wpQuiet_nil ?_
            rintro _ ⟨nq, rfl⟩
            have hbn := hB.trans nq.bel
            go_wp2_with fail
            go_roundw
            case rel => exact ⟨k + 1, by omega, by go_num, HA.out.snoc HKT.out, hbn⟩
            case measure => simp [intOf]; omega
          · have hk1 : k - 1 < t.length := by omega
            obtain ⟨⟨ps, pp, pb⟩, hpc⟩ : ∃ c, t[k - 1]? = some c := ⟨_, List.getElem?_eq_getElem hk1⟩
            have hps : prevS t k = ps := by rw [prevS_get h0, List.getD_eq_getElem?_getD, hpc]; rfl
            obtain ⟨bk', o', hA', hab', g1', _, _⟩ := (HT.out.below hB) (k - 1) _ hpc
            cases hA'
            dsimp only at g1'
            rw [hps] at A1
            clear hpc hps
            obtain ⟨q, hq⟩ : ∃ q, k = q + 1 := ⟨k - 1, by omega⟩
            subst hq
            rw [Nat.add_sub_cancel] at g1'
            have G0 := CW.cell (a := ⟨bk, o + q * 3, none⟩) hab g1'
            by_cases hgt : ps < cs
            · have hkt : okAt t (q + 1) = true := by rw [A1.out, hok, decide_eq_true hgt]; rfl
              have HKT := Lib.hid hkt
              have hd : decide (cs ≤ ps) = false := decide_eq_false (by omega)
              clear hok hkt
              go_wp2_with fail
              have G1 := CW.cell (a := ⟨bk, o + (q + 1) * 3, none⟩) hab g1
              have G2 := CW.cell (a := ⟨bk, o + (q + 1) * 3 + 1, none⟩) hab g2
              have G3 := CW.cell (a := ⟨bk, o + (q + 1) * 3 + 2, none⟩) hab g3
              refine region_below w.heap.size (by kernel_rfl) (by kernel_rfl) ?_
              repeat (first | go_big_quiet_step ((go_at_call 68; exact quietB hz (HR.out _))) | quiet_step ((go_at_call 68; exact quietB hz (HR.out _))))
              refine wpQuiet_nil ?_
              rintro _ ⟨nq, rfl⟩
              have hbn := hB.trans nq.bel
              go_wp2_with fail
              go_roundw
              case rel => exact ⟨q + 1 + 1, by omega, by go_num, HA.out.snoc HKT.out, hbn⟩
              case measure => simp [intOf]; omega
            · have hkf : okAt t (q + 1) = false := by rw [A1.out, hok, decide_eq_false hgt]; rfl
              have HKF := Lib.hid hkf
              have hd : decide (cs ≤ ps) = true := decide_eq_true (by omega)
              clear hok hkf
              go_wp2_with fail
              have G1 := CW.cell (a := ⟨bk, o + (q + 1) * 3, none⟩) hab g1
              have G2 := CW.cell (a := ⟨bk, o + (q + 1) * 3 + 1, none⟩) hab g2
              have G3 := CW.cell (a := ⟨bk, o + (q + 1) * 3 + 2, none⟩) hab g3
              refine region_below w.heap.size (by kernel_rfl) (by kernel_rfl) ?_
              repeat (first | go_big_quiet_step ((go_at_call 68; exact quietB hz (HR.out _))) | quiet_step ((go_at_call 68; exact quietB hz (HR.out _))))
              refine wpQuiet_nil ?_
              rintro _ ⟨nq, rfl⟩
              have hbn := hB.trans nq.bel
              go_wp2_with fail
              go_ret
              exact ⟨ret_bool (okT_false hk' HKF.out).symm, hbn⟩
      · go_wp2
        go_ret
        obtain rfl : k = n := by omega
        exact ⟨ret_bool (okT_true (by rw [← HN.out]; exact hl1) (by rw [← HN.out]; exact hl2) (by rw [← HN.out]; exact HA.out)).symm, hB⟩
  · have hf : okT t = false := okT_false_len hlen
    have HF := Lib.hid hf
    clear hf hT
    by_cases h1 : t.length < 1
    · go_enter Try.func40, Try.ntmps40
      go_wp2
      go_ret
      exact ⟨ret_bool HF.out.symm, Below.refl _ _⟩
    · have h2 : 40 < t.length := by omega
      clear hlen
      go_enter Try.func40, Try.ntmps40
      go_wp2
      go_ret
      exact ⟨ret_bool HF.out.symm, Below.refl _ _⟩

end Go.Proofs.Yticcjelaenhigaa
