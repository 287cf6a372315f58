/- The statement about nodes: what its call returns. -/
import Derived.Test.YtdjfeibcbmelcaaXa
namespace Go.Proofs.Ytdjfeibcbmelcaa
open Go.RowKit

/-- Whether a page below k with a number lies in group i of w pages. -/
def anyp (M : Nat → Int) (w k i : Nat) : Bool := (hl (nz M) 0 k).any fun p => p / w == i
theorem hl_snoc (c : Nat → Bool) (k : Nat) : hl c 0 (k + 1) = hl c 0 k ++ (if c k = true then [k] else []) := by
  rw [hl_split (c := c) (k := 0) (m := k) (n := k + 1) (by omega) (by omega)]
  congr 1
  cases e : c k with
  | true => rw [hl_hit (c := c) (k := k) (n := k + 1) (by omega) e, hl_end (c := c) (k := k + 1) (n := k + 1) (by omega), if_pos rfl]
  | false => rw [hl_miss (c := c) (k := k) (n := k + 1) (by omega) e, hl_end (c := c) (k := k + 1) (n := k + 1) (by omega), if_neg (by decide)]
theorem anyp_hit {M : Nat → Int} {k : Nat} (w : Nat) (h : M k ≠ 0) (i : Nat) : anyp M w (k + 1) i = if i = k / w then true else anyp M w k i := by
  unfold anyp
  rw [hl_snoc, if_pos (nz_true h), List.any_append]
  by_cases e : i = k / w
  · rw [if_pos e]; simp [e]
  · rw [if_neg e]
    have : (k / w == i) = false := by simp only [beq_eq_false_iff_ne]; exact fun h => e h.symm
    simp [this]
theorem anyp_miss {M : Nat → Int} {k : Nat} (w : Nat) (h : M k = 0) (i : Nat) : anyp M w (k + 1) i = anyp M w k i := by
  unfold anyp
  rw [hl_snoc, if_neg (by rw [nz_false h]; decide), List.append_nil]
theorem anyp_iff {M : Nat → Int} {w k i : Nat} : anyp M w k i = true ↔ ∃ p, p < k ∧ M p ≠ 0 ∧ p / w = i := by
  unfold anyp
  rw [List.any_eq_true]
  constructor
  · rintro ⟨p, h1, h2⟩
    obtain ⟨h3, h4⟩ := hl_mem.1 h1
    exact ⟨p, h3.2, nz_iff.1 h4, by simpa using h2⟩
  · rintro ⟨p, h1, h2, h3⟩
    exact ⟨p, hl_mem.2 ⟨⟨by omega, h1⟩, nz_true h2⟩, by simpa using h3⟩
theorem anyp_lf {M : Nat → Int} {i : Nat} (h : i < 128) : anyp M 8 1024 i = lfB M i := by
  rw [Bool.eq_iff_iff, anyp_iff]
  unfold lfB
  rw [decide_eq_true_eq]
  constructor
  · rintro ⟨p, h1, h2, h3⟩
    exact ⟨p % 8, by omega, by rwa [show 8 * i + p % 8 = p from by omega]⟩
  · rintro ⟨n, h1, h2⟩
    exact ⟨8 * i + n, by omega, h2, by omega⟩
theorem anyp_md {M : Nat → Int} {i : Nat} (h : i < 16) : anyp M 64 1024 i = mdB M i := by
  rw [Bool.eq_iff_iff, anyp_iff]
  unfold mdB
  rw [decide_eq_true_eq]
  constructor
  · rintro ⟨p, h1, h2, h3⟩
    exact ⟨p % 64, by omega, by rwa [show 64 * i + p % 64 = p from by omega]⟩
  · rintro ⟨n, h1, h2⟩
    exact ⟨64 * i + n, by omega, h2, by omega⟩
theorem count_lf (M : Nat → Int) : (hl (anyp M 8 1024) 0 128).length = leavesN M := by
  unfold leavesN
  rw [hl_congr (c := anyp M 8 1024) (fun p _ hp => anyp_lf hp)]
theorem count_md (M : Nat → Int) : (hl (anyp M 64 1024) 0 128).length = midsN M := by
  unfold midsN
  rw [hl_split (c := anyp M 64 1024) (k := 0) (m := 16) (n := 128) (by omega) (by omega), hl_none (k := 16) (fun p h1 h2 => by
    cases e : anyp M 64 1024 p with
    | false => rfl
    | true =>
      obtain ⟨q, h3, h4, h5⟩ := anyp_iff.1 e
      omega), List.append_nil, hl_congr (c := anyp M 64 1024) (fun p _ hp => anyp_md hp)]
theorem len_snoc (c : Nat → Bool) (k : Nat) : (hl c 0 (k + 1)).length = (hl c 0 k).length + (if c k = true then 1 else 0) := by
  rw [hl_snoc, List.length_append]
  split <;> rfl

def fal : Array Value := Array.replicate 128 (.bool false)
theorem zero52 (w : World) : (zeroValue 52).run Try.prog w = .ok (.agg fal) w := by kernel_rfl
theorem new128 (w : World) : ∃ W1, w.alloc (.cells fal 52) = W1 ∧ Below w.heap.size w W1 ∧ W1.heap.size = w.heap.size + 1 ∧ Cl W1 w.heap.size 128 (fun _ => .bool false) :=
  ⟨_, rfl, bnew _ _, by simp, Cl.new w (by decide) (fun _ hi => rep_at (n := 128) hi)⟩

set_option maxRecDepth 100000 in
set_option maxHeartbeats 4000000 in
theorem nodes_walk (A : Option Addr) (c : Nat) (l : List Ac) (w : World) (hll : l.length ≤ 9223372036854775807) (hA : ActsAt w w.heap.size A l) :
    Calls Try.prog 9 #[.slice A l.length c] w (Yes w) := by
  have HAL := Lib.hid alive_any
  have HMD := Lib.hid (fun w hA => made'_any A c l w hll hA)
  obtain ⟨L, hL⟩ : ∃ L, L = l.length := ⟨_, rfl⟩
  rw [← hL] at hll HMD ⊢
  have HG := Lib.hid (fun w => great_any A L c w hll)
  have HA := Lib.hid hA
  clear hA hL
  by_cases h60 : 60 < L
  · rw [decide_eq_true h60] at HG
    go_enter Try.func9, Try.ntmps9
    go_wp2_with fail
    refine (HG.out _).mono ?_
    rintro e _ ⟨rfl, rfl⟩
    go_wp2_with fail
    refine (HAL.out _).mono ?_
    rintro e w1 ⟨rfl, hb1⟩
    go_wp2_with fail
    go_ret
    exact ⟨rfl, hb1⟩
  · rw [decide_eq_false h60] at HG
    clear h60
    go_enter Try.func9, Try.ntmps9
    go_wp2_with fail
    refine (HG.out _).mono ?_
    rintro e _ ⟨rfl, rfl⟩
    go_wp2_with fail
    refine (HMD.out _ HA.out).mono ?_
    rintro e w1 ⟨B, rfl, hb1, ht1⟩
    have HB1 := Lib.hid hb1
    generalize runM noM l = M at ht1
    have HT1 := Lib.hid ht1
    clear hb1 ht1
    obtain ⟨W1, hW1, hbW1, hs1, hc1⟩ := new128 w1
    obtain ⟨W2, hW2, hbW2, hs2, hc2⟩ := new128 W1
    have HX1 := Lib.hid (hc1.of_block (hbW2.block _ hc1.lt))
    have HX2 := Lib.hid hc2
    have HBW := Lib.hid (btr hbW1 hbW2 (Nat.le_refl _))
    have HS1 := Lib.hid hs1
    have HS2 := Lib.hid hs2
    have hz := zero52
    clear hbW1 hbW2 hs1 hs2 hc1 hc2
    go_wp2_with fail
    clear hz hW1 hW2
    have hs1 := HS1.out
    have hs2 := HS2.out
    obtain ⟨Z1, hZ1⟩ : ∃ Z1, w1.heap.size = Z1 := ⟨_, rfl⟩
    obtain ⟨Z2, hZ2⟩ : ∃ Z2, W1.heap.size = Z2 := ⟨_, rfl⟩
    have hx1 := HX1.out
    have hx2 := HX2.out
    rw [hZ1] at hx1 ⊢
    rw [hZ2] at hx2 ⊢
    have hne : Z1 ≠ Z2 := by omega
    have HT2 := Lib.hid (HT1.out.below HBW.out)
    have hOl : ∀ k, Nw w w1 k → k < Z1 := fun k hk => by have := hk.2; omega
    have hlo : w.heap.size ≤ Z1 := by have := HB1.out.size; omega
    have HHX1 := Lib.hid hx1
    have HHX2 := Lib.hid hx2
    have HOL := Lib.hid hOl
    have HLO := Lib.hid hlo
    have HLT := Lib.hid (show Z1 < Z2 by omega)
    clear HX1 HX2 HS1 HS2 hs1 hs2 hZ1 hZ2 hx1 hx2 hOl hlo
    go_loopw [6] (fun i wr => ∃ k : Nat, k ≤ 1024 ∧ i = .int .i64 k ∧ Keep (fun x => x = Z1 ∨ x = Z2) W2 wr ∧ Cl wr Z1 128 (fun i => .bool (anyp M 8 k i)) ∧ Cl wr Z2 128 (fun i => .bool (anyp M 64 k i))) (fun i _ => 1024 - (intOf i).toNat)
    case atStart => exact ⟨0, by omega, rfl, Keep.refl _ _, HHX1.out, HHX2.out⟩
    case round =>
      obtain ⟨k, hk, rfl, hK, hc1, hc2⟩ := hrel
      have HK := Lib.hid hK
      have HC1 := Lib.hid hc1
      have HC2 := Lib.hid hc2
      have HTR := Lib.hid (HT2.out.keep hK (fun x hx hx2 => by have := HOL.out x hx; have := HLT.out; rcases hx2 with h | h <;> omega))
      clear hK hc1 hc2
      by_cases hlt : k < 1024
      · have HGET := Lib.hid (Get_any (k : Int) HTR.out ⟨by omega, by omega⟩)
        rw [getV_in rfl hlt] at HGET
        by_cases hm : M k = 0
        · rw [hm] at HGET
          have HM1 := Lib.hid (fun i => anyp_miss (M := M) 8 hm i)
          have HM2 := Lib.hid (fun i => anyp_miss (M := M) 64 hm i)
          clear hm
          go_wp2_with fail
          refine HGET.out.mono ?_
          rintro e _ ⟨rfl, rfl⟩
          go_wp2_with fail
          go_roundw
          case rel => exact ⟨k + 1, by omega, by go_num, HK.out, HC1.out.congr (fun i _ => by rw [HM1.out]), HC2.out.congr (fun i _ => by rw [HM2.out])⟩
          case measure => simp [intOf]; omega
        · have HM1 := Lib.hid (fun i => anyp_hit (M := M) 8 hm i)
          have HM2 := Lib.hid (fun i => anyp_hit (M := M) 64 hm i)
          generalize M k = x at HGET hm
          have q : (x == 0) = false := by simpa using hm
          have q' : (x != 0) = true := by simpa using hm
          obtain ⟨i8, hi8⟩ : ∃ i8, k / 8 = i8 := ⟨_, rfl⟩
          obtain ⟨i64, hi64⟩ : ∃ i64, k / 64 = i64 := ⟨_, rfl⟩
          rw [hi8] at HM1
          rw [hi64] at HM2
          have l8 : i8 < 128 := by omega
          have l64 : i64 < 128 := by omega
          have e1 : (k : Int) / 8 = (i8 : Int) := by omega
          have e2 : (k : Int) / 64 = (i64 : Int) := by omega
          have e1' : (k : Int).tdiv 8 = (i8 : Int) := by rw [Int.tdiv_eq_ediv_of_nonneg (by omega)]; exact e1
          have e2' : (k : Int).tdiv 64 = (i64 : Int) := by rw [Int.tdiv_eq_ediv_of_nonneg (by omega)]; exact e2
          have c1 := HC1.out.cell i8 l8
          have f1 := HC1.out.free i8 l8
          have hC2 := HC2.out.other (a := ⟨Z1, i8, none⟩) (fun e => hne e.symm) (.bool true)
          have c2 := hC2.cell i64 l64
          have f2 := hC2.free i64 l64
          have HCC2 := Lib.hid hC2
          clear hm hi8 hi64 hC2
          go_wp2_with fail
          refine HGET.out.mono ?_
          rintro e _ ⟨rfl, rfl⟩
          go_wp2_with fail
          go_roundw
          case rel => exact ⟨k + 1, by omega, by go_num, (HK.out.set (a := ⟨Z1, i8, none⟩) (.inl (.inl rfl)) _).set (a := ⟨Z2, i64, none⟩) (.inl (.inr rfl)) _, ((HC1.out.set i8 (.bool true)).other (a := ⟨Z2, i64, none⟩) hne _).congr (fun i _ => by rw [HM1.out]; split <;> rfl), (HCC2.out.set i64 (.bool true)).congr (fun i _ => by rw [HM2.out]; split <;> rfl)⟩
          case measure => simp [intOf]; omega
      · have hk2 : k = 1024 := by omega
        rw [hk2] at HC1 HC2
        clear hk2
        go_wp2_with fail
        go_loopw [7, 8, 9] (fun a b i wx => ∃ j : Nat, j ≤ 128 ∧ i = .int .i64 j ∧ wr = wx ∧ a = .int .i64 ((hl (anyp M 64 1024) 0 j).length : Nat) ∧ b = .int .i64 ((hl (anyp M 8 1024) 0 j).length : Nat)) (fun _ _ i _ => 128 - (intOf i).toNat)
        case atStart => exact ⟨0, by omega, rfl, rfl, rfl, rfl⟩
        case round =>
          obtain ⟨j, hj, rfl, rfl, rfl, rfl⟩ := hrel
          by_cases hlt2 : j < 128
          · have c1 := HC1.out.cell j hlt2
            have c2 := HC2.out.cell j hlt2
            have hl1 := len_snoc (anyp M 64 1024) j
            have hl2 := len_snoc (anyp M 8 1024) j
            have hle1 := hl_len (anyp M 64 1024) 0 j
            have hle2 := hl_len (anyp M 8 1024) 0 j
            generalize (hl (anyp M 64 1024) 0 j).length = a at hl1 hle1 ⊢
            generalize (hl (anyp M 8 1024) 0 j).length = b at hl2 hle2 ⊢
            have HL1 := Lib.hid hl1
            have HL2 := Lib.hid hl2
            clear hl1 hl2
            cases e1 : anyp M 64 1024 j <;> cases e2 : anyp M 8 1024 j <;> rw [e1] at c2 HL1 <;> rw [e2] at c1 HL2 <;> clear e1 e2
            all_goals
              go_wp2_with fail
              go_roundw
              case rel => exact ⟨j + 1, by omega, by go_num, trivial, by rw [HL1.out]; go_num, by rw [HL2.out]; go_num⟩
              case measure => simp [intOf]; omega
          · have hj2 : j = 128 := by omega
            have HN := Lib.hid (Nodes_any HTR.out)
            rw [hj2, count_lf, count_md]
            clear hj2 hlt2 hj
            generalize midsN M = a at HN ⊢
            generalize leavesN M = b at HN ⊢
            go_wp2_with fail
            refine HN.out.mono ?_
            rintro e w4 ⟨rfl, hb4⟩
            have HB4 := Lib.hid hb4
            clear hb4
            go_wp2_with fail
            refine (HAL.out _).mono ?_
            rintro e w5 ⟨rfl, hb5⟩
            go_wp2_with fail
            go_ret
            have hbw : Below w.heap.size w wr := (btr HB1.out HBW.out (Nat.le_refl _)).trans (HK.out.below (by have := HB1.out.size; have := HBW.out.size; omega) (fun x hx => by have := HLO.out; have := HLT.out; rcases hx with h | h <;> omega))
            exact ⟨rfl, btr (btr hbw HB4.out (Nat.le_refl _)) hb5 (Nat.le_refl _)⟩

end Go.Proofs.Ytdjfeibcbmelcaa
