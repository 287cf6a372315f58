/- The other map: Next, Nodes. -/
import Derived.Test.YtdjfeibcbmelcaaRd
namespace Go.Proofs.Ytdjfeibcbmelcaa
open Go.RowKit

/-- Whether one of some pages has a number. -/
def anyN (M : Nat → Int) (o : Nat) : Nat → Bool
  | 0 => false
  | j + 1 => anyN M o j || (M (o + j) != 0)
theorem anyN_iff (M : Nat → Int) (o : Nat) : ∀ j : Nat, anyN M o j = true ↔ ∃ i : Nat, i < j ∧ M (o + i) ≠ 0
  | 0 => ⟨(fun h => nomatch h), fun ⟨i, h, _⟩ => by omega⟩
  | j + 1 => by
    show (anyN M o j || (M (o + j) != 0)) = true ↔ _
    rw [Bool.or_eq_true, anyN_iff M o j, bne_iff_ne]
    constructor
    · rintro (⟨i, h1, h2⟩ | h2)
      · exact ⟨i, by omega, h2⟩
      · exact ⟨j, by omega, h2⟩
    · rintro ⟨i, h1, h2⟩
      by_cases hi : i = j
      · exact .inr (hi ▸ h2)
      · exact .inl ⟨i, by omega, h2⟩

theorem mdB_any (M : Nat → Int) (t : Nat) : mdB M t = anyN M (64 * t) 64 := by
  rw [Bool.eq_iff_iff, anyN_iff]
  exact decide_eq_true_iff
set_option maxRecDepth 100000 in
set_option maxHeartbeats 4000000 in
theorem rmids_any {O : Nat → Prop} {P : Nat} {M : Nat → Int} {w : World} (h : Rf w O P M) :
    Calls Try.prog 50 #[.pointer (some ⟨P, 0, none⟩), .int .i64 64] w fun e w' => e = .returned (.int .i64 (midsN M)) ∧ w = w' := by
  obtain ⟨A, c, h⟩ := h
  have c0 := h.p.cell 0 (by omega)
  have HA := Lib.hid h.a
  have HRES := Lib.hid (show (hl (mdB M) 0 16).length = midsN M from rfl)
  have HMD := Lib.hid (mdB_any M)
  have HLN := Lib.hid (hl_len (mdB M))
  have HSP := Lib.hid (fun t => hl_split (c := mdB M) (k := 0) (m := t) (n := t + 1) (by omega) (by omega))
  have HHIT := Lib.hid (fun t (e : mdB M t = true) => show (hl (mdB M) t (t + 1)).length = 1 by rw [hl_hit (by omega) e, hl_end (Nat.le_refl _)]; rfl)
  have HMISS := Lib.hid (fun t (e : mdB M t = false) => show (hl (mdB M) t (t + 1)).length = 0 by rw [hl_miss (by omega) e, hl_end (Nat.le_refl _)]; rfl)
  clear h
  generalize midsN M = RES at HRES ⊢
  generalize mdB M = bl at *
  go_enter Try.func50, Try.ntmps50
  go_wp2_with fail
  go_loopw [5, 6, 7, 8] (fun n s _ _ wr => ∃ t : Nat, t ≤ 16 ∧ s = .int .i64 ((64 * t : Nat) : Int) ∧ n = .int .i64 (hl bl 0 t).length ∧ wr = w) (fun _ s _ _ _ => 1024 - (intOf s).toNat)
  case atStart => exact ⟨0, by omega, rfl, rfl, rfl⟩
  case round =>
    obtain ⟨t, ht, rfl, rfl, rfl⟩ := hrel
    obtain ⟨o, ho⟩ : ∃ o, 64 * t = o := ⟨_, rfl⟩
    have HO := Lib.hid ho
    rw [ho]
    by_cases hlt : t < 16
    · have hlen := HLN.out 0 t
      have e0 : (o : Int) < 1024 := by omega
      have e00 : o + 64 ≤ 1024 := by omega
      have HMT := Lib.hid ((HMD.out t).trans (by rw [ho]))
      have HLE := Lib.hid (show (hl bl 0 (t + 1)).length = (hl bl 0 t).length + (hl bl t (t + 1)).length by rw [HSP.out, List.length_append])
      generalize hB : (hl bl 0 t).length = B at hlen HLE ⊢
      have E1 := Lib.hid (w64 ((o : Int) + 64) (by omega))
      have E2 := Lib.hid (w64 ((B : Int) + 1) (by omega))
      clear hB ho ht
      go_wp2_with fail
      go_loopw [7, 8] (fun g p wr' => ∃ j : Nat, j ≤ 64 ∧ p = .int .i64 ((o + j : Nat) : Int) ∧ g = .bool (anyN M o j) ∧ wr' = wr) (fun _ p _ => 1024 - (intOf p).toNat)
      case atStart => exact ⟨0, by omega, rfl, rfl, rfl⟩
      case round =>
        obtain ⟨j, hj, rfl, rfl, rfl⟩ := hrel
        obtain ⟨s1, s2⟩ := E1.out
        obtain ⟨s, hs⟩ : ∃ s, o + j = s := ⟨_, rfl⟩
        have HS := Lib.hid hs
        rw [hs]
        by_cases hjl : j < 64
        · have c1 := HA.out.cell s (by omega)
          have HST := Lib.hid (show anyN M o (j + 1) = (anyN M o j || (M s != 0)) by rw [← hs]; rfl)
          have e1 : (s : Int) < 1024 := by omega
          have e2 : (s : Int) < (o : Int) + 64 := by omega
          generalize M s = V at c1 HST
          generalize anyN M o j = g at HST ⊢
          clear hs
          cases g
          · by_cases hV : V = 0
            · have HG := Lib.hid (show anyN M o (j + 1) = false by rw [HST.out, hV]; rfl)
              subst hV
              go_wp2_with fail
              go_roundw
              case rel => exact ⟨j + 1, by omega, by have := HS.out; go_num, by rw [HG.out], trivial⟩
              case measure => simp [intOf]; omega
            · have q1 : (V != 0) = true := by simpa using hV
              have HG := Lib.hid (show anyN M o (j + 1) = true by rw [HST.out, q1]; rfl)
              clear hV
              go_wp2_with fail
              go_roundw
              case rel => exact ⟨j + 1, by omega, by have := HS.out; go_num, by rw [HG.out], trivial⟩
              case measure => simp [intOf]; omega
          · have HG := Lib.hid (show anyN M o (j + 1) = true by rw [HST.out]; rfl)
            clear c1
            go_wp2_with fail
            go_roundw
            case rel => exact ⟨j + 1, by omega, by have := HS.out; go_num, by rw [HG.out], trivial⟩
            case measure => simp [intOf]; omega
        · have e2 : ¬ (s : Int) < (o : Int) + 64 := by omega
          obtain rfl : j = 64 := by omega
          rw [← HMT.out]
          cases hb : bl t
          · have HEN := Lib.hid (HMISS.out t hb)
            clear hs
            go_wp2_with fail
            go_roundw
            case rel => exact ⟨t + 1, by omega, by have := HO.out; go_num, by rw [HLE.out, HEN.out, Nat.add_zero], trivial⟩
            case measure => simp [intOf]; omega
          · have HEN := Lib.hid (HHIT.out t hb)
            obtain ⟨s3, s4⟩ := E2.out
            clear hs
            go_wp2_with fail
            go_roundw
            case rel => exact ⟨t + 1, by omega, by have := HO.out; go_num, by rw [HLE.out, HEN.out]; go_num, trivial⟩
            case measure => simp [intOf]; omega
    · obtain rfl : t = 16 := by omega
      have e0 : ¬ (o : Int) < 1024 := by omega
      rw [HRES.out]
      clear ho
      go_wp2_with fail
      go_ret
      exact ⟨rfl, rfl⟩

theorem lfB_any (M : Nat → Int) (t : Nat) : lfB M t = anyN M (8 * t) 8 := by
  rw [Bool.eq_iff_iff, anyN_iff]
  exact decide_eq_true_iff
set_option maxRecDepth 100000 in
set_option maxHeartbeats 4000000 in
theorem rleaves_any {O : Nat → Prop} {P : Nat} {M : Nat → Int} {w : World} (h : Rf w O P M) :
    Calls Try.prog 50 #[.pointer (some ⟨P, 0, none⟩), .int .i64 8] w fun e w' => e = .returned (.int .i64 (leavesN M)) ∧ w = w' := by
  obtain ⟨A, c, h⟩ := h
  have c0 := h.p.cell 0 (by omega)
  have HA := Lib.hid h.a
  have HRES := Lib.hid (show (hl (lfB M) 0 128).length = leavesN M from rfl)
  have HMD := Lib.hid (lfB_any M)
  have HLN := Lib.hid (hl_len (lfB M))
  have HSP := Lib.hid (fun t => hl_split (c := lfB M) (k := 0) (m := t) (n := t + 1) (by omega) (by omega))
  have HHIT := Lib.hid (fun t (e : lfB M t = true) => show (hl (lfB M) t (t + 1)).length = 1 by rw [hl_hit (by omega) e, hl_end (Nat.le_refl _)]; rfl)
  have HMISS := Lib.hid (fun t (e : lfB M t = false) => show (hl (lfB M) t (t + 1)).length = 0 by rw [hl_miss (by omega) e, hl_end (Nat.le_refl _)]; rfl)
  clear h
  generalize leavesN M = RES at HRES ⊢
  generalize lfB M = bl at *
  go_enter Try.func50, Try.ntmps50
  go_wp2_with fail
  go_loopw [5, 6, 7, 8] (fun n s _ _ wr => ∃ t : Nat, t ≤ 128 ∧ s = .int .i64 ((8 * t : Nat) : Int) ∧ n = .int .i64 (hl bl 0 t).length ∧ wr = w) (fun _ s _ _ _ => 1024 - (intOf s).toNat)
  case atStart => exact ⟨0, by omega, rfl, rfl, rfl⟩
  case round =>
    obtain ⟨t, ht, rfl, rfl, rfl⟩ := hrel
    obtain ⟨o, ho⟩ : ∃ o, 8 * t = o := ⟨_, rfl⟩
    have HO := Lib.hid ho
    rw [ho]
    by_cases hlt : t < 128
    · have hlen := HLN.out 0 t
      have e0 : (o : Int) < 1024 := by omega
      have e00 : o + 8 ≤ 1024 := by omega
      have HMT := Lib.hid ((HMD.out t).trans (by rw [ho]))
      have HLE := Lib.hid (show (hl bl 0 (t + 1)).length = (hl bl 0 t).length + (hl bl t (t + 1)).length by rw [HSP.out, List.length_append])
      generalize hB : (hl bl 0 t).length = B at hlen HLE ⊢
      have E1 := Lib.hid (w64 ((o : Int) + 8) (by omega))
      have E2 := Lib.hid (w64 ((B : Int) + 1) (by omega))
      clear hB ho ht
      go_wp2_with fail
      go_loopw [7, 8] (fun g p wr' => ∃ j : Nat, j ≤ 8 ∧ p = .int .i64 ((o + j : Nat) : Int) ∧ g = .bool (anyN M o j) ∧ wr' = wr) (fun _ p _ => 1024 - (intOf p).toNat)
      case atStart => exact ⟨0, by omega, rfl, rfl, rfl⟩
      case round =>
        obtain ⟨j, hj, rfl, rfl, rfl⟩ := hrel
        obtain ⟨s1, s2⟩ := E1.out
        obtain ⟨s, hs⟩ : ∃ s, o + j = s := ⟨_, rfl⟩
        have HS := Lib.hid hs
        rw [hs]
        by_cases hjl : j < 8
        · have c1 := HA.out.cell s (by omega)
          have HST := Lib.hid (show anyN M o (j + 1) = (anyN M o j || (M s != 0)) by rw [← hs]; rfl)
          have e1 : (s : Int) < 1024 := by omega
          have e2 : (s : Int) < (o : Int) + 8 := by omega
          generalize M s = V at c1 HST
          generalize anyN M o j = g at HST ⊢
          clear hs
          cases g
          · by_cases hV : V = 0
            · have HG := Lib.hid (show anyN M o (j + 1) = false by rw [HST.out, hV]; rfl)
              subst hV
              go_wp2_with fail
              go_roundw
              case rel => exact ⟨j + 1, by omega, by have := HS.out; go_num, by rw [HG.out], trivial⟩
              case measure => simp [intOf]; omega
            · have q1 : (V != 0) = true := by simpa using hV
              have HG := Lib.hid (show anyN M o (j + 1) = true by rw [HST.out, q1]; rfl)
              clear hV
              go_wp2_with fail
              go_roundw
              case rel => exact ⟨j + 1, by omega, by have := HS.out; go_num, by rw [HG.out], trivial⟩
              case measure => simp [intOf]; omega
          · have HG := Lib.hid (show anyN M o (j + 1) = true by rw [HST.out]; rfl)
            clear c1
            go_wp2_with fail
            go_roundw
            case rel => exact ⟨j + 1, by omega, by have := HS.out; go_num, by rw [HG.out], trivial⟩
            case measure => simp [intOf]; omega
        · have e2 : ¬ (s : Int) < (o : Int) + 8 := by omega
          obtain rfl : j = 8 := by omega
          rw [← HMT.out]
          cases hb : bl t
          · have HEN := Lib.hid (HMISS.out t hb)
            clear hs
            go_wp2_with fail
            go_roundw
            case rel => exact ⟨t + 1, by omega, by have := HO.out; go_num, by rw [HLE.out, HEN.out, Nat.add_zero], trivial⟩
            case measure => simp [intOf]; omega
          · have HEN := Lib.hid (HHIT.out t hb)
            obtain ⟨s3, s4⟩ := E2.out
            clear hs
            go_wp2_with fail
            go_roundw
            case rel => exact ⟨t + 1, by omega, by have := HO.out; go_num, by rw [HLE.out, HEN.out]; go_num, trivial⟩
            case measure => simp [intOf]; omega
    · obtain rfl : t = 128 := by omega
      have e0 : ¬ (o : Int) < 1024 := by omega
      rw [HRES.out]
      clear ho
      go_wp2_with fail
      go_ret
      exact ⟨rfl, rfl⟩

set_option maxHeartbeats 400000 in
theorem rnodes_any {O : Nat → Prop} {P : Nat} {M : Nat → Int} {w : World} (h : Rf w O P M) :
    Calls Try.prog 40 #[.pointer (some ⟨P, 0, none⟩)] w fun e w' => e = .returned (.tuple #[.int .i64 (midsN M), .int .i64 (leavesN M)]) ∧ w = w' := by
  have HM := Lib.hid (rmade_any h)
  have HA := Lib.hid (rmids_any h)
  have HB := Lib.hid (rleaves_any h)
  clear h
  generalize midsN M = a at HA ⊢
  generalize leavesN M = b at HB ⊢
  go_enter Try.func40, Try.ntmps40
  go_wp2_with fail
  refine HM.out.mono ?_
  rintro e _ ⟨rfl, rfl⟩
  go_wp2_with fail
  refine HA.out.mono ?_
  rintro e _ ⟨rfl, rfl⟩
  go_wp2_with fail
  refine HB.out.mono ?_
  rintro e _ ⟨rfl, rfl⟩
  go_wp2_with fail
  go_ret2
  exact ⟨rfl, rfl⟩

theorem pgs_skip {M : Nat → Int} {k : Nat} (h : k < 1024) (e : M k = 0) : pgs M k = pgs M (k + 1) := hl_miss h (nz_false e)
set_option maxRecDepth 100000 in
set_option maxHeartbeats 2000000 in
theorem rnext_any {O : Nat → Prop} {P : Nat} {M : Nat → Int} {w : World} (p : Int) (h : Rf w O P M) (hp : InR p) :
    Calls Try.prog 20 #[.pointer (some ⟨P, 0, none⟩), .int .i64 p] w fun e w' => e = .returned (three (nextV M p.toNat)) ∧ Below w.heap.size w w' := by
  have HM := Lib.hid (rmade_any h)
  obtain ⟨A, c, h⟩ := h
  have c0 := h.p.cell 0 (by omega)
  have HA := Lib.hid h.a
  obtain ⟨hp1, hp2⟩ := hp
  obtain ⟨f, hf⟩ : ∃ f, p.toNat = f := ⟨_, rfl⟩
  have e4 : (if p < 0 then (0 : Int) else p) = (f : Int) := by split <;> omega
  have hf63 : f ≤ 9223372036854775807 := by omega
  clear h
  rw [hf]
  have hpf : p < 0 ∧ f = 0 ∨ ¬ p < 0 ∧ p = (f : Int) := by omega
  have HFIN := Lib.hid (fun k (h1 : pgs M f = pgs M k) (h2 : ¬ k < 1024) => show nextV M f = (0, 0, 4) by unfold nextV; rw [h1]; unfold pgs; rw [hl_end (by omega)])
  have HHIT := Lib.hid (fun k (h1 : pgs M f = pgs M k) (h2 : k < 1024) (h3 : M k ≠ 0) => show nextV M f = ((k : Int), M k, 0) by unfold nextV; rw [h1]; unfold pgs; rw [hl_hit h2 (nz_true h3)])
  clear hf
  go_enter Try.func20, Try.ntmps20
  go_wp2_with fail
  refine HM.out.mono ?_
  rintro e _ ⟨rfl, rfl⟩
  rcases hpf with ⟨hp0, rfl⟩ | ⟨hp0, rfl⟩
  · clear e4
    go_wp2_with fail
    go_loopw [7] (fun i wr => ∃ k : Nat, k ≤ 0 + 1024 ∧ i = .int .i64 k ∧ pgs M 0 = pgs M k ∧ wr = w) (fun i _ => 1024 - (intOf i).toNat)
    case atStart => exact ⟨0, by omega, rfl, rfl, rfl⟩
    case round =>
      obtain ⟨k, hk, rfl, hpg, rfl⟩ := hrel
      have HPG := Lib.hid hpg
      clear hpg
      by_cases hlt : k < 1024
      · have c1 := HA.out.cell k hlt
        have hlti : (k : Int) < 1024 := by omega
        by_cases hz : M k = 0
        · have HSK := Lib.hid (pgs_skip hlt hz)
          rw [hz] at c1
          clear hz
          go_wp2_with fail
          go_roundw
          case rel => exact ⟨k + 1, by omega, by go_num, HPG.out.trans HSK.out, trivial⟩
          case measure => simp [intOf]; omega
        · have HR := Lib.hid (HHIT.out k HPG.out hlt hz)
          have q1 : (M k != 0) = true := by simpa using hz
          clear hz
          generalize M k = V at c1 q1 HR
          go_wp2_with fail
          go_quiet (fail)
          go_wp2_with fail
          go_ret3
          exact ⟨by rw [HR.out]; rfl, belowN (Below.refl _ _) _⟩
      · have HR := Lib.hid (HFIN.out k HPG.out hlt)
        go_wp2_with fail
        go_ret3
        exact ⟨by rw [HR.out]; rfl, Below.refl _ _⟩
  · clear e4
    go_wp2_with fail
    go_loopw [7] (fun i wr => ∃ k : Nat, k ≤ f + 1024 ∧ i = .int .i64 k ∧ pgs M f = pgs M k ∧ wr = w) (fun i _ => 1024 - (intOf i).toNat)
    case atStart => exact ⟨f, by omega, rfl, rfl, rfl⟩
    case round =>
      obtain ⟨k, hk, rfl, hpg, rfl⟩ := hrel
      have HPG := Lib.hid hpg
      clear hpg
      by_cases hlt : k < 1024
      · have c1 := HA.out.cell k hlt
        have hlti : (k : Int) < 1024 := by omega
        by_cases hz : M k = 0
        · have HSK := Lib.hid (pgs_skip hlt hz)
          rw [hz] at c1
          clear hz
          go_wp2_with fail
          go_roundw
          case rel => exact ⟨k + 1, by omega, by go_num, HPG.out.trans HSK.out, trivial⟩
          case measure => simp [intOf]; omega
        · have HR := Lib.hid (HHIT.out k HPG.out hlt hz)
          have q1 : (M k != 0) = true := by simpa using hz
          clear hz
          generalize M k = V at c1 q1 HR
          go_wp2_with fail
          go_quiet (fail)
          go_wp2_with fail
          go_ret3
          exact ⟨by rw [HR.out]; rfl, belowN (Below.refl _ _) _⟩
      · have HR := Lib.hid (HFIN.out k HPG.out hlt)
        go_wp2_with fail
        go_ret3
        exact ⟨by rw [HR.out]; rfl, Below.refl _ _⟩

end Go.Proofs.Ytdjfeibcbmelcaa
