/- Package pagemap: fill, Set, Clear, Get. -/
import Derived.Test.YtdjfeibcbmelcaaLd
namespace Go.Proofs.Ytdjfeibcbmelcaa
open Go.RowKit

def InR (a : Int) : Prop := -9223372036854775808 ≤ a ∧ a ≤ 9223372036854775807

set_option maxRecDepth 100000 in
set_option maxHeartbeats 1000000 in
theorem fill_any {O : Nat → Prop} {B : Nat} {M : Nat → Int} {w : World} (s n : Nat) (v : Int) (h : Tr w O B M) (hs : s + n ≤ 1024) (hv : 0 ≤ v ∧ v ≤ 1073741824) :
    Calls Try.prog 44 #[.pointer (some ⟨B, 0, none⟩), .int .i64 s, .int .i64 n, .int .i64 v] w fun e w' => e = .returned (.tuple #[]) ∧ Mut w O B (setR M s n v) w' := by
  have HP := Lib.hid (fun (W : World) (k : Nat) (hk : k < n) (hM : Mut w O B (setR M s k v) W) => put_any (s + k) v hM.1 (by omega) hv)
  have HZ := Lib.hid (setR_zero M s v)
  have H := Lib.hid h
  clear h
  go_enter Try.func44, Try.ntmps44
  go_wp2_with fail
  go_loopw [8] (fun i wr => ∃ k : Nat, k ≤ n ∧ i = .int .i64 ((s + k : Nat) : Int) ∧ Mut w O B (setR M s k v) wr) (fun i _ => s + n - (intOf i).toNat)
  case atStart => exact ⟨0, by omega, rfl, by rw [HZ.out]; exact Mut.same H.out (Below.refl _ _)⟩
  case round =>
    obtain ⟨k, hk, rfl, hM⟩ := hrel
    have HM := Lib.hid hM
    by_cases hlt : k < n
    · have HC := Lib.hid (HP.out wr k hlt hM)
      clear hM
      go_wp2_with fail
      refine HC.out.mono ?_
      rintro e w2 ⟨rfl, hM2⟩
      have HM2 := Lib.hid hM2
      clear hM2
      go_wp2_with fail
      go_roundw
      case rel => exact ⟨k + 1, by omega, by go_num, by rw [← setP_setR]; exact HM.out.trans HM2.out⟩
      case measure => simp [intOf]; omega
    · obtain rfl : k = n := by omega
      clear hM
      go_wp2_with fail
      go_end0
      exact ⟨rfl, HM.out⟩

set_option maxRecDepth 100000 in
set_option maxHeartbeats 1000000 in
theorem Set_any {O : Nat → Prop} {B : Nat} {M : Nat → Int} {w : World} (s n v : Int) (h : Tr w O B M) (hs : InR s) :
    Calls Try.prog 30 #[.pointer (some ⟨B, 0, none⟩), .int .i64 s, .int .i64 n, .int .i64 v] w fun e w' => e = .returned (.int .i64 (setE s n v)) ∧ Mut w O B (setD M s n v) w' := by
  have HM := Lib.hid (made_any h)
  have HI := Lib.hid (inside_any s n w hs)
  have HS := Lib.hid (Mut.same h (Below.refl _ _))
  by_cases hi : insB s n = true
  · by_cases hv : noB v = true
    · have hi' : 0 ≤ s ∧ 1 ≤ n ∧ n ≤ 1024 - s := of_decide_eq_true hi
      have hv' : 1 ≤ v ∧ v ≤ 1073741824 := of_decide_eq_true hv
      have hF := fill_any s.toNat n.toNat v h (by omega) (by omega)
      rw [Int.toNat_of_nonneg hi'.1, Int.toNat_of_nonneg (by omega)] at hF
      have HF := Lib.hid hF
      have HE := Lib.hid (show setE s n v = 0 from if_pos ⟨hi, hv⟩)
      have HD := Lib.hid (show setD M s n v = setR M s.toNat n.toNat v from if_pos ⟨hi, hv⟩)
      rw [hi] at HI
      clear hF hi hv h hs
      go_enter Try.func30, Try.ntmps30
      go_wp2_with (first | (go_at_call 33; refine HM.out.mono ?_; rintro e w1 ⟨rfl, rfl⟩) | (go_at_call 41; refine HI.out.mono ?_; rintro e w1 ⟨rfl, rfl⟩) | (go_at_call 44; refine HF.out.mono ?_; rintro e w1 ⟨rfl, hM1⟩; have HM1 := Lib.hid hM1; clear hM1))
      go_ret
      exact ⟨ret_int HE.out.symm, by rw [HD.out]; exact HM1.out⟩
    · have hv' : v < 1 ∨ 1073741824 < v := by
        have : ¬ (1 ≤ v ∧ v ≤ 1073741824) := fun h => hv (decide_eq_true h)
        omega
      have HE := Lib.hid (show setE s n v = 1 from if_neg (fun h => hv h.2))
      have HD := Lib.hid (show setD M s n v = M from if_neg (fun h => hv h.2))
      rw [hi] at HI
      clear hi hv h hs
      rcases hv' with hv' | hv'
      · go_enter Try.func30, Try.ntmps30
        go_wp2_with (first | (go_at_call 33; refine HM.out.mono ?_; rintro e w1 ⟨rfl, rfl⟩) | (go_at_call 41; refine HI.out.mono ?_; rintro e w1 ⟨rfl, rfl⟩))
        go_ret
        exact ⟨ret_int HE.out.symm, by rw [HD.out]; exact HS.out⟩
      · go_enter Try.func30, Try.ntmps30
        go_wp2_with (first | (go_at_call 33; refine HM.out.mono ?_; rintro e w1 ⟨rfl, rfl⟩) | (go_at_call 41; refine HI.out.mono ?_; rintro e w1 ⟨rfl, rfl⟩))
        go_ret
        exact ⟨ret_int HE.out.symm, by rw [HD.out]; exact HS.out⟩
  · have HE := Lib.hid (show setE s n v = 1 from if_neg (fun h => hi h.1))
    have HD := Lib.hid (show setD M s n v = M from if_neg (fun h => hi h.1))
    rw [Bool.eq_false_iff.2 hi] at HI
    clear hi h hs
    go_enter Try.func30, Try.ntmps30
    go_wp2_with (first | (go_at_call 33; refine HM.out.mono ?_; rintro e w1 ⟨rfl, rfl⟩) | (go_at_call 41; refine HI.out.mono ?_; rintro e w1 ⟨rfl, rfl⟩))
    go_ret
    exact ⟨ret_int HE.out.symm, by rw [HD.out]; exact HS.out⟩

set_option maxRecDepth 100000 in
set_option maxHeartbeats 1000000 in
theorem Clear_any {O : Nat → Prop} {B : Nat} {M : Nat → Int} {w : World} (s n : Int) (h : Tr w O B M) (hs : InR s) :
    Calls Try.prog 32 #[.pointer (some ⟨B, 0, none⟩), .int .i64 s, .int .i64 n] w fun e w' => e = .returned (.int .i64 (clrE s n)) ∧ Mut w O B (clrD M s n) w' := by
  have HM := Lib.hid (made_any h)
  have HI := Lib.hid (inside_any s n w hs)
  have HS := Lib.hid (Mut.same h (Below.refl _ _))
  by_cases hi : insB s n = true
  · have hi' : 0 ≤ s ∧ 1 ≤ n ∧ n ≤ 1024 - s := of_decide_eq_true hi
    have hF := fill_any s.toNat n.toNat 0 h (by omega) (by omega)
    rw [Int.toNat_of_nonneg hi'.1, Int.toNat_of_nonneg (by omega)] at hF
    have HF := Lib.hid hF
    have HE := Lib.hid (show clrE s n = 0 from if_pos hi)
    have HD := Lib.hid (show clrD M s n = setR M s.toNat n.toNat 0 from if_pos hi)
    rw [hi] at HI
    clear hF hi h hs
    go_enter Try.func32, Try.ntmps32
    go_wp2_with (first | (go_at_call 33; refine HM.out.mono ?_; rintro e w1 ⟨rfl, rfl⟩) | (go_at_call 41; refine HI.out.mono ?_; rintro e w1 ⟨rfl, rfl⟩) | (go_at_call 44; refine HF.out.mono ?_; rintro e w1 ⟨rfl, hM1⟩; have HM1 := Lib.hid hM1; clear hM1))
    go_ret
    exact ⟨ret_int HE.out.symm, by rw [HD.out]; exact HM1.out⟩
  · have HE := Lib.hid (show clrE s n = 1 from if_neg hi)
    have HD := Lib.hid (show clrD M s n = M from if_neg hi)
    rw [Bool.eq_false_iff.2 hi] at HI
    clear hi h hs
    go_enter Try.func32, Try.ntmps32
    go_wp2_with (first | (go_at_call 33; refine HM.out.mono ?_; rintro e w1 ⟨rfl, rfl⟩) | (go_at_call 41; refine HI.out.mono ?_; rintro e w1 ⟨rfl, rfl⟩))
    go_ret
    exact ⟨ret_int HE.out.symm, by rw [HD.out]; exact HS.out⟩

theorem pt_none : pt none = .pointer none := rfl
theorem pt_some (b : Nat) : pt (some b) = .pointer (some ⟨b, 0, none⟩) := rfl
theorem getV_in {M : Nat → Int} {p : Int} {q : Nat} (h : p = (q : Int)) (hq : q < 1024) : getV M p = M q := by
  unfold getV
  rw [if_pos (by omega), h, Int.toNat_natCast]

set_option maxRecDepth 100000 in
set_option maxHeartbeats 1000000 in
theorem Get_any {O : Nat → Prop} {B : Nat} {M : Nat → Int} {w : World} (p : Int) (h : Tr w O B M) (hp : InR p) :
    Calls Try.prog 22 #[.pointer (some ⟨B, 0, none⟩), .int .i64 p] w fun e w' => e = .returned (.int .i64 (getV M p)) ∧ w = w' := by
  have HM := Lib.hid (made_any h)
  have HI := Lib.hid (inside_any p 1 w hp)
  by_cases hi : insB p 1 = true
  · have hi' : 0 ≤ p ∧ (1 : Int) ≤ 1 ∧ 1 ≤ 1024 - p := of_decide_eq_true hi
    obtain ⟨q, hq⟩ : ∃ q : Nat, p = (q : Int) := ⟨p.toNat, by omega⟩
    subst hq
    rw [hi] at HI
    have hq : q < 1024 := by omega
    obtain ⟨R, cm, cl, T, h, ti⟩ := h
    obtain ⟨t, ht⟩ : ∃ t, q / 64 = t := ⟨_, rfl⟩
    obtain ⟨s, hs⟩ : ∃ s, q / 8 % 8 = s := ⟨_, rfl⟩
    obtain ⟨n, hn⟩ : ∃ n, q % 8 = n := ⟨_, rfl⟩
    have ht16 : t < 16 := by omega
    have hs8 : s < 8 := by omega
    have hn8 : n < 8 := by omega
    have hpe : q = 8 * (8 * t + s) + n := by omega
    have HV := Lib.hid (show getV M q = M (8 * (8 * t + s) + n) by rw [getV_in rfl hq, ← hpe])
    have e1 : (q : Int) / 64 = ((t : Nat) : Int) := by omega
    have e2 : (q : Int) / 8 % 8 = ((s : Nat) : Int) := by omega
    have e3 : (q : Int) % 8 = ((n : Nat) : Int) := by omega
    have e2' : ((q : Int) / 8).tmod 8 = ((s : Nat) : Int) := by rw [Int.tmod_eq_emod_of_nonneg (by omega)]; exact e2
    have e3' : (q : Int).tmod 8 = ((n : Nat) : Int) := by rw [Int.tmod_eq_emod_of_nonneg (by omega)]; exact e3
    have e1' : (q : Int).tdiv 64 = ((t : Nat) : Int) := by rw [Int.tdiv_eq_ediv_of_nonneg (by omega)]; exact e1
    have c0 := h.c0
    have c1 := h.r.cell t ht16
    clear hi hp hi' ht hs hn hpe
    cases hm : cm t with
    | none =>
      have hz := h.nl (8 * t + s) (by omega) (h.nm t ht16 hm s hs8) n hn8
      rw [hz] at HV
      rw [hm, pt_none] at c1
      clear h ti hz hm
      go_enter Try.func22, Try.ntmps22
      go_wp2_with (first | (go_at_call 33; refine HM.out.mono ?_; rintro e w1 ⟨rfl, rfl⟩) | (go_at_call 41; refine HI.out.mono ?_; rintro e w1 ⟨rfl, rfl⟩))
      go_ret
      exact ⟨ret_int HV.out.symm, rfl⟩
    | some b1 =>
      have c2 := (h.m t ht16 b1 hm).cell s hs8
      rw [hm, pt_some] at c1
      cases hl : cl (8 * t + s) with
      | none =>
        have hz := h.nl (8 * t + s) (by omega) hl n hn8
        rw [hz] at HV
        rw [hl, pt_none] at c2
        clear h ti hz hm hl
        go_enter Try.func22, Try.ntmps22
        go_wp2_with (first | (go_at_call 33; refine HM.out.mono ?_; rintro e w1 ⟨rfl, rfl⟩) | (go_at_call 41; refine HI.out.mono ?_; rintro e w1 ⟨rfl, rfl⟩))
        go_ret
        exact ⟨ret_int HV.out.symm, rfl⟩
      | some b2 =>
        have c3 := (h.l (8 * t + s) (by omega) b2 hl).cell n hn8
        rw [hl, pt_some] at c2
        generalize M (8 * (8 * t + s) + n) = x at HV c3
        clear h ti hm hl
        go_enter Try.func22, Try.ntmps22
        go_wp2_with (first | (go_at_call 33; refine HM.out.mono ?_; rintro e w1 ⟨rfl, rfl⟩) | (go_at_call 41; refine HI.out.mono ?_; rintro e w1 ⟨rfl, rfl⟩))
        go_ret
        exact ⟨ret_int HV.out.symm, rfl⟩
  · have HV := Lib.hid (show getV M p = 0 from if_neg (fun h => hi (decide_eq_true (by omega))))
    rw [Bool.eq_false_iff.2 hi] at HI
    clear h hi hp
    go_enter Try.func22, Try.ntmps22
    go_wp2_with (first | (go_at_call 33; refine HM.out.mono ?_; rintro e w1 ⟨rfl, rfl⟩) | (go_at_call 41; refine HI.out.mono ?_; rintro e w1 ⟨rfl, rfl⟩))
    go_ret
    exact ⟨ret_int HV.out.symm, rfl⟩

end Go.Proofs.Ytdjfeibcbmelcaa
