/- The document's own heap: Take. -/
import Derived.Test.YtnmejilpifmlnaaDoorGe
import Derived.Test.YtnmejilpifmlnaaDoorXg
namespace Go.Proofs.YtnmejilpifmlnaaDoor
open Go.RowKit

theorem okA_cases {p a : Int} (h : okA p a = false) : p < 1 ∨ 1024 < p ∨ (1 ≤ p ∧ p ≤ 1024 ∧ powI a = false) := by
  unfold okA at h
  by_cases h1 : 1 ≤ p ∧ p ≤ 1024
  · rw [decide_eq_true h1, Bool.true_and] at h
    exact .inr (.inr ⟨h1.1, h1.2, h⟩)
  · omega
theorem okA_true {p a : Int} (h : okA p a = true) : 1 ≤ p ∧ p ≤ 1024 ∧ powI a = true := by
  unfold okA at h
  rw [Bool.and_eq_true] at h
  have := of_decide_eq_true h.1
  exact ⟨this.1, this.2, h.2⟩

set_option maxHeartbeats 1000000 in
theorem rTake_bad {O : Nat → Prop} {B : Nat} {m : Mo} {w : World} (p a : Int) (h : Rf w O B m) (hok : okA p a = false) :
    Calls Tryd.prog 37 #[.pointer (some ⟨B, 0, none⟩), .int .i64 p, .int .i64 a] w fun e w' => e = .returned (.tuple #[.int .i64 0, .int .i64 1]) ∧ w = w' := by
  have HM := Lib.hid (rmade_any h)
  clear h
  rcases okA_cases hok with h1 | h1 | ⟨h1, h2, h3⟩
  · have d1 : decide (p < 1) = true := decide_eq_true h1
    clear hok h1
    go_enter Tryd.func37, Tryd.ntmps37
    go_wp2_with (go_at_call 35; refine HM.out.mono ?_; rintro x _ ⟨rfl, rfl⟩)
    go_ret2
    exact ⟨rfl, rfl⟩
  · have d1 : decide (p < 1) = false := decide_eq_false (by omega)
    have d2 : decide (1024 < p) = true := decide_eq_true h1
    clear hok h1
    go_enter Tryd.func37, Tryd.ntmps37
    go_wp2_with (go_at_call 35; refine HM.out.mono ?_; rintro x _ ⟨rfl, rfl⟩)
    go_ret2
    exact ⟨rfl, rfl⟩
  · have d1 : decide (p < 1) = false := decide_eq_false (by omega)
    have d2 : decide (1024 < p) = false := decide_eq_false (by omega)
    have HPW := Lib.hid (Power_any a w)
    rw [h3] at HPW
    clear hok h1 h2 h3
    go_enter Tryd.func37, Tryd.ntmps37
    go_wp2_with (first | (go_at_call 35; refine HM.out.mono ?_; rintro x _ ⟨rfl, rfl⟩) | (go_at_call 26; refine HPW.out.mono ?_; rintro x _ ⟨rfl, rfl⟩))
    go_ret2
    exact ⟨rfl, rfl⟩

def rTakePost (w : World) (O : Nat → Prop) (B : Nat) (m : Mo) (p a : Int) (e : Ending) (w' : World) : Prop := e = .returned (.tuple #[.int .i64 (tkV m p a), .int .i64 (tkE m p a)]) ∧ RMut w O B (tkD m p a) w'

theorem bst_at (F : Nat → Bool) (n k L : Nat) (hk : k < L) : bst F n (max (k + 1) L) (11 - max (k + 1) L) = bst F n (max k L) (11 - max k L) := by
  rw [show max (k + 1) L = max k L by omega]
theorem bst_go {F : Nat → Bool} {n k L : Nat} (hk : L ≤ k) (hk2 : k ≤ 10) (h : bl F n k = []) : bst F n (max (k + 1) L) (11 - max (k + 1) L) = bst F n (max k L) (11 - max k L) := by
  rw [show max (k + 1) L = k + 1 by omega, show max k L = k by omega, show 11 - k = (11 - (k + 1)) + 1 by omega, bst_nil h]

set_option maxRecDepth 100000 in
set_option maxHeartbeats 2000000 in
theorem rTake_go {O : Nat → Prop} {B : Nat} {m : Mo} {w : World} (p a : Nat) (h : Rf w O B m) (hok : okA p a = true) :
    Calls Tryd.prog 37 #[.pointer (some ⟨B, 0, none⟩), .int .i64 p, .int .i64 a] w (rTakePost w O B m p a) := by
  have HM := Lib.hid (rmade_any h)
  have HH := Lib.hid h
  obtain ⟨p1, p2, p3⟩ := okA_true hok
  obtain ⟨a1, a2⟩ := pow_bd p3
  have HPW := Lib.hid (Power_any (a : Int) w)
  rw [p3] at HPW
  have HOK := Lib.hid hok
  have hwf := h.choose_spec.choose_spec.wf
  have HWF := Lib.hid hwf
  have hOl := h.choose_spec.choose_spec.lt
  have HOL := Lib.hid hOl
  have d1 : decide ((p : Int) < 1) = false := decide_eq_false (by omega)
  have d2 : decide (1024 < (p : Int)) = false := decide_eq_false (by omega)
  obtain ⟨L, hL⟩ : ∃ L, lv (max p a) = L := ⟨_, rfl⟩
  have HLV := Lib.hid (fun k => by have := lv_le (max p a) k (by omega) (by omega); rw [hL] at this; exact this)
  have HTB := Lib.hid (show tkB m p a = bst m.F m.n (max 0 L) (11 - max 0 L) from by
    unfold tkB
    rw [show (max (p : Int) (a : Int)).toNat = max p a by omega, hL, Nat.zero_max])
  clear h hok p3 hwf hOl hL
  go_enter Tryd.func37, Tryd.ntmps37
  go_wp2_with (first | (go_at_call 35; refine HM.out.mono ?_; rintro x _ ⟨rfl, rfl⟩) | (go_at_call 26; refine HPW.out.mono ?_; rintro x _ ⟨rfl, rfl⟩))
  go_loopw [8, 9] (fun s i wr => ∃ k P : Nat, k ≤ 11 ∧ P = 2 ^ k ∧ i = .int .i64 k ∧ s = .int .i64 P ∧ tkB m p a = bst m.F m.n (max k L) (11 - max k L) ∧ Below w.heap.size w wr) (fun _ i _ => 11 - (intOf i).toNat)
  case atStart => exact ⟨0, 1, by omega, rfl, rfl, rfl, HTB.out, Below.refl _ _⟩
  case round =>
    clear HTB d1 d2
    obtain ⟨k, P, hk, hP, rfl, rfl, hT, hb⟩ := hrel
    have HT := Lib.hid hT
    have HB := Lib.hid hb
    have hP2 : P ≤ 2048 := by rw [hP]; exact pow_le_2048 hk
    have hP1 : 1 ≤ P := by rw [hP]; exact Nat.two_pow_pos k
    have HP := Lib.hid hP
    have HNX := Lib.hid (show 2 * P = 2 ^ (k + 1) by rw [hP, Nat.pow_succ, Nat.mul_comm])
    clear hT hb hP
    by_cases hlt : k ≤ 10
    · by_cases hpa : p ≤ P ∧ a ≤ P
      · obtain ⟨hp, ha⟩ := hpa
        have hLk : L ≤ k := (HLV.out k).2 (by rw [← HP.out]; omega)
        have e1 : decide ((P : Int) < (p : Int)) = false := decide_eq_false (by omega)
        have e2 : decide ((P : Int) < (a : Int)) = false := decide_eq_false (by omega)
        have e3 : decide ((p : Int) ≤ (P : Int)) = true := decide_eq_true (by omega)
        have e4 : decide ((a : Int) ≤ (P : Int)) = true := decide_eq_true (by omega)
        have HBL := Lib.hid (rBlocks_go k (HH.out.below HB.out) (by omega))
        cases hl : bl m.F m.n k with
        | nil =>
          have HN := Lib.hid (bst_go hLk hlt hl)
          rw [hl] at HBL
          clear hl hLk
          go_wp2_with fail
          refine HBL.out.mono ?_
          rintro e w1 ⟨A, c, rfl, _, hb1⟩
          have HB1 := Lib.hid (btr HB.out hb1 (Nat.le_refl _))
          clear hb1
          go_wp2_with fail
          go_roundw
          case rel => exact ⟨k + 1, 2 * P, by omega, HNX.out, by go_num, by go_num, by rw [HN.out]; exact HT.out, HB1.out⟩
          case measure => simp [intOf]; omega
        | cons s r =>
          have hbk : Bk m.F k s := (bl_mem HWF.out.f).1 (by rw [hl]; exact List.mem_cons_self ..)
          have hsn := bk_le HWF.out.f hbk
          rw [← HP.out] at hsn
          have HTS := Lib.hid (show tkB m p a = some (k, s) by rw [HT.out, show max k L = k by omega, show 11 - k = (11 - (k + 1)) + 1 by omega, bst_cons hl])
          rw [hl] at HBL
          have hlen : (s :: r).length = r.length + 1 := rfl
          rw [show bl m.F m.n k = s :: r from hl] at *
          have hspn : s + p ≤ m.n := by omega
          have HSN := Lib.hid hspn
          have hs2 : s ≤ 1024 := by have := HWF.out.n2; omega
          clear hl hLk hbk hsn hlen hspn
          go_wp2_with fail
          refine HBL.out.mono ?_
          rintro e w1 ⟨A, c, rfl, hn, hb1⟩
          obtain ⟨g, rfl, hg1, hg2, hg3⟩ := hn 0 s rfl
          have HB1 := Lib.hid (btr HB.out hb1 (Nat.le_refl _))
          have HST := Lib.hid (rset_any s p false (HH.out.below HB1.out) HSN.out)
          have HGO := Lib.hid (show ¬ O g from fun ho => by have := HOL.out g ho; have := HB.out.size; omega)
          have HG2 := Lib.hid hg2
          have HG3 := Lib.hid hg3
          have hL1 : (s :: r).length = r.length + 1 := rfl
          rw [hL1]
          generalize r.length = R
          clear hn hb1 hg1 hL1
          go_wp2_with fail
          refine HST.out.mono ?_
          rintro e w2 ⟨rfl, hM⟩
          have hg4 := (World.cell?_of_block (w := w1) (a := ⟨g, 0, none⟩) (hM.2.block g HG2.out HGO.out)).trans HG3.out
          have HM2 := Lib.hid hM
          clear hM
          go_wp2_with fail
          go_ret2
          obtain ⟨q1, q2, q3⟩ := tk_yes HOK.out HTS.out
          refine ⟨?_, ?_⟩
          · rw [q1, q2]; rfl
          · rw [q3, Int.toNat_natCast]
            exact (RMut.same HH.out HB1.out).trans HM2.out
      · have hLk : k < L := by
          rcases Nat.lt_or_ge k L with h | h
          · exact h
          · exact absurd ((HLV.out k).1 h) (by rw [← HP.out]; omega)
        have HN := Lib.hid (bst_at m.F m.n k L hLk)
        clear hLk
        by_cases hp : p ≤ P
        · have ha : ¬ a ≤ P := fun h => hpa ⟨hp, h⟩
          clear hpa
          go_wp2_with fail
          go_roundw
          case rel => exact ⟨k + 1, 2 * P, by omega, HNX.out, by go_num, by go_num, by rw [HN.out]; exact HT.out, HB.out⟩
          case measure => simp [intOf]; omega
        · clear hpa
          go_wp2_with fail
          go_roundw
          case rel => exact ⟨k + 1, 2 * P, by omega, HNX.out, by go_num, by go_num, by rw [HN.out]; exact HT.out, HB.out⟩
          case measure => simp [intOf]; omega
    · obtain rfl : k = 11 := by omega
      go_wp2_with fail
      go_ret2
      have hnone : tkB m p a = none := by
        rw [HT.out]
        have hle : L ≤ 11 := (HLV.out 11).2 (by have : (2 : Nat) ^ 11 = 2048 := rfl; omega)
        rw [show max 11 L = 11 by omega]; rfl
      obtain ⟨q1, q2, q3⟩ := tk_full HOK.out hnone
      exact ⟨by rw [q1, q2]; rfl, by rw [q3]; exact RMut.same HH.out HB.out⟩

theorem rTake_any {O : Nat → Prop} {B : Nat} {m : Mo} {w : World} (p a : Int) (h : Rf w O B m) :
    Calls Tryd.prog 37 #[.pointer (some ⟨B, 0, none⟩), .int .i64 p, .int .i64 a] w (rTakePost w O B m p a) := by
  cases hok : okA p a with
  | false =>
    obtain ⟨q1, q2, q3⟩ := tk_bad hok (m := m)
    refine (rTake_bad p a h hok).mono ?_
    rintro e w' ⟨rfl, rfl⟩
    exact ⟨by rw [q1, q2], by rw [q3]; exact RMut.same h (Below.refl _ _)⟩
  | true =>
    obtain ⟨p1, p2, p3⟩ := okA_true hok
    obtain ⟨a1, a2⟩ := pow_bd p3
    obtain ⟨p, rfl⟩ : ∃ q : Nat, p = q := ⟨p.toNat, by omega⟩
    obtain ⟨a, rfl⟩ : ∃ q : Nat, a = q := ⟨a.toNat, by omega⟩
    exact rTake_go p a h hok

end Go.Proofs.YtnmejilpifmlnaaDoor
