/- Take, Free, Order. -/
import Derived.Test.YtnmejilpifmlnaaDoorLk
import Derived.Test.YtnmejilpifmlnaaDoorMd
namespace Go.Proofs.YtnmejilpifmlnaaDoor
open Go.RowKit

theorem Take_any {O : Nat → Prop} {B : Nat} {m : Mo} {w : World} (p a : Int) (h : Hp w O B m) :
    Calls Tryd.prog 25 #[.pointer (some ⟨B, 0, none⟩), .int .i64 p, .int .i64 a] w (TakePost w O B m p a) := by
  cases hok : okA p a
  · exact Take_bad p a h hok
  · have hok' := hok
    unfold okA at hok'
    rw [Bool.and_eq_true, decide_eq_true_eq] at hok'
    have := pow_bd hok'.2
    obtain ⟨x, rfl⟩ := Int.eq_ofNat_of_zero_le (show 0 ≤ p by omega)
    obtain ⟨y, rfl⟩ := Int.eq_ofNat_of_zero_le (show 0 ≤ a by omega)
    exact Take_go x y h hok

theorem set_size {w : World} {b : Nat} {F : Nat → Bool} {n k : Nat} (h : SetAt w b (Bk F k)) (hF : ∀ p, F p = true → p < n) (ty : TypeId) :
    (Builtin.len_ #[64] ty #[.map (some b)]).run Tryd.prog w = .ok (.int .i64 ((bl F n k).length : Int)) w := by
  obtain ⟨L, h1, h2⟩ := h
  rw [h2.len ty, set_len h2 h1 hF]

def Mo.fr (m : Mo) : Nat := cntF m.F m.n
theorem mul_pow {k : Nat} (_hk : k ≤ 11) {x y : Nat} (hx : x + y * 2 ^ k ≤ 1024) : wrap64 ((y : Int) * (2 : Int) ^ k) = ((y * 2 ^ k : Nat) : Int) := by
  have e : ((2 : Int) ^ k) = ((2 ^ k : Nat) : Int) := by simp
  rw [e, ← Int.natCast_mul]
  generalize y * 2 ^ k = z at *
  exact IntWalk.wrap64_in _ (by omega)

set_option maxRecDepth 100000 in
set_option maxHeartbeats 1000000 in
theorem Free_any {O : Nat → Prop} {B : Nat} {m : Mo} {w : World} (h : Hp w O B m) : Calls Tryd.prog 24 #[.pointer (some ⟨B, 0, none⟩)] w fun e w' => e = .returned (.int .i64 (m.fr : Nat)) ∧ w = w' := by
  have HM := Lib.hid (made_any h)
  have HWF := Lib.hid h.wf
  have hKl := (h.wf.K).2.1
  obtain ⟨A, cap, mb, h⟩ := h
  have HH := Lib.hid h
  have c1 := h.c1
  have hcap := h.cp
  obtain ⟨K, hK⟩ : ∃ K, ords m.n = K := ⟨_, rfl⟩
  have HK := Lib.hid hK
  rw [hK] at c1 hcap hKl
  clear h hK
  go_enter Tryd.func24, Tryd.ntmps24
  go_wp2_with (go_at_call 33; refine HM.out.mono ?_; rintro x _ ⟨rfl, rfl⟩)
  go_loop [3, 14] (fun v i => ∃ k : Nat, k ≤ K ∧ i = .int .i64 k ∧ v = .int .i64 (sumB m.F m.n k : Nat)) (fun _ i => K - (intOf i).toNat)
  case atStart => exact ⟨0, by omega, rfl, rfl⟩
  case round =>
    obtain ⟨k, hk, rfl, rfl⟩ := hrel
    by_cases hlt : k < K
    · have hkK : k < ords m.n := by have := HK.out; omega
      have a0 := HH.out.a0 hkK
      have hlen := set_size (HH.out.s k hkK) HWF.out.f
      have hle := sumB_le HWF.out.f (k + 1)
      have hcl := cntF_le m.F m.n
      have hn2 := HWF.out.n2
      have e1 : sumB m.F m.n (k + 1) = sumB m.F m.n k + (bl m.F m.n k).length * 2 ^ k := rfl
      have hm := mul_pow (k := k) (x := sumB m.F m.n k) (y := (bl m.F m.n k).length) (by omega) (by omega)
      have HE := Lib.hid e1
      rw [e1] at hle
      generalize sumB m.F m.n k = S at hle hm HE
      generalize (bl m.F m.n k).length = L at hle hm HE hlen
      generalize L * 2 ^ k = Y at hle hm HE
      have hsy : S + Y ≤ 1024 := by clear hm; omega
      clear hkK hle hcl hn2 e1
      go_wp2
      go_round
      case rel => exact ⟨k + 1, by omega, by go_num, by rw [HE.out]; go_num⟩
      case measure => simp [intOf]; omega
    · go_wp2
      go_ret
      refine ⟨ret_int ?_, rfl⟩
      obtain rfl : k = K := by omega
      have := sumB_all (K := k) HWF.out.f (by have h := (HWF.out.K).2.2.1; rw [HK.out] at h; exact h)
      rw [this]
      rfl

def Mo.od (m : Mo) : Int := ordN m.F m.n 11

set_option maxRecDepth 100000 in
set_option maxHeartbeats 1000000 in
theorem Order_any {O : Nat → Prop} {B : Nat} {m : Mo} {w : World} (h : Hp w O B m) : Calls Tryd.prog 28 #[.pointer (some ⟨B, 0, none⟩)] w fun e w' => e = .returned (.int .i64 m.od) ∧ w = w' := by
  have HM := Lib.hid (made_any h)
  have HWF := Lib.hid h.wf
  have hKl := (h.wf.K).2.1
  obtain ⟨A, cap, mb, h⟩ := h
  have HH := Lib.hid h
  have c1 := h.c1
  have hcap := h.cp
  obtain ⟨K, hK⟩ : ∃ K, ords m.n = K := ⟨_, rfl⟩
  have HK := Lib.hid hK
  rw [hK] at c1 hcap hKl
  clear h hK
  go_enter Tryd.func28, Tryd.ntmps28
  go_wp2_with (go_at_call 33; refine HM.out.mono ?_; rintro x _ ⟨rfl, rfl⟩)
  go_loop [3, 14] (fun v i => ∃ k : Nat, k ≤ K ∧ i = .int .i64 k ∧ v = .int .i64 (ordN m.F m.n k)) (fun _ i => K - (intOf i).toNat)
  case atStart => exact ⟨0, by omega, rfl, rfl⟩
  case round =>
    obtain ⟨k, hk, rfl, rfl⟩ := hrel
    by_cases hlt : k < K
    · have hkK : k < ords m.n := by have := HK.out; omega
      have a0 := HH.out.a0 hkK
      have hlen := set_size (HH.out.s k hkK) HWF.out.f
      have e1 : ordN m.F m.n (k + 1) = if (bl m.F m.n k).length = 0 then ordN m.F m.n k else (k : Int) := rfl
      generalize (bl m.F m.n k).length = L at e1 hlen
      by_cases h0 : L = 0
      · subst h0
        have HE := Lib.hid e1
        clear hkK e1
        go_wp2
        go_round
        case rel => exact ⟨k + 1, by omega, by go_num, by rw [HE.out, if_pos rfl]⟩
        case measure => simp [intOf]; omega
      · have h1 : (0 : Int) < (L : Int) := by omega
        rw [if_neg h0] at e1
        have HE := Lib.hid e1
        clear hkK e1 h0
        go_wp2
        go_round
        case rel => exact ⟨k + 1, by omega, by go_num, by rw [HE.out]⟩
        case measure => simp [intOf]; omega
    · go_wp2
      go_ret
      refine ⟨ret_int ?_, rfl⟩
      obtain rfl : k = K := by omega
      have := ordN_past (F := m.F) (n := m.n) (K := k) (fun j hj => bl_nil HWF.out.f (Nat.lt_of_lt_of_le (by have h := (HWF.out.K).2.2.1; rw [HK.out] at h; exact h) (pow_le hj))) (11 - k)
      rw [show k + (11 - k) = 11 from by omega] at this
      exact this.symm

end Go.Proofs.YtnmejilpifmlnaaDoor
