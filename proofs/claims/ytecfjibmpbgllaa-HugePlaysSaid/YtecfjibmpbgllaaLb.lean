/- Package huge: looking through pages, setting pages; what a huge page is. -/
import Derived.Test.YtecfjibmpbgllaaLa
namespace Go.Proofs.Ytecfjibmpbgllaa
open Go.RowKit

/-- The states of pages in memory. -/
def Sl (w : World) (A a L : Nat) (S : Nat → Nat) : Prop := ∀ j, j < L → w.cell? ⟨A, a + j, none⟩ = some (.int .u8 (S (a + j)))
theorem TkA.sl {w : World} {O : Nat → Prop} {B A cap : Nat} {m : Mo} (h : TkA w O B A cap m) {a L : Nat} (hL : a + L ≤ 16 * m.h) : Sl w A a L m.S := fun _ hj => h.at (by omega)

theorem cnt_hit {S : Nat → Nat} {s a k : Nat} (h : S (a + k) = s) : cnt S s a (k + 1) = cnt S s a k + 1 := by
  show cnt S s a k + (if S (a + k) = s then 1 else 0) = _
  rw [if_pos h]
theorem cnt_miss {S : Nat → Nat} {s a k : Nat} (h : S (a + k) ≠ s) : cnt S s a (k + 1) = cnt S s a k := by
  show cnt S s a k + (if S (a + k) = s then 1 else 0) = _
  rw [if_neg h]; rfl
theorem nbt {x y : Nat} (h : x = y) : ((x : Int) == (y : Int)) = true := by rw [h]; simp
theorem nbf {x y : Nat} (h : x ≠ y) : ((x : Int) == (y : Int)) = false := by simp only [beq_eq_false_iff_ne]; omega

set_option maxHeartbeats 400000 in
theorem tally_any (A a L c s : Nat) (S : Nat → Nat) (w : World) (hL : L ≤ 1024) (h : Sl w A a L S) :
    Calls Try.prog 57 #[.slice (some ⟨A, a, none⟩) L c, .int .u8 s] w fun e w' => e = .returned (.int .i64 (cnt S s a L)) ∧ w = w' := by
  have HS := Lib.hid h
  clear h
  go_enter Try.func57, Try.ntmps57
  go_wp2
  go_loop [5, 10] (fun v i => ∃ k : Nat, k ≤ L ∧ i = .int .i64 k ∧ v = .int .i64 (cnt S s a k)) (fun _ i => L - (intOf i).toNat)
  case atStart => exact ⟨0, by omega, rfl, rfl⟩
  case round =>
    obtain ⟨k, hk, rfl, rfl⟩ := hrel
    by_cases hlt : k < L
    · have g := HS.out k hlt
      have hc := cnt_le S s a k
      by_cases he : S (a + k) = s
      · have HC := Lib.hid (cnt_hit he)
        have q : (((S (a + k) : Nat) : Int) == (s : Int)) = true := nbt he
        clear he
        generalize S (a + k) = x at g q
        generalize cnt S s a k = C at *
        go_wp2
        go_round
        case rel => exact ⟨k + 1, by omega, by go_num, by rw [HC.out]; go_num⟩
        case measure => simp [intOf]; omega
      · have HC := Lib.hid (cnt_miss he)
        have q : (((S (a + k) : Nat) : Int) == (s : Int)) = false := nbf he
        clear he
        generalize S (a + k) = x at g q
        generalize cnt S s a k = C at *
        go_wp2
        go_round
        case rel => exact ⟨k + 1, by omega, by go_num, by rw [HC.out]⟩
        case measure => simp [intOf]; omega
    · go_wp2
      go_ret
      obtain rfl : k = L := by omega
      exact ⟨rfl, rfl⟩

set_option maxHeartbeats 400000 in
theorem Index_any (A a L c s : Nat) (S : Nat → Nat) (w : World) (hL : L ≤ 1024) (h : Sl w A a L S) :
    Calls Try.prog 81 #[.slice (some ⟨A, a, none⟩) L c, .int .u8 s] w fun e w' => (∃ r : Int, (0 ≤ r ↔ anyS S s a L = true) ∧ -1 ≤ r ∧ r < 1024 ∧ e = .returned (.int .i64 r)) ∧ w = w' := by
  have HS := Lib.hid h
  clear h
  go_enter Try.func81, Try.ntmps81
  go_wp2
  go_loop [8] (fun i => ∃ k : Nat, k ≤ L ∧ i = .int .i64 k ∧ ∀ j, j < k → S (a + j) ≠ s) (fun i => L - (intOf i).toNat)
  case atStart => exact ⟨0, by omega, rfl, fun j hj => by omega⟩
  case round =>
    obtain ⟨k, hk, rfl, hno⟩ := hrel
    have HN := Lib.hid hno
    clear hno
    by_cases hlt : k < L
    · have g := HS.out k hlt
      by_cases he : S (a + k) = s
      · have HE := Lib.hid he
        have q : ((s : Int) == ((S (a + k) : Nat) : Int)) = true := nbt he.symm
        clear he
        generalize hx : S (a + k) = x at g q
        clear hx
        go_wp2
        go_ret
        exact ⟨⟨k, ⟨fun _ => anyS_true hlt HE.out, fun _ => by omega⟩, by omega, by omega, rfl⟩, rfl⟩
      · have HE := Lib.hid he
        have q : ((s : Int) == ((S (a + k) : Nat) : Int)) = false := nbf (Ne.symm he)
        clear he
        generalize hx : S (a + k) = x at g q
        clear hx
        go_wp2
        go_round
        case rel => exact ⟨k + 1, by omega, by go_num, fun j hj => by rcases Nat.lt_or_ge j k with hjk | hjk; exact HN.out j hjk; rw [show j = k from by omega]; exact HE.out⟩
        case measure => simp [intOf]; omega
    · have HF := Lib.hid (anyS_false (S := S) (s := s) (a := a) (k := L) (fun j hj => HN.out j (by omega)))
      go_wp2
      go_ret
      exact ⟨⟨-1, ⟨fun h => by omega, fun h => by rw [HF.out] at h; cases h⟩, by omega, by omega, rfl⟩, rfl⟩

set_option maxHeartbeats 400000 in
theorem Contains_any (A a L c s : Nat) (S : Nat → Nat) (w : World) (hL : L ≤ 1024) (h : Sl w A a L S) :
    Calls Try.prog 72 #[.slice (some ⟨A, a, none⟩) L c, .int .u8 s] w fun e w' => e = .returned (.bool (anyS S s a L)) ∧ w = w' := by
  have HC := Lib.hid (Index_any A a L c s S w hL h)
  clear h
  go_enter Try.func72, Try.ntmps72
  go_wp2_with fail
  refine HC.out.mono ?_
  rintro e _ ⟨⟨r, h1, h2, h3, rfl⟩, rfl⟩
  have H1 := Lib.hid h1
  clear h1
  go_wp2
  go_ret
  exact ⟨ret_bool (by rw [Bool.eq_iff_iff, ← H1.out]; simp), rfl⟩

set_option maxHeartbeats 400000 in
/-- Which of two states a page has, asked of a list of states. -/
theorem Contains_st (X L c : Nat) (x : Nat) (f : Nat → Nat) (w : World) (hL : L ≤ 1024) (h : ∀ j, j < L → w.cell? ⟨X, j, none⟩ = some (.int .u8 (f j))) :
    Calls Try.prog 72 #[.slice (some ⟨X, 0, none⟩) L c, .int .u8 x] w fun e w' => e = .returned (.bool (decide (∃ j : Nat, j < L ∧ f j = x))) ∧ w = w' := by
  have := Contains_any X 0 L c x f w hL (fun j hj => by rw [Nat.zero_add]; exact h j hj)
  unfold anyS at this
  simpa only [Nat.zero_add] using this

set_option maxHeartbeats 400000 in
theorem setAll_any (A a L c n v : Nat) (S : Nat → Nat) (w : World) (hn : a + L ≤ n) (hn2 : n ≤ 1024) (h : Cl w A n (fun i => .int .u8 (S i))) :
    Calls Try.prog 79 #[.slice (some ⟨A, a, none⟩) L c, .int .u8 v] w fun e w' => e = .returned (.tuple #[]) ∧ Cl w' A n (fun i => .int .u8 (setR S a L v i)) ∧ Keep (fun k => k = A) w w' := by
  have HS := Lib.hid h
  clear h
  go_enter Try.func79, Try.ntmps79
  go_wp2
  go_loopw [7] (fun i wr => ∃ k : Nat, k ≤ L ∧ i = .int .i64 k ∧ Cl wr A n (fun i => .int .u8 (setR S a k v i)) ∧ Keep (fun k => k = A) w wr) (fun i _ => L - (intOf i).toNat)
  case atStart => exact ⟨0, by omega, rfl, HS.out.congr fun i _ => by unfold setR; rw [if_neg (by omega)], Keep.refl _ _⟩
  case round =>
    obtain ⟨k, hk, rfl, hC, hK⟩ := hrel
    have HC := Lib.hid hC
    have HK := Lib.hid hK
    by_cases hlt : k < L
    · have g1 := hC.cell (a + k) (by omega)
      have g2 := hC.free (a + k) (by omega)
      generalize setR S a k v (a + k) = x at g1
      clear hC hK
      go_wp2
      go_roundw
      case rel =>
        refine ⟨k + 1, by omega, by go_num, (HC.out.set (a + k) _).congr fun i _ => ?_, HK.out.set (a := ⟨A, a + k, none⟩) (.inl rfl) _⟩
        unfold setR
        by_cases e : i = a + k
        · rw [if_pos e, if_pos (by omega)]
        · rw [if_neg e]
          by_cases e2 : a ≤ i ∧ i < a + k
          · rw [if_pos e2, if_pos (by omega)]
          · rw [if_neg e2, if_neg (by omega)]
      case measure => simp [intOf]; omega
    · have hkL : k = L := by omega
      have HKL := Lib.hid hkL
      clear hkL
      go_wp2
      go_end0
      rw [← HKL.out]
      exact ⟨rfl, HC.out, HK.out⟩

set_option maxHeartbeats 400000 in
theorem kindOf_any {O : Nat → Prop} {B : Nat} {m : Mo} {w : World} (g : Nat) (h : Tk w O B m) (hg : g < m.h) :
    Calls Try.prog 71 #[.pointer (some ⟨B, 0, none⟩), .int .i64 g] w fun e w' => e = .returned (.int .i64 (kdS m.S g)) ∧ w = w' := by
  obtain ⟨A, cap, h⟩ := h
  have HO := Lib.hid (of_any g h hg)
  have hs := h.sl (a := 16 * g) (L := 16) (by omega)
  have HC := Lib.hid (fun s => Contains_any A (16 * g) 16 (cap - 16 * g) s m.S w (by omega) hs)
  have g0 := hs 0 (by omega)
  rw [Nat.add_zero] at g0
  clear hs h
  by_cases h0 : m.S (16 * g) = 0
  · have HD := Lib.hid (show kdS m.S g = 0 from by unfold kdS; rw [if_pos h0])
    rw [h0] at g0
    clear h0
    go_enter Try.func71, Try.ntmps71
    go_wp2_with (first | (go_at_call 58; refine HO.out.mono ?_; rintro e w1 ⟨rfl, rfl⟩) | (go_at_call 72; refine (HC.out _).mono ?_; rintro e w1 ⟨rfl, rfl⟩))
    go_ret
    exact ⟨ret_int (by rw [HD.out]; rfl), rfl⟩
  · have q : (((m.S (16 * g) : Nat) : Int) == 0) = false := by simpa using h0
    have HD := Lib.hid (show kdS m.S g = if anyS m.S 1 (16 * g) 16 = true then (if anyS m.S 3 (16 * g) 16 = true then 2 else 3) else 1 from by unfold kdS; rw [if_neg h0])
    clear h0
    have HC1 := Lib.hid (HC.out 1)
    have HC3 := Lib.hid (HC.out 3)
    clear HC
    generalize anyS m.S 1 (16 * g) 16 = b1 at *
    generalize anyS m.S 3 (16 * g) 16 = b3 at *
    generalize m.S (16 * g) = x at g0 q
    cases b1
    · go_enter Try.func71, Try.ntmps71
      go_wp2_with (first | (go_at_call 58; refine HO.out.mono ?_; rintro e w1 ⟨rfl, rfl⟩) | (go_at_call 72; refine HC1.out.mono ?_; rintro e w1 ⟨rfl, rfl⟩))
      go_ret
      exact ⟨ret_int (by rw [HD.out]; rfl), rfl⟩
    · cases b3
      · go_enter Try.func71, Try.ntmps71
        go_wp2_with fail
        refine HO.out.mono ?_
        rintro e w1 ⟨rfl, rfl⟩
        go_wp2_with fail
        refine HC1.out.mono ?_
        rintro e w1 ⟨rfl, rfl⟩
        go_wp2_with fail
        refine HC3.out.mono ?_
        rintro e w1 ⟨rfl, rfl⟩
        go_wp2_with fail
        go_ret
        exact ⟨ret_int (by rw [HD.out]; rfl), rfl⟩
      · go_enter Try.func71, Try.ntmps71
        go_wp2_with fail
        refine HO.out.mono ?_
        rintro e w1 ⟨rfl, rfl⟩
        go_wp2_with fail
        refine HC1.out.mono ?_
        rintro e w1 ⟨rfl, rfl⟩
        go_wp2_with fail
        refine HC3.out.mono ?_
        rintro e w1 ⟨rfl, rfl⟩
        go_wp2_with fail
        go_ret
        exact ⟨ret_int (by rw [HD.out]; rfl), rfl⟩

end Go.Proofs.Ytecfjibmpbgllaa
