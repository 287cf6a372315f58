/- Package huge: State, Used, Count, Idle, Broken, Whole. -/
import Derived.Test.YtecfjibmpbgllaaMd
namespace Go.Proofs.Ytecfjibmpbgllaa
open Go.RowKit

def InR (x : Int) : Prop := -9223372036854775808 ≤ x ∧ x ≤ 9223372036854775807

set_option maxHeartbeats 800000 in
theorem State_any {O : Nat → Prop} {B : Nat} {m : Mo} {w : World} (p : Int) (h : Tk w O B m) (hp : InR p) :
    Calls Try.prog 20 #[.pointer (some ⟨B, 0, none⟩), .int .i64 p] w fun e w' => e = .returned (.int .i64 (stV m p)) ∧ w = w' := by
  have HM := Lib.hid (made_any h)
  have hi := inside_any p 1 h hp
  have h2 := h.wf.h2
  obtain ⟨A, cap, h⟩ := h
  have c0 := h.c0
  have hcp := h.cp
  by_cases hin : 0 ≤ p ∧ p < 16 * m.h
  · obtain ⟨q, rfl⟩ : ∃ q : Nat, p = q := ⟨p.toNat, by omega⟩
    have g0 := h.at (i := q) (by omega)
    have hs3 := h.wf.s3 q
    have hq : q < 16 * m.h := by omega
    rw [show inM m q 1 = true from decide_eq_true (by omega)] at hi
    have HI := Lib.hid hi
    have HV := Lib.hid (show stV m q = m.S q from by unfold stV; rw [if_pos hin]; simp)
    clear hi hin h hp
    generalize m.S q = x at g0 HV hs3
    go_enter Try.func20, Try.ntmps20
    go_wp2_with (first | (go_at_call 39; refine HM.out.mono ?_; rintro e w1 ⟨rfl, rfl⟩) | (go_at_call 54; refine HI.out.mono ?_; rintro e w1 ⟨rfl, rfl⟩))
    go_ret
    exact ⟨ret_int HV.out.symm, rfl⟩
  · rw [show inM m p 1 = false from decide_eq_false (by omega)] at hi
    have HI := Lib.hid hi
    have HV := Lib.hid (show stV m p = -1 from by unfold stV; rw [if_neg hin])
    clear hi hin h hp
    go_enter Try.func20, Try.ntmps20
    go_wp2_with (first | (go_at_call 39; refine HM.out.mono ?_; rintro e w1 ⟨rfl, rfl⟩) | (go_at_call 54; refine HI.out.mono ?_; rintro e w1 ⟨rfl, rfl⟩))
    go_ret
    exact ⟨ret_int HV.out.symm, rfl⟩

set_option maxHeartbeats 800000 in
theorem Used_any {O : Nat → Prop} {B : Nat} {m : Mo} {w : World} (g : Int) (h : Tk w O B m) :
    Calls Try.prog 26 #[.pointer (some ⟨B, 0, none⟩), .int .i64 g] w fun e w' => e = .returned (.int .i64 (usV m g)) ∧ w = w' := by
  have HM := Lib.hid (made_any h)
  have hi := has_any g h
  obtain ⟨A, cap, h⟩ := h
  by_cases hin : 0 ≤ g ∧ g < m.h
  · obtain ⟨q, rfl⟩ : ∃ q : Nat, g = q := ⟨g.toNat, by omega⟩
    have HO := Lib.hid (of_any q h (by omega))
    have HT := Lib.hid (tally_any A (16 * q) 16 (cap - 16 * q) 1 m.S w (by omega) (h.sl (by omega)))
    rw [show hasM m q = true from decide_eq_true hin] at hi
    have HI := Lib.hid hi
    have HV := Lib.hid (show usV m q = cnt m.S 1 (16 * q) 16 from by unfold usV; rw [if_pos hin]; simp)
    clear hi hin h
    go_enter Try.func26, Try.ntmps26
    go_wp2_with (first | (go_at_call 39; refine HM.out.mono ?_; rintro e w1 ⟨rfl, rfl⟩) | (go_at_call 56; refine HI.out.mono ?_; rintro e w1 ⟨rfl, rfl⟩) | (go_at_call 58; refine HO.out.mono ?_; rintro e w1 ⟨rfl, rfl⟩) | (go_at_call 57; refine HT.out.mono ?_; rintro e w1 ⟨rfl, rfl⟩))
    go_ret
    exact ⟨ret_int HV.out.symm, rfl⟩
  · rw [show hasM m g = false from decide_eq_false hin] at hi
    have HI := Lib.hid hi
    have HV := Lib.hid (show usV m g = 0 from by unfold usV; rw [if_neg hin])
    clear hi hin h
    go_enter Try.func26, Try.ntmps26
    go_wp2_with (first | (go_at_call 39; refine HM.out.mono ?_; rintro e w1 ⟨rfl, rfl⟩) | (go_at_call 56; refine HI.out.mono ?_; rintro e w1 ⟨rfl, rfl⟩))
    go_ret
    exact ⟨ret_int HV.out.symm, rfl⟩

/-- The pages of the first k in a state. -/
def coN (m : Mo) (v : Int) (k : Nat) : Nat := if 0 ≤ v then cnt m.S v.toNat 0 k else 0
theorem coN_le (m : Mo) (v : Int) (k : Nat) : coN m v k ≤ k := by
  unfold coN
  split
  · exact cnt_le _ _ _ _
  · omega
theorem coN_hit {m : Mo} {v : Int} {k : Nat} (h : (m.S k : Int) = v) : coN m v (k + 1) = coN m v k + 1 := by
  unfold coN
  rw [if_pos (by omega), if_pos (by omega)]
  exact cnt_hit (by rw [Nat.zero_add]; omega)
theorem coN_miss {m : Mo} {v : Int} {k : Nat} (h : (m.S k : Int) ≠ v) : coN m v (k + 1) = coN m v k := by
  unfold coN
  split
  · exact cnt_miss (by rw [Nat.zero_add]; omega)
  · rfl
theorem coV_eq (m : Mo) (v : Int) : coV m v = (coN m v (16 * m.h) : Nat) := by
  unfold coV coN
  split <;> rfl

set_option maxHeartbeats 800000 in
theorem Count_any {O : Nat → Prop} {B : Nat} {m : Mo} {w : World} (v : Int) (h : Tk w O B m) :
    Calls Try.prog 27 #[.pointer (some ⟨B, 0, none⟩), .int .i64 v] w fun e w' => e = .returned (.int .i64 (coV m v)) ∧ w = w' := by
  have HM := Lib.hid (made_any h)
  have h2 := h.wf.h2
  obtain ⟨A, cap, h⟩ := h
  have c0 := h.c0
  have HS := Lib.hid h
  have HCE := Lib.hid (coV_eq m v)
  obtain ⟨n, hn⟩ : ∃ n, n = 16 * m.h := ⟨_, rfl⟩
  rw [← hn] at c0 HCE
  have hn2 : n ≤ 1024 := by omega
  have HN := Lib.hid hn
  clear hn h h2
  go_enter Try.func27, Try.ntmps27
  go_wp2_with (go_at_call 39; refine HM.out.mono ?_; rintro e w1 ⟨rfl, rfl⟩)
  go_loop [5, 16] (fun c i => ∃ k : Nat, k ≤ n ∧ i = .int .i64 k ∧ c = .int .i64 (coN m v k)) (fun _ i => n - (intOf i).toNat)
  case atStart => exact ⟨0, by omega, rfl, by unfold coN; split <;> rfl⟩
  case round =>
    obtain ⟨k, hk, rfl, rfl⟩ := hrel
    by_cases hlt : k < n
    · have g := HS.out.at (i := k) (by have := HN.out; omega)
      have hs3 := HS.out.wf.s3 k
      have hc := coN_le m v k
      by_cases he : (m.S k : Int) = v
      · have HC := Lib.hid (coN_hit he)
        have q : (((m.S k : Nat) : Int) == v) = true := by simp [he]
        clear he
        generalize m.S k = x at g q hs3
        generalize coN m v k = C at *
        go_wp2
        go_round
        case rel => exact ⟨k + 1, by omega, by go_num, by rw [HC.out]; go_num⟩
        case measure => simp [intOf]; omega
      · have HC := Lib.hid (coN_miss he)
        have q : (((m.S k : Nat) : Int) == v) = false := by simp only [beq_eq_false_iff_ne]; exact he
        clear he
        generalize m.S k = x at g q hs3
        generalize coN m v k = C at *
        go_wp2
        go_round
        case rel => exact ⟨k + 1, by omega, by go_num, by rw [HC.out]⟩
        case measure => simp [intOf]; omega
    · go_wp2
      go_ret
      obtain rfl : k = n := by omega
      exact ⟨ret_int HCE.out.symm, rfl⟩

theorem kinds_len (S : Nat → Nat) (f : Nat) : ∀ n, (kinds S f n).length ≤ n
  | 0 => Nat.le_refl _
  | n + 1 => by
    have := kinds_len S f n
    unfold kinds
    rw [List.length_append]
    split <;> simp <;> omega
theorem kinds_hit {S : Nat → Nat} {f n : Nat} (h : kdS S n = f) : kinds S f (n + 1) = kinds S f n ++ [n] := by
  show kinds S f n ++ (if kdS S n = f then [n] else []) = _
  rw [if_pos h]
theorem kinds_miss {S : Nat → Nat} {f n : Nat} (h : kdS S n ≠ f) : kinds S f (n + 1) = kinds S f n := by
  show kinds S f n ++ (if kdS S n = f then [n] else []) = _
  rw [if_neg h, List.append_nil]

set_option maxRecDepth 100000 in
set_option maxHeartbeats 1000000 in
theorem list_any {O : Nat → Prop} {B : Nat} {m : Mo} {w : World} (f : Nat) (h : Tk w O B m) :
    Calls Try.prog 55 #[.pointer (some ⟨B, 0, none⟩), .int .i64 f] w (NatsPost w (kinds m.S f m.h)) := by
  have HM := Lib.hid (made_any h)
  have HH := Lib.hid (huges_any h)
  have h2 := h.wf.h2
  have HK := Lib.hid (fun (w' : World) (hb : Below w.heap.size w w') (k : Nat) hk => kindOf_any k (h.below hb) hk)
  obtain ⟨i0, hi, hz0, hz1, hz2⟩ := info_parts Try.info3
  have HI := Lib.hid (And.intro hi (And.intro hz0 (And.intro hz1 hz2)))
  clear h hi hz0 hz1 hz2
  obtain ⟨n, hn⟩ : ∃ n, n = m.h := ⟨_, rfl⟩
  rw [← hn] at h2 HH HK ⊢
  clear hn
  go_enter Try.func55, Try.ntmps55
  go_wp2_with (first | (go_at_call 39; refine HM.out.mono ?_; rintro e w1 ⟨rfl, rfl⟩) | (go_at_call 70; refine HH.out.mono ?_; rintro e w1 ⟨rfl, rfl⟩))
  go_loopw [5, 12] (fun v i wr => ∃ k : Nat, k ≤ n ∧ i = .int .i64 k ∧ wr.ownsRow w.heap.size 3 1 v (kinds m.S f k).length (natC (kinds m.S f k)) ∧ Below w.heap.size w wr) (fun _ i _ => n - (intOf i).toNat)
  case atStart => exact ⟨0, by omega, rfl, ⟨rfl, .inl ⟨rfl, rfl⟩⟩, Below.refl _ _⟩
  case round =>
    obtain ⟨k, hk, rfl, ho, hb⟩ := hrel
    have hlen := kinds_len m.S f k
    have HO := Lib.hid ho
    have HB := Lib.hid hb
    obtain ⟨Ax, cx, rfl⟩ := owns_form ho
    by_cases hlt : k < n
    · have HKK := Lib.hid (HK.out wr hb k hlt)
      clear ho hb
      by_cases he : kdS m.S k = f
      · have HS := Lib.hid (kinds_hit he)
        have q : (((kdS m.S k : Nat) : Int) == (f : Int)) = true := nbt he
        clear he
        generalize kdS m.S k = x at HKK q
        generalize hL : kinds m.S f k = L at *
        have HL := Lib.hid hL
        clear hL
        obtain ⟨hi, hz0, hz1, hz2⟩ := HI.out
        go_wp2_with fail
        refine HKK.out.mono ?_
        rintro e w1 ⟨rfl, rfl⟩
        go_wp2_with (at_builtin; go_loud (refine wpList_append_own _ rfl _ _ 47 rfl w.heap.size 3 i0 (.int .i64 0) 1 8 Try.underlying47 hi hz0 hz1 hz2 rfl (by decide) _ _ _ rfl (HO.out.alloc _) ⟨wr.heap.size, 0, none⟩ 1 1 [.int .i64 k] rfl rfl (cells1_new wr _ _) (by simp [Value.oneCell']) (by unfold maxLen; omega) (by omega) (by have := HB.out.size; simp; omega) ?_); intro v' w5 hown' hgrow _; have hB5 : Below w.heap.size w w5 := (HB.out.alloc HB.out.size _).grown hgrow (by have := HB.out.size; simp; omega) (fun k e => (HO.out.lt k e).1); have HO5 := Lib.hid hown'; have HB5 := Lib.hid hB5; clear hown' hgrow hB5)
        go_roundw
        case rel => exact ⟨k + 1, by omega, by go_num, by rw [HS.out, natC_app, List.length_append]; exact HO5.out, HB5.out⟩
        case measure => simp [intOf]; omega
      · have HS := Lib.hid (kinds_miss he)
        have q : (((kdS m.S k : Nat) : Int) == (f : Int)) = false := nbf he
        clear he
        generalize kdS m.S k = x at HKK q
        go_wp2_with (go_at_call 71; refine HKK.out.mono ?_; rintro e w1 ⟨rfl, rfl⟩)
        go_roundw
        case rel => exact ⟨k + 1, by omega, by go_num, by rw [HS.out]; exact HO.out, HB.out⟩
        case measure => simp [intOf]; omega
    · go_wp2
      go_ret
      obtain rfl : k = n := by omega
      obtain ⟨A, c, he, hn⟩ := nats_of_owns HO.out
      exact ⟨A, c, congrArg Ending.returned he, hn, HB.out⟩

section
variable {O : Nat → Prop} {B : Nat} {m : Mo} {w : World}
theorem Idle_any (h : Tk w O B m) : Calls Try.prog 23 #[.pointer (some ⟨B, 0, none⟩)] w (NatsPost w (kinds m.S 1 m.h)) := by
  have HC := Lib.hid (list_any 1 h)
  clear h
  go_enter Try.func23, Try.ntmps23
  go_wp2_with fail
  refine HC.out.mono ?_
  rintro e w1 ⟨A, c, rfl, hn, hb⟩
  have HN := Lib.hid hn
  clear hn
  go_wp2
  go_ret
  exact ⟨A, c, rfl, HN.out, hb⟩
theorem Broken_any (h : Tk w O B m) : Calls Try.prog 24 #[.pointer (some ⟨B, 0, none⟩)] w (NatsPost w (kinds m.S 2 m.h)) := by
  have HC := Lib.hid (list_any 2 h)
  clear h
  go_enter Try.func24, Try.ntmps24
  go_wp2_with fail
  refine HC.out.mono ?_
  rintro e w1 ⟨A, c, rfl, hn, hb⟩
  have HN := Lib.hid hn
  clear hn
  go_wp2
  go_ret
  exact ⟨A, c, rfl, HN.out, hb⟩
theorem Whole_any (h : Tk w O B m) : Calls Try.prog 25 #[.pointer (some ⟨B, 0, none⟩)] w (NatsPost w (kinds m.S 3 m.h)) := by
  have HC := Lib.hid (list_any 3 h)
  clear h
  go_enter Try.func25, Try.ntmps25
  go_wp2_with fail
  refine HC.out.mono ?_
  rintro e w1 ⟨A, c, rfl, hn, hb⟩
  have HN := Lib.hid hn
  clear hn
  go_wp2
  go_ret
  exact ⟨A, c, rfl, HN.out, hb⟩
end

end Go.Proofs.Ytecfjibmpbgllaa
