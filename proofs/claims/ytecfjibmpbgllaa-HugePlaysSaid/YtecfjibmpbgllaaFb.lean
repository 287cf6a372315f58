/- The statements' helpers: made, alike, has, total; two lists that are the same. -/
import Derived.Test.YtecfjibmpbgllaaFa
import Derived.Laws.StructEq
namespace Go.Proofs.Ytecfjibmpbgllaa
open Go.RowKit

/-- The slice's cells hold the calls, in blocks below N. -/
def ActsAt (w : World) (N : Nat) (A : Option Addr) (l : List Ac) : Prop :=
  ∀ (k : Nat) (x : Ac), l[k]? = some x → AcR x ∧ ∃ b o : Nat, A = some ⟨b, o, none⟩ ∧ b < N ∧ w.cell? ⟨b, o + k * 3, none⟩ = some (.int .i64 x.k) ∧ w.cell? ⟨b, o + k * 3 + 1, none⟩ = some (.int .i64 x.a) ∧ w.cell? ⟨b, o + k * 3 + 2, none⟩ = some (.int .i64 x.b)
theorem ActsAt.below {w w' : World} {N : Nat} {A : Option Addr} {l : List Ac} (h : ActsAt w N A l) (hb : Below N w w') : ActsAt w' N A l := fun k x hk => by
  obtain ⟨hr, b, o, e, hB, h1, h2, h3⟩ := h k x hk
  exact ⟨hr, b, o, e, hB, (hb.cell (p := ⟨b, _, none⟩) hB).trans h1, (hb.cell (p := ⟨b, _, none⟩) hB).trans h2, (hb.cell (p := ⟨b, _, none⟩) hB).trans h3⟩
theorem ActsAt.more {w : World} {N N' : Nat} {A : Option Addr} {l : List Ac} (h : ActsAt w N A l) (hN : N ≤ N') : ActsAt w N' A l := fun k x hk => by
  obtain ⟨hr, b, o, e, hB, hh⟩ := h k x hk
  exact ⟨hr, b, o, e, Nat.lt_of_lt_of_le hB hN, hh⟩

def runM (m : Mo) (l : List Ac) : Mo := l.foldl doM m
theorem runM_wf {m : Mo} (h : WF m) (l : List Ac) : WF (runM m l) := by
  induction l generalizing m with
  | nil => exact h
  | cons x l ih => exact ih (doM_wf h x)
theorem take_snoc {l : List Ac} {k : Nat} {x : Ac} (h : l[k]? = some x) : l.take (k + 1) = l.take k ++ [x] := by
  rw [List.take_add_one, h]; rfl
theorem runM_take {m : Mo} {l : List Ac} {k : Nat} {x : Ac} (h : l[k]? = some x) : runM m (l.take (k + 1)) = doM (runM m (l.take k)) x := by
  unfold runM
  rw [take_snoc h, List.foldl_append]; rfl
theorem doM_h (m : Mo) (x : Ac) : (doM m x).h = m.h := by
  unfold doM turnD chD
  repeat' split
  all_goals rfl
theorem runM_h (m : Mo) (l : List Ac) : (runM m l).h = m.h := by
  induction l generalizing m with
  | nil => rfl
  | cons x l ih => exact (ih (doM m x)).trans (doM_h m x)

/-- Behind what changes a tracker that was made since w, all that lay before is as it was. -/
theorem Mut.bel {w W W' : World} {O : Nat → Prop} {B : Nat} {m : Mo} (h : Mut W O B m W') (hb : Below w.heap.size w W) (hO : ∀ k, O k → w.heap.size ≤ k) : Below w.heap.size w W' := hb.trans (h.2.below hb.size hO)

set_option maxRecDepth 100000 in
set_option maxHeartbeats 1000000 in
theorem made'_any (p : Int) (A : Option Addr) (c n : Nat) (l : List Ac) (w : World) (hp : p % 8 + 1 = n) (hp0 : 0 ≤ p) (hp1 : p ≤ 255) (hl : l.length ≤ 9223372036854775807) (hA : ActsAt w w.heap.size A l) :
    Calls Try.prog 21 #[.int .u8 p, .slice A l.length c] w fun e w' => ∃ B, e = .returned (.pointer (some ⟨B, 0, none⟩)) ∧ Below w.heap.size w w' ∧ Tk w' (Nw w w') B (runM (newM n) l) := by
  have hn1 : 1 ≤ n := by omega
  have hn2 : n ≤ 8 := by omega
  have hq : (p % 8 + 1) * 16 = ((16 * n : Nat) : Int) := by omega
  have hN := New_any n w hn1 (by omega)
  rw [← hq] at hN
  have HN := Lib.hid hN
  obtain ⟨L, hL⟩ : ∃ L, L = l.length := ⟨_, rfl⟩
  have HL := Lib.hid hL
  rw [← hL] at hl ⊢
  have HA := Lib.hid hA
  clear hA hL hN hq hp
  go_enter Try.func21, Try.ntmps21
  go_wp2_with (go_at_call 14; refine HN.out.mono ?_; rintro e w1 ⟨B, rfl, hb1, hs1⟩)
  have HB1 := Lib.hid hb1
  have HS1 := Lib.hid hs1
  clear hb1 hs1
  go_loopw [7] (fun i wr => ∃ k : Nat, k ≤ L ∧ i = .int .i64 k ∧ Mut w1 (Nw w w1) B (runM (newM n) (l.take k)) wr) (fun i _ => L - (intOf i).toNat)
  case atStart => exact ⟨0, by omega, rfl, Mut.same HS1.out (Below.refl _ _)⟩
  case round =>
    obtain ⟨k, hk, rfl, hM⟩ := hrel
    have HM := Lib.hid hM
    have hbl := hM.bel HB1.out (fun k hk => hk.1)
    by_cases hlt : k < L
    · obtain ⟨x, hx⟩ : ∃ x, l[k]? = some x := ⟨_, List.getElem?_eq_getElem (by have := HL.out; omega)⟩
      obtain ⟨hr, b, o, rfl, hB, g1, g2, g3⟩ := (HA.out.below hbl) k x hx
      have HD := Lib.hid (do_at x hM.1 hr)
      have HX := Lib.hid (runM_take (m := newM n) hx)
      clear hM hx hr hbl
      go_wp2_with (go_at_call 34; refine HD.out.mono ?_; rintro e w2 ⟨rfl, hM2⟩; have HM2 := Lib.hid hM2; clear hM2)
      go_roundw
      case rel => exact ⟨k + 1, by omega, by go_num, by rw [HX.out]; exact HM.out.trans HM2.out⟩
      case measure => simp [intOf]; omega
    · have hkL : k = l.length := by have := HL.out; omega
      have HKL := Lib.hid hkL
      have HBL := Lib.hid hbl
      clear hM hkL hbl
      go_wp2
      go_ret
      refine ⟨B, rfl, HBL.out, ?_⟩
      have h1 := HM.out.1
      rw [HKL.out, List.take_length] at h1
      refine h1.mono (fun k hk => ?_) (fun k hk => hk.2)
      have := HM.out.2.size
      have := HB1.out.size
      rcases hk with hk | hk
      · exact ⟨hk.1, Nat.lt_of_lt_of_le hk.2 (by omega)⟩
      · exact ⟨by omega, hk.2⟩

/-- Whether the pages of two trackers are in the same states. -/
def alB (m1 m2 : Mo) : Bool := decide (∀ p : Nat, p < 129 → stV m1 p = stV m2 p)
theorem alB_self (m : Mo) : alB m m = true := decide_eq_true fun _ _ => rfl

set_option maxRecDepth 100000 in
set_option maxHeartbeats 1000000 in
theorem alike_any {O1 O2 : Nat → Prop} {B1 B2 : Nat} {m1 m2 : Mo} {w : World} (h1 : Tk w O1 B1 m1) (h2 : Tk w O2 B2 m2) :
    Calls Try.prog 30 #[.pointer (some ⟨B1, 0, none⟩), .pointer (some ⟨B2, 0, none⟩)] w fun e w' => e = .returned (.bool (alB m1 m2)) ∧ w = w' := by
  have HS1 := Lib.hid (fun p hp => State_any (p : Int) h1 hp)
  have HS2 := Lib.hid (fun p hp => State_any (p : Int) h2 hp)
  clear h1 h2
  go_enter Try.func30, Try.ntmps30
  go_wp2
  go_loopw [5] (fun i wr => ∃ k : Nat, k ≤ 129 ∧ i = .int .i64 k ∧ w = wr ∧ ∀ p : Nat, p < k → stV m1 p = stV m2 p) (fun i _ => 129 - (intOf i).toNat)
  case atStart => exact ⟨0, by omega, rfl, rfl, fun p hp => by omega⟩
  case round =>
    obtain ⟨k, hk, rfl, rfl, hall⟩ := hrel
    have HAL := Lib.hid hall
    clear hall
    by_cases hlt : k < 129
    · have HA := Lib.hid (HS1.out k ⟨by omega, by omega⟩)
      have HB := Lib.hid (HS2.out k ⟨by omega, by omega⟩)
      by_cases he : stV m1 k = stV m2 k
      · have HE := Lib.hid he
        rw [he] at HA
        generalize stV m2 k = v at HA HB
        clear he
        go_wp2_with fail
        refine HA.out.mono ?_
        rintro e _ ⟨rfl, rfl⟩
        go_wp2_with fail
        refine HB.out.mono ?_
        rintro e _ ⟨rfl, rfl⟩
        go_wp2_with fail
        go_roundw
        case rel => exact ⟨k + 1, by omega, by go_num, trivial, fun p hp => by rcases Nat.lt_or_ge p k with h | h; exact HAL.out p h; rw [show p = k from by omega]; exact HE.out⟩
        case measure => simp [intOf]; omega
      · have HF := Lib.hid (show alB m1 m2 = false from decide_eq_false fun hh => he (hh k hlt))
        generalize stV m1 k = u at HA he
        generalize stV m2 k = v at HB he
        have q : (u != v) = true := by simpa using he
        have q2 : (u == v) = false := by simpa using he
        clear he
        go_wp2_with fail
        refine HA.out.mono ?_
        rintro e _ ⟨rfl, rfl⟩
        go_wp2_with fail
        refine HB.out.mono ?_
        rintro e _ ⟨rfl, rfl⟩
        go_wp2_with fail
        go_ret
        exact ⟨ret_bool HF.out.symm, rfl⟩
    · have HF := Lib.hid (show alB m1 m2 = true from decide_eq_true fun p hp => HAL.out p (by omega))
      go_wp2_with fail
      go_ret
      exact ⟨ret_bool HF.out.symm, rfl⟩

/-- Whether a number is in a list. -/
def hasL (l : List Nat) (n : Int) : Bool := decide (0 ≤ n ∧ n.toNat ∈ l)

set_option maxRecDepth 100000 in
set_option maxHeartbeats 1000000 in
theorem hasL_any {N : Nat} {A : Option Addr} {l : List Nat} {w : World} (c : Nat) (n : Int) (hl : l.length ≤ 1024) (h : NatsAt w N A l) :
    Calls Try.prog 22 #[.slice A l.length c, .int .i64 n] w fun e w' => e = .returned (.bool (hasL l n)) ∧ w = w' := by
  have HN := Lib.hid h
  obtain ⟨L, hL⟩ : ∃ L, L = l.length := ⟨_, rfl⟩
  have HL := Lib.hid hL
  rw [← hL] at hl ⊢
  clear h hL
  go_enter Try.func22, Try.ntmps22
  go_wp2
  go_loopw [5] (fun i wr => ∃ k : Nat, k ≤ L ∧ i = .int .i64 k ∧ w = wr ∧ ∀ (j : Nat) (x : Nat), j < k → l[j]? = some x → (x : Int) ≠ n) (fun i _ => L - (intOf i).toNat)
  case atStart => exact ⟨0, by omega, rfl, rfl, fun j x hj => by omega⟩
  case round =>
    obtain ⟨k, hk, rfl, rfl, hno⟩ := hrel
    have HNO := Lib.hid hno
    clear hno
    by_cases hlt : k < L
    · obtain ⟨x, hx⟩ : ∃ x, l[k]? = some x := ⟨_, List.getElem?_eq_getElem (by have := HL.out; omega)⟩
      obtain ⟨g, rfl, _, _, g1⟩ := HN.out k x hx
      have HX := Lib.hid hx
      clear hx
      by_cases he : (x : Int) = n
      · have HT := Lib.hid (show hasL l n = true from decide_eq_true ⟨by omega, by rw [← he, Int.toNat_natCast]; exact List.mem_of_getElem? HX.out⟩)
        have q : ((x : Int) == n) = true := by simpa using he
        clear he
        go_wp2_with fail
        go_ret
        exact ⟨ret_bool HT.out.symm, rfl⟩
      · have HE := Lib.hid he
        have q : ((x : Int) == n) = false := by simpa using he
        clear he
        go_wp2_with fail
        go_roundw
        case rel => exact ⟨k + 1, by omega, by go_num, trivial, fun j y hj hy => by
          rcases Nat.lt_or_ge j k with h | h
          · exact HNO.out j y h hy
          · obtain rfl : j = k := by omega
            rw [HX.out] at hy
            cases hy
            exact HE.out⟩
        case measure => simp [intOf]; omega
    · have HT := Lib.hid (show hasL l n = false from decide_eq_false fun ⟨h0, hm⟩ => by
        obtain ⟨j, hj⟩ := List.getElem?_of_mem hm
        have := (List.getElem?_eq_some_iff.1 hj).1
        exact HNO.out j _ (by have := HL.out; omega) hj (by omega))
      go_wp2_with fail
      go_ret
      exact ⟨ret_bool HT.out.symm, rfl⟩

theorem sumR_take {l : List (Nat × Nat)} {k a b : Nat} (h : l[k]? = some (a, b)) : sumR (l.take (k + 1)) = sumR (l.take k) + b := by
  rw [List.take_add_one, h, sumR_app]; rfl
theorem sumR_take_le (l : List (Nat × Nat)) (k : Nat) : sumR (l.take k) ≤ sumR l := by
  have := sumR_app (l.take k) (l.drop k)
  rw [List.take_append_drop] at this
  omega

set_option maxRecDepth 100000 in
set_option maxHeartbeats 1000000 in
theorem total_any {N : Nat} {A : Option Addr} {l : List (Nat × Nat)} {w : World} (c : Nat) (hl : l.length ≤ 1024) (hs : sumR l ≤ 100000) (h : RunsAt w N A l) :
    Calls Try.prog 29 #[.slice A l.length c] w fun e w' => e = .returned (.int .i64 (sumR l)) ∧ w = w' := by
  have HN := Lib.hid h
  have HSL := Lib.hid (fun k => sumR_take_le l k)
  have HTK := Lib.hid (show sumR (l.take l.length) = sumR l by rw [List.take_length])
  obtain ⟨L, hL⟩ : ∃ L, L = l.length := ⟨_, rfl⟩
  have HL := Lib.hid hL
  rw [← hL] at hl HTK ⊢
  clear h hL
  go_enter Try.func29, Try.ntmps29
  go_wp2
  go_loopw [3, 4] (fun v i wr => ∃ k : Nat, k ≤ L ∧ i = .int .i64 k ∧ w = wr ∧ v = .int .i64 (sumR (l.take k))) (fun _ i _ => L - (intOf i).toNat)
  case atStart => exact ⟨0, by omega, rfl, rfl, rfl⟩
  case round =>
    obtain ⟨k, hk, rfl, rfl, rfl⟩ := hrel
    by_cases hlt : k < L
    · obtain ⟨⟨a, b⟩, hx⟩ : ∃ x, l[k]? = some x := ⟨_, List.getElem?_eq_getElem (by have := HL.out; omega)⟩
      obtain ⟨g, rfl, _, _, g1, g2⟩ := HN.out k a b hx
      have h1 := sumR_take hx
      have h2 := HSL.out (k + 1)
      have HT := Lib.hid h1
      rw [h1] at h2
      clear hx h1
      generalize sumR (l.take k) = s at h2 HT
      go_wp2_with fail
      go_roundw
      case rel => exact ⟨k + 1, by omega, by go_num, trivial, by rw [HT.out]; go_num⟩
      case measure => simp [intOf]; omega
    · obtain rfl : k = L := by omega
      go_wp2_with fail
      go_ret
      exact ⟨ret_int (by rw [HTK.out]), rfl⟩

theorem neq_run (a b : Int) (w : World) : (binOp .neq 55 (.agg #[.int .i64 a, .int .i64 b]) (.agg #[.int .i64 a, .int .i64 b])).run Try.prog w = .ok (.bool false) w := by
  have u3 := Try.underlying3
  have hS : Try.prog.underlying 55 = some (.struct (Try.prog.fieldsOf 55)) := by kernel_rfl
  have hp : Try.prog.stoodInHeld 55 = false := by kernel_rfl
  rw [run_neq_struct, show (10000 : Nat) = 9999 + 1 from rfl, run_equalIn_agg w 9999 55 _ _ hS hp]
  simp only [Program.fieldsOf, Try.underlying55]
  go_simp

set_option maxRecDepth 100000 in
set_option maxHeartbeats 1000000 in
theorem RunsEq_any (A A' : Option Addr) (c c' N N' : Nat) (l : List (Nat × Nat)) (w : World) (hl : l.length ≤ 2048) (hT : RunsAt w N A l) (hT' : RunsAt w N' A' l) :
    Calls Try.prog 37 #[.slice A l.length c, .slice A' l.length c'] w fun e w' => e = .returned (.bool true) ∧ Below w.heap.size w w' := by
  obtain ⟨n, hn⟩ : ∃ n : Nat, n = l.length := ⟨_, rfl⟩
  have HN := Lib.hid hn
  have HT := Lib.hid hT
  have HT' := Lib.hid hT'
  have hneq := neq_run
  rw [← hn] at hl ⊢
  clear hn hT hT'
  go_enter Try.func37, Try.ntmps37
  go_wp2
  go_loopw [5] (fun i wr => ∃ k : Nat, k ≤ n ∧ i = .int .i64 k ∧ Below w.heap.size w wr) (fun i _ => n - (intOf i).toNat)
  case atStart => exact ⟨0, by omega, rfl, Below.refl _ _⟩
  case round =>
    obtain ⟨k, hk, rfl, hB⟩ := hrel
    by_cases hlt : k < n
    · have l0 : k < l.length := by have := HN.out; omega
      obtain ⟨⟨a, b⟩, hc⟩ : ∃ c, l[k]? = some c := ⟨_, List.getElem?_eq_getElem l0⟩
      obtain ⟨g, rfl, _, _, g1, g2⟩ := (HT.out.below hB) k a b hc
      obtain ⟨g', rfl, _, _, f1, f2⟩ := (HT'.out.below hB) k a b hc
      clear hc
      go_wp2_with fail
      go_quiet (fail)
      go_wp2_with fail
      go_roundw
      case rel => exact ⟨k + 1, by omega, by go_num, belowN hB _⟩
      case measure => simp [intOf]; omega
    · go_wp2_with fail
      go_ret
      exact ⟨rfl, hB⟩

set_option maxRecDepth 100000 in
set_option maxHeartbeats 1000000 in
theorem IntsEq_any (A A' : Option Addr) (c c' N N' : Nat) (l : List Nat) (w : World) (hl : l.length ≤ 2048) (hT : NatsAt w N A l) (hT' : NatsAt w N' A' l) :
    Calls Try.prog 36 #[.slice A l.length c, .slice A' l.length c'] w fun e w' => e = .returned (.bool true) ∧ Below w.heap.size w w' := by
  obtain ⟨n, hn⟩ : ∃ n : Nat, n = l.length := ⟨_, rfl⟩
  have HN := Lib.hid hn
  have HT := Lib.hid hT
  have HT' := Lib.hid hT'
  rw [← hn] at hl ⊢
  clear hn hT hT'
  go_enter Try.func36, Try.ntmps36
  go_wp2
  go_loopw [5] (fun i wr => ∃ k : Nat, k ≤ n ∧ i = .int .i64 k ∧ Below w.heap.size w wr) (fun i _ => n - (intOf i).toNat)
  case atStart => exact ⟨0, by omega, rfl, Below.refl _ _⟩
  case round =>
    obtain ⟨k, hk, rfl, hB⟩ := hrel
    by_cases hlt : k < n
    · have l0 : k < l.length := by have := HN.out; omega
      obtain ⟨x, hc⟩ : ∃ c, l[k]? = some c := ⟨_, List.getElem?_eq_getElem l0⟩
      obtain ⟨g, rfl, _, _, g1⟩ := (HT.out.below hB) k x hc
      obtain ⟨g', rfl, _, _, f1⟩ := (HT'.out.below hB) k x hc
      clear hc
      go_wp2_with fail
      go_quiet (fail)
      go_wp2_with fail
      go_roundw
      case rel => exact ⟨k + 1, by omega, by go_num, belowN hB _⟩
      case measure => simp [intOf]; omega
    · go_wp2_with fail
      go_ret
      exact ⟨rfl, hB⟩

end Go.Proofs.Ytecfjibmpbgllaa
