/- Package huge: Add, Remove, Use, Unuse, Release, New, Clone. -/
import Derived.Test.YtecfjibmpbgllaaLc
namespace Go.Proofs.Ytecfjibmpbgllaa
open Go.RowKit

/-- A tracker whose pages were set. -/
theorem TkA.setting {w w' : World} {O : Nat → Prop} {B A cap : Nat} {m m' : Mo} (h : TkA w O B A cap m) (hh : m'.h = m.h) (hwf : WF m') (hC : Cl w' A (16 * m.h) (fun i => .int .u8 (m'.S i))) (hK : Keep (fun k => k = A) w w') : Mut w O B m' w' := by
  have hKO : Keep O w w' := hK.mono fun k _ e => by subst e; exact h.oa
  have hB : w'.heap[B]? = w.heap[B]? := hK.block B (h.lt _ h.ob) (fun e => h.ab e.symm)
  refine ⟨⟨A, cap, hwf, ?_, by rw [hh]; exact hC, .inl h.ob, .inl h.oa, Ext.lt h.lt hK.size, h.ab, by rw [hh]; exact h.cp⟩, hKO⟩
  rw [hh]
  exact h.b.of_block hB

set_option maxRecDepth 100000 in
set_option maxHeartbeats 1000000 in
theorem turn_any {O : Nat → Prop} {B : Nat} {m : Mo} {w : World} (g : Int) (f v : Nat) (h : Tk w O B m) (hv : v ≤ 3) :
    Calls Try.prog 62 #[.pointer (some ⟨B, 0, none⟩), .int .i64 g, .int .i64 f, .int .u8 v] w fun e w' => e = .returned (.int .i64 (turnE m g f)) ∧ Mut w O B (turnD m g f v) w' := by
  have HM := Lib.hid (made_any h)
  have hi := has_any g h
  have HT := Lib.hid h
  by_cases hin : 0 ≤ g ∧ g < m.h
  · obtain ⟨q, rfl⟩ : ∃ q : Nat, g = q := ⟨g.toNat, by omega⟩
    have hq : q < m.h := by omega
    rw [show hasM m q = true from decide_eq_true hin] at hi
    have HI := Lib.hid hi
    have HK := Lib.hid (kindOf_any q h hq)
    have hE : turnE m q f = if kdS m.S q = f then 0 else 5 := by unfold turnE; rw [if_pos hin]; simp
    by_cases hk : kdS m.S q = f
    · have hE0 : turnE m q f = 0 := by rw [hE, if_pos hk]
      have HE := Lib.hid hE0
      have hD : turnD m q f v = ⟨m.h, setR m.S (16 * q) 16 v⟩ := by unfold turnD; rw [if_pos hE0]; simp
      have HD := Lib.hid hD
      have HWF := Lib.hid (turnD_wf h.wf q f v hv)
      have b : (((kdS m.S q : Nat) : Int) != (f : Int)) = false := by rw [bne, nbt hk]; rfl
      obtain ⟨A, cap, hA⟩ := h
      have HA := Lib.hid hA
      have HO := Lib.hid (of_any q hA hq)
      have HS := Lib.hid (setAll_any A (16 * q) 16 (cap - 16 * q) (16 * m.h) v m.S w (by omega) (by have := hA.wf.h2; omega) hA.a)
      clear hk hE hE0 hD hi hA hin
      generalize kdS m.S q = x at HK b
      go_enter Try.func62, Try.ntmps62
      go_wp2_with (first | (go_at_call 39; refine HM.out.mono ?_; rintro e w1 ⟨rfl, rfl⟩) | (go_at_call 56; refine HI.out.mono ?_; rintro e w1 ⟨rfl, rfl⟩) | (go_at_call 71; refine HK.out.mono ?_; rintro e w1 ⟨rfl, rfl⟩) | (go_at_call 58; refine HO.out.mono ?_; rintro e w1 ⟨rfl, rfl⟩) | (go_at_call 79; refine HS.out.mono ?_; rintro e w1 ⟨rfl, hC, hK⟩; have HC := Lib.hid hC; have HKK := Lib.hid hK; clear hC hK))
      go_ret
      refine ⟨ret_int HE.out.symm, HA.out.setting (m' := turnD m q f v) (by rw [HD.out]) HWF.out ?_ HKK.out⟩
      rw [HD.out]
      exact HC.out
    · have hE0 : turnE m q f = 5 := by rw [hE, if_neg hk]
      have HE := Lib.hid hE0
      have HD := Lib.hid (show turnD m q f v = m from by unfold turnD; rw [if_neg (by omega)])
      have b : (((kdS m.S q : Nat) : Int) != (f : Int)) = true := by rw [bne, nbf hk]; rfl
      clear hk hE hE0 hi hin h
      generalize kdS m.S q = x at HK b
      go_enter Try.func62, Try.ntmps62
      go_wp2_with (first | (go_at_call 39; refine HM.out.mono ?_; rintro e w1 ⟨rfl, rfl⟩) | (go_at_call 56; refine HI.out.mono ?_; rintro e w1 ⟨rfl, rfl⟩) | (go_at_call 71; refine HK.out.mono ?_; rintro e w1 ⟨rfl, rfl⟩))
      go_ret
      exact ⟨ret_int HE.out.symm, by rw [HD.out]; exact Mut.same HT.out (Below.refl _ _)⟩
  · rw [show hasM m g = false from decide_eq_false hin] at hi
    have HI := Lib.hid hi
    have hE0 : turnE m g f = 1 := by unfold turnE; rw [if_neg hin]
    have HE := Lib.hid hE0
    have HD := Lib.hid (show turnD m g f v = m from by unfold turnD; rw [if_neg (by omega)])
    clear hi hin h hE0
    go_enter Try.func62, Try.ntmps62
    go_wp2_with (first | (go_at_call 39; refine HM.out.mono ?_; rintro e w1 ⟨rfl, rfl⟩) | (go_at_call 56; refine HI.out.mono ?_; rintro e w1 ⟨rfl, rfl⟩))
    go_ret
    exact ⟨ret_int HE.out.symm, by rw [HD.out]; exact Mut.same HT.out (Below.refl _ _)⟩

section
variable {O : Nat → Prop} {B : Nat} {m : Mo} {w : World}
theorem Add_any (g : Int) (h : Tk w O B m) : Calls Try.prog 35 #[.pointer (some ⟨B, 0, none⟩), .int .i64 g] w fun e w' => e = .returned (.int .i64 (turnE m g 0)) ∧ Mut w O B (turnD m g 0 3) w' := by
  have HC := Lib.hid (turn_any g 0 3 h (by omega))
  clear h
  go_enter Try.func35, Try.ntmps35
  go_wp2_with fail
  refine HC.out.mono ?_
  rintro e w1 ⟨rfl, hM⟩
  have HM := Lib.hid hM
  clear hM
  go_wp2
  go_ret
  exact ⟨rfl, HM.out⟩
theorem Remove_any (g : Int) (h : Tk w O B m) : Calls Try.prog 38 #[.pointer (some ⟨B, 0, none⟩), .int .i64 g] w fun e w' => e = .returned (.int .i64 (turnE m g 1)) ∧ Mut w O B (turnD m g 1 0) w' := by
  have HC := Lib.hid (turn_any g 1 0 h (by omega))
  clear h
  go_enter Try.func38, Try.ntmps38
  go_wp2_with fail
  refine HC.out.mono ?_
  rintro e w1 ⟨rfl, hM⟩
  have HM := Lib.hid hM
  clear hM
  go_wp2
  go_ret
  exact ⟨rfl, HM.out⟩
end

set_option maxRecDepth 100000 in
set_option maxHeartbeats 1000000 in
theorem change_any {O : Nat → Prop} {B : Nat} {m : Mo} {w : World} (s k : Int) (v X L c : Nat) (f : Nat → Nat) (P : Nat → Bool) (h : Tk w O B m) (hs : InR s) (hv : v ≤ 3) (hv0 : v ≠ 0) (hP0 : P 0 = false) (hL : L ≤ 1024)
    (hP : ∀ x, P x = decide (∃ j : Nat, j < L ∧ f j = x)) (hX : ∀ j, j < L → w.cell? ⟨X, j, none⟩ = some (.int .u8 (f j))) :
    Calls Try.prog 61 #[.pointer (some ⟨B, 0, none⟩), .int .i64 s, .int .i64 k, .int .u8 v, .slice (some ⟨X, 0, none⟩) L c] w fun e w' => e = .returned (.int .i64 (chE m s k P)) ∧ Mut w O B (chD m s k P v) w' := by
  have HM := Lib.hid (made_any h)
  have hi := inside_any s k h hs
  have HT := Lib.hid h
  have hn2 := h.wf.h2
  by_cases hin : inM m s k = true
  · have hin' := of_decide_eq_true hin
    obtain ⟨a, rfl⟩ : ∃ a : Nat, s = a := ⟨s.toNat, by omega⟩
    obtain ⟨b, rfl⟩ : ∃ b : Nat, k = b := ⟨k.toNat, by omega⟩
    rw [hin] at hi
    have HI := Lib.hid hi
    have HCT := Lib.hid (fun x => by have := Contains_st X L c x f w hL hX; rw [← hP x] at this; exact this)
    have hE : chE m a b P = if allP m.S a b P = true then 0 else 5 := by unfold chE; rw [if_pos hin]; simp
    have HE := Lib.hid hE
    have hD : chD m a b P v = if allP m.S a b P = true then ⟨m.h, setR m.S a b v⟩ else m := by
      unfold chD
      rw [hE]
      by_cases e : allP m.S a b P = true
      · rw [if_pos e, if_pos e, if_pos rfl]; simp
      · rw [if_neg e, if_neg e, if_neg (by omega)]
    have HD := Lib.hid hD
    have HWF := Lib.hid (chD_wf h.wf a b P v hv hv0 hP0)
    obtain ⟨A, cap, hA⟩ := h
    have c0 := hA.c0
    have hcp := hA.cp
    have HA := Lib.hid hA
    have hab : a + b ≤ 16 * m.h := by omega
    have HS := Lib.hid (setAll_any A a b (cap - a) (16 * m.h) v m.S w hab (by omega) hA.a)
    have HSL := Lib.hid (hA.sl hab)
    obtain ⟨n, hn⟩ : ∃ n, n = 16 * m.h := ⟨_, rfl⟩
    rw [← hn] at c0 hcp hab
    have hn3 : n ≤ 1024 := by omega
    have u1 : IntKind.i64.wrap ((a : Int) + (b : Int)) = ((a + b : Nat) : Int) := by rw [IntWalk.i64_in _ (by omega)]; omega
    have u2 : a + b - a = b := by omega
    have u3 : a ≠ cap := by omega
    clear hin hin' hi hP hX hE hD hA hn hn2 hP0 hs
    go_enter Try.func61, Try.ntmps61
    go_wp2_with (first | (go_at_call 39; refine HM.out.mono ?_; rintro e w1 ⟨rfl, rfl⟩) | (go_at_call 54; refine HI.out.mono ?_; rintro e w1 ⟨rfl, rfl⟩))
    rw [u2]
    clear u2
    go_loop [33] (fun i => ∃ j : Nat, j ≤ b ∧ i = .int .i64 j ∧ ∀ t, t < j → P (m.S (a + t)) = true) (fun i => b - (intOf i).toNat)
    case atStart => exact ⟨0, by omega, rfl, fun t ht => by omega⟩
    case round =>
      obtain ⟨j, hj, rfl, hall⟩ := hrel
      have HAL := Lib.hid hall
      clear hall
      by_cases hlt : j < b
      · have g0 := HSL.out j hlt
        have hCT := HCT.out (m.S (a + j))
        generalize hx : m.S (a + j) = x at g0 hCT
        have HX := Lib.hid hx
        generalize hp : P x = p at hCT
        have HPX := Lib.hid hp
        have HC := Lib.hid hCT
        clear hx hp hCT
        cases p
        · have HF := Lib.hid (show allP m.S a b P = false from decide_eq_false fun hh => by have := hh j hlt; rw [HX.out, HPX.out] at this; cases this)
          go_wp2_with (go_at_call 72; refine HC.out.mono ?_; rintro e w1 ⟨rfl, rfl⟩)
          go_ret
          exact ⟨ret_int (by rw [HE.out, HF.out]; rfl), by rw [HD.out, HF.out]; exact Mut.same HT.out (Below.refl _ _)⟩
        · go_wp2_with (go_at_call 72; refine HC.out.mono ?_; rintro e w1 ⟨rfl, rfl⟩)
          go_round
          case rel => exact ⟨j + 1, by omega, by go_num, fun t ht => by rcases Nat.lt_or_ge t j with hjk | hjk; exact HAL.out t hjk; rw [show t = j from by omega, HX.out]; exact HPX.out⟩
          case measure => simp [intOf]; omega
      · have HF := Lib.hid (show allP m.S a b P = true from decide_eq_true fun t ht => HAL.out t (by omega))
        go_wp2_with (go_at_call 79; refine HS.out.mono ?_; rintro e w1 ⟨rfl, hC, hK⟩; have HC := Lib.hid hC; have HKK := Lib.hid hK; clear hC hK)
        go_ret
        have hD := HD.out
        rw [HF.out, if_pos rfl] at hD
        refine ⟨ret_int (by rw [HE.out, HF.out]; rfl), HA.out.setting (m' := chD m a b P v) (by rw [hD]) HWF.out ?_ HKK.out⟩
        rw [hD]
        exact HC.out
  · have hf : inM m s k = false := by simpa using hin
    rw [hf] at hi
    have HI := Lib.hid hi
    have hE0 : chE m s k P = 1 := by unfold chE; rw [if_neg hin]
    have HE := Lib.hid hE0
    have HD := Lib.hid (show chD m s k P v = m from by unfold chD; rw [if_neg (by omega)])
    clear hi hin h hE0 hP hX hf
    go_enter Try.func61, Try.ntmps61
    go_wp2_with (first | (go_at_call 39; refine HM.out.mono ?_; rintro e w1 ⟨rfl, rfl⟩) | (go_at_call 54; refine HI.out.mono ?_; rintro e w1 ⟨rfl, rfl⟩))
    go_ret
    exact ⟨ret_int HE.out.symm, by rw [HD.out]; exact Mut.same HT.out (Below.refl _ _)⟩

section
variable {O : Nat → Prop} {B : Nat} {m : Mo} {w : World}
set_option maxHeartbeats 1000000 in
theorem Use_any (s k : Int) (h : Tk w O B m) (hs : InR s) : Calls Try.prog 33 #[.pointer (some ⟨B, 0, none⟩), .int .i64 s, .int .i64 k] w fun e w' => e = .returned (.int .i64 (chE m s k pU)) ∧ Mut w O B (chD m s k pU 1) w' := by
  obtain ⟨W, hW⟩ : ∃ W, w.alloc (.cells #[.int .u8 2, .int .u8 3] 70) = W := ⟨_, rfl⟩
  have hb : Below w.heap.size w W := by rw [← hW]; exact bnew _ _
  have HB := Lib.hid hb
  have HC := Lib.hid (change_any s k 1 w.heap.size 2 2 (fun j => if j = 0 then 2 else 3) pU (h.below hb) hs (by omega) (by omega) rfl (by omega)
    (fun x => by
      unfold pU
      rw [decide_eq_decide]
      constructor
      · rintro (rfl | rfl)
        · exact ⟨0, by omega, rfl⟩
        · exact ⟨1, by omega, rfl⟩
      · rintro ⟨j, hj, rfl⟩
        split <;> omega)
    (fun j hj => by
      have hj' : j = 0 ∨ j = 1 := by omega
      rw [← hW]
      clear hW
      rcases hj' with rfl | rfl <;> go_simp))
  clear h hb
  go_enter Try.func33, Try.ntmps33
  go_wp2_with fail
  refine HC.out.mono ?_
  rintro e w1 ⟨rfl, hM⟩
  have HM := Lib.hid hM
  clear hM
  go_wp2
  go_ret
  exact ⟨rfl, Mut.after HB.out HM.out⟩
set_option maxHeartbeats 1000000 in
theorem Unuse_any (s k : Int) (h : Tk w O B m) (hs : InR s) : Calls Try.prog 32 #[.pointer (some ⟨B, 0, none⟩), .int .i64 s, .int .i64 k] w fun e w' => e = .returned (.int .i64 (chE m s k pN)) ∧ Mut w O B (chD m s k pN 2) w' := by
  obtain ⟨W, hW⟩ : ∃ W, w.alloc (.cells #[.int .u8 1] 70) = W := ⟨_, rfl⟩
  have hb : Below w.heap.size w W := by rw [← hW]; exact bnew _ _
  have HB := Lib.hid hb
  have HC := Lib.hid (change_any s k 2 w.heap.size 1 1 (fun _ => 1) pN (h.below hb) hs (by omega) (by omega) rfl (by omega)
    (fun x => by
      unfold pN
      rw [decide_eq_decide]
      exact ⟨fun e => ⟨0, by omega, e.symm⟩, fun ⟨_, _, e⟩ => e.symm⟩)
    (fun j hj => by
      obtain rfl : j = 0 := by omega
      rw [← hW]
      clear hW
      go_simp))
  clear h hb
  go_enter Try.func32, Try.ntmps32
  go_wp2_with fail
  refine HC.out.mono ?_
  rintro e w1 ⟨rfl, hM⟩
  have HM := Lib.hid hM
  clear hM
  go_wp2
  go_ret
  exact ⟨rfl, Mut.after HB.out HM.out⟩
set_option maxHeartbeats 1000000 in
theorem Release_any (s k : Int) (h : Tk w O B m) (hs : InR s) : Calls Try.prog 31 #[.pointer (some ⟨B, 0, none⟩), .int .i64 s, .int .i64 k] w fun e w' => e = .returned (.int .i64 (chE m s k pR)) ∧ Mut w O B (chD m s k pR 3) w' := by
  obtain ⟨W, hW⟩ : ∃ W, w.alloc (.cells #[.int .u8 2] 70) = W := ⟨_, rfl⟩
  have hb : Below w.heap.size w W := by rw [← hW]; exact bnew _ _
  have HB := Lib.hid hb
  have HC := Lib.hid (change_any s k 3 w.heap.size 1 1 (fun _ => 2) pR (h.below hb) hs (by omega) (by omega) rfl (by omega)
    (fun x => by
      unfold pR
      rw [decide_eq_decide]
      exact ⟨fun e => ⟨0, by omega, e.symm⟩, fun ⟨_, _, e⟩ => e.symm⟩)
    (fun j hj => by
      obtain rfl : j = 0 := by omega
      rw [← hW]
      clear hW
      go_simp))
  clear h hb
  go_enter Try.func31, Try.ntmps31
  go_wp2_with fail
  refine HC.out.mono ?_
  rintro e w1 ⟨rfl, hM⟩
  have HM := Lib.hid hM
  clear hM
  go_wp2
  go_ret
  exact ⟨rfl, Mut.after HB.out HM.out⟩
end

end Go.Proofs.Ytecfjibmpbgllaa
