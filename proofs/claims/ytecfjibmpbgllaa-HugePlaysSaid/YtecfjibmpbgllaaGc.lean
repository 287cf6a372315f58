/- The reference's tracker: Add, Remove, Count, the lists of kinds. -/
import Derived.Test.YtecfjibmpbgllaaGb
namespace Go.Proofs.Ytecfjibmpbgllaa
open Go.RowKit

theorem RfA.setting {w w' : World} {O : Nat → Prop} {B A cap : Nat} {m m' : Mo} (h : RfA w O B A cap m) (hh : m'.h = m.h) (hwf : WF m') (hC : Cl w' A (16 * m.h) (fun i => .int .i64 ((m'.S i : Nat) : Int))) (hK : Keep (fun k => k = A) w w') : RMut w O B m' w' := by
  have hKO : Keep O w w' := hK.mono fun k _ e => by subst e; exact h.oa
  have hB : w'.heap[B]? = w.heap[B]? := hK.block B (h.lt _ h.ob) (fun e => h.ab e.symm)
  refine ⟨⟨A, cap, hwf, ?_, by rw [hh]; exact hC, .inl h.ob, .inl h.oa, Ext.lt h.lt hK.size, h.ab, by rw [hh]; exact h.cp⟩, hKO⟩
  rw [hh]
  exact h.b.of_block hB

set_option maxRecDepth 100000 in
set_option maxHeartbeats 1000000 in
theorem rAdd_any {O : Nat → Prop} {B : Nat} {m : Mo} {w : World} (g : Int) (h : Rf w O B m) :
    Calls Try.prog 42 #[.pointer (some ⟨B, 0, none⟩), .int .i64 g] w fun e w' => e = .returned (.int .i64 (turnE m g 0)) ∧ RMut w O B (turnD m g 0 3) w' := by
  have HM := Lib.hid (rmade_any h)
  have hi := rthere_any g h
  have HT := Lib.hid h
  by_cases hin : 0 ≤ g ∧ g < m.h
  · obtain ⟨q, rfl⟩ : ∃ q : Nat, g = q := ⟨g.toNat, by omega⟩
    have hq : q < m.h := by omega
    rw [show hasM m q = true from decide_eq_true hin] at hi
    have HI := Lib.hid hi
    have HK := Lib.hid (rKind_any q h hq)
    have hE : turnE m q 0 = if kdS m.S q = 0 then 0 else 5 := by unfold turnE; rw [if_pos hin]; simp
    by_cases hk : kdS m.S q = 0
    · have hE0 : turnE m q 0 = 0 := by rw [hE, if_pos hk]
      have HE := Lib.hid hE0
      have hD : turnD m q 0 3 = ⟨m.h, setR m.S (16 * q) 16 3⟩ := by unfold turnD; rw [if_pos hE0]; simp
      have HD := Lib.hid hD
      have HWF := Lib.hid (turnD_wf h.wf q 0 3 (by omega))
      have b : (((kdS m.S q : Nat) : Int) != 0) = false := by rw [hk]; rfl
      obtain ⟨A, cap, hA⟩ := h
      have HA := Lib.hid hA
      have hset := rset_any (16 * q) 16 3 hA (by omega)
      have e16 : ((16 * q : Nat) : Int) = (q : Int) * 16 := by omega
      rw [e16] at hset
      have HS := Lib.hid hset
      have hq64 : q < 64 := by have := hA.wf.h2; omega
      clear hk hE hE0 hD hi hA hin hset e16
      generalize kdS m.S q = x at HK b
      go_enter Try.func42, Try.ntmps42
      go_wp2_with (first | (go_at_call 41; refine HM.out.mono ?_; rintro e w1 ⟨rfl, rfl⟩) | (go_at_call 63; refine HI.out.mono ?_; rintro e w1 ⟨rfl, rfl⟩) | (go_at_call 64; refine HK.out.mono ?_; rintro e w1 ⟨rfl, rfl⟩) | (go_at_call 65; refine HS.out.mono ?_; rintro e w1 ⟨rfl, hC, hK⟩; have HC := Lib.hid hC; have HKK := Lib.hid hK; clear hC hK))
      go_ret
      refine ⟨ret_int HE.out.symm, HA.out.setting (m' := turnD m q 0 3) (by rw [HD.out]) HWF.out ?_ HKK.out⟩
      rw [HD.out]
      exact HC.out
    · have hE0 : turnE m q 0 = 5 := by rw [hE, if_neg hk]
      have HE := Lib.hid hE0
      have HD := Lib.hid (show turnD m q 0 3 = m from by unfold turnD; rw [if_neg (by omega)])
      have b : (((kdS m.S q : Nat) : Int) != 0) = true := by simp only [bne_iff_ne]; omega
      clear hk hE hE0 hi hin h
      generalize kdS m.S q = x at HK b
      go_enter Try.func42, Try.ntmps42
      go_wp2_with (first | (go_at_call 41; refine HM.out.mono ?_; rintro e w1 ⟨rfl, rfl⟩) | (go_at_call 63; refine HI.out.mono ?_; rintro e w1 ⟨rfl, rfl⟩) | (go_at_call 64; refine HK.out.mono ?_; rintro e w1 ⟨rfl, rfl⟩))
      go_ret
      exact ⟨ret_int HE.out.symm, by rw [HD.out]; exact RMut.same HT.out (Below.refl _ _)⟩
  · rw [show hasM m g = false from decide_eq_false hin] at hi
    have HI := Lib.hid hi
    have hE0 : turnE m g 0 = 1 := by unfold turnE; rw [if_neg hin]
    have HE := Lib.hid hE0
    have HD := Lib.hid (show turnD m g 0 3 = m from by unfold turnD; rw [if_neg (by omega)])
    clear hi hin h hE0
    go_enter Try.func42, Try.ntmps42
    go_wp2_with (first | (go_at_call 41; refine HM.out.mono ?_; rintro e w1 ⟨rfl, rfl⟩) | (go_at_call 63; refine HI.out.mono ?_; rintro e w1 ⟨rfl, rfl⟩))
    go_ret
    exact ⟨ret_int HE.out.symm, by rw [HD.out]; exact RMut.same HT.out (Below.refl _ _)⟩

set_option maxRecDepth 100000 in
set_option maxHeartbeats 1000000 in
theorem rRemove_any {O : Nat → Prop} {B : Nat} {m : Mo} {w : World} (g : Int) (h : Rf w O B m) :
    Calls Try.prog 43 #[.pointer (some ⟨B, 0, none⟩), .int .i64 g] w fun e w' => e = .returned (.int .i64 (turnE m g 1)) ∧ RMut w O B (turnD m g 1 0) w' := by
  have HM := Lib.hid (rmade_any h)
  have hi := rthere_any g h
  have HT := Lib.hid h
  by_cases hin : 0 ≤ g ∧ g < m.h
  · obtain ⟨q, rfl⟩ : ∃ q : Nat, g = q := ⟨g.toNat, by omega⟩
    have hq : q < m.h := by omega
    rw [show hasM m q = true from decide_eq_true hin] at hi
    have HI := Lib.hid hi
    have HK := Lib.hid (rKind_any q h hq)
    have hE : turnE m q 1 = if kdS m.S q = 1 then 0 else 5 := by unfold turnE; rw [if_pos hin]; simp
    by_cases hk : kdS m.S q = 1
    · have hE0 : turnE m q 1 = 0 := by rw [hE, if_pos hk]
      have HE := Lib.hid hE0
      have hD : turnD m q 1 0 = ⟨m.h, setR m.S (16 * q) 16 0⟩ := by unfold turnD; rw [if_pos hE0]; simp
      have HD := Lib.hid hD
      have HWF := Lib.hid (turnD_wf h.wf q 1 0 (by omega))
      have b : (((kdS m.S q : Nat) : Int) != 1) = false := by rw [hk]; rfl
      obtain ⟨A, cap, hA⟩ := h
      have HA := Lib.hid hA
      have hset := rset_any (16 * q) 16 0 hA (by omega)
      have e16 : ((16 * q : Nat) : Int) = (q : Int) * 16 := by omega
      rw [e16] at hset
      have HS := Lib.hid hset
      have hq64 : q < 64 := by have := hA.wf.h2; omega
      clear hk hE hE0 hD hi hA hin hset e16
      generalize kdS m.S q = x at HK b
      go_enter Try.func43, Try.ntmps43
      go_wp2_with (first | (go_at_call 41; refine HM.out.mono ?_; rintro e w1 ⟨rfl, rfl⟩) | (go_at_call 63; refine HI.out.mono ?_; rintro e w1 ⟨rfl, rfl⟩) | (go_at_call 64; refine HK.out.mono ?_; rintro e w1 ⟨rfl, rfl⟩) | (go_at_call 65; refine HS.out.mono ?_; rintro e w1 ⟨rfl, hC, hK⟩; have HC := Lib.hid hC; have HKK := Lib.hid hK; clear hC hK))
      go_ret
      refine ⟨ret_int HE.out.symm, HA.out.setting (m' := turnD m q 1 0) (by rw [HD.out]) HWF.out ?_ HKK.out⟩
      rw [HD.out]
      exact HC.out
    · have hE0 : turnE m q 1 = 5 := by rw [hE, if_neg hk]
      have HE := Lib.hid hE0
      have HD := Lib.hid (show turnD m q 1 0 = m from by unfold turnD; rw [if_neg (by omega)])
      have b : (((kdS m.S q : Nat) : Int) != 1) = true := by simp only [bne_iff_ne]; omega
      clear hk hE hE0 hi hin h
      generalize kdS m.S q = x at HK b
      go_enter Try.func43, Try.ntmps43
      go_wp2_with (first | (go_at_call 41; refine HM.out.mono ?_; rintro e w1 ⟨rfl, rfl⟩) | (go_at_call 63; refine HI.out.mono ?_; rintro e w1 ⟨rfl, rfl⟩) | (go_at_call 64; refine HK.out.mono ?_; rintro e w1 ⟨rfl, rfl⟩))
      go_ret
      exact ⟨ret_int HE.out.symm, by rw [HD.out]; exact RMut.same HT.out (Below.refl _ _)⟩
  · rw [show hasM m g = false from decide_eq_false hin] at hi
    have HI := Lib.hid hi
    have hE0 : turnE m g 1 = 1 := by unfold turnE; rw [if_neg hin]
    have HE := Lib.hid hE0
    have HD := Lib.hid (show turnD m g 1 0 = m from by unfold turnD; rw [if_neg (by omega)])
    clear hi hin h hE0
    go_enter Try.func43, Try.ntmps43
    go_wp2_with (first | (go_at_call 41; refine HM.out.mono ?_; rintro e w1 ⟨rfl, rfl⟩) | (go_at_call 63; refine HI.out.mono ?_; rintro e w1 ⟨rfl, rfl⟩))
    go_ret
    exact ⟨ret_int HE.out.symm, by rw [HD.out]; exact RMut.same HT.out (Below.refl _ _)⟩

set_option maxHeartbeats 800000 in
theorem rCount_any {O : Nat → Prop} {B : Nat} {m : Mo} {w : World} (v : Int) (h : Rf w O B m) :
    Calls Try.prog 48 #[.pointer (some ⟨B, 0, none⟩), .int .i64 v] w fun e w' => e = .returned (.int .i64 (coV m v)) ∧ w = w' := by
  have HM := Lib.hid (rmade_any h)
  have h2 := h.wf.h2
  obtain ⟨A, cap, h⟩ := h
  have c0 := h.c0
  have HS := Lib.hid h
  have HCE := Lib.hid (coV_eq m v)
  obtain ⟨n, hn⟩ : ∃ n, n = 16 * m.h := ⟨_, rfl⟩
  rw [← hn] at c0 HCE
  have hn2 : n ≤ 1024 := by omega
  have HN := Lib.hid hn
  clear hn h h2
  go_enter Try.func48, Try.ntmps48
  go_wp2_with (go_at_call 41; refine HM.out.mono ?_; rintro e w1 ⟨rfl, rfl⟩)
  go_loop [5, 6] (fun c i => ∃ k : Nat, k ≤ n ∧ i = .int .i64 k ∧ c = .int .i64 (coN m v k)) (fun _ i => n - (intOf i).toNat)
  case atStart => exact ⟨0, by omega, rfl, by unfold coN; split <;> rfl⟩
  case round =>
    obtain ⟨k, hk, rfl, rfl⟩ := hrel
    by_cases hlt : k < n
    · have g := HS.out.at (i := k) (by have := HN.out; omega)
      have hs3 := HS.out.wf.s3 k
      have hc := coN_le m v k
      by_cases he : (m.S k : Int) = v
      · have HC := Lib.hid (coN_hit he)
        have q : (((m.S k : Nat) : Int) == v) = true := by simp [he]
        clear he
        generalize m.S k = x at g q hs3
        generalize coN m v k = C at *
        go_wp2
        go_round
        case rel => exact ⟨k + 1, by omega, by go_num, by rw [HC.out]; go_num⟩
        case measure => simp [intOf]; omega
      · have HC := Lib.hid (coN_miss he)
        have q : (((m.S k : Nat) : Int) == v) = false := by simp only [beq_eq_false_iff_ne]; exact he
        clear he
        generalize m.S k = x at g q hs3
        generalize coN m v k = C at *
        go_wp2
        go_round
        case rel => exact ⟨k + 1, by omega, by go_num, by rw [HC.out]⟩
        case measure => simp [intOf]; omega
    · go_wp2
      go_ret
      obtain rfl : k = n := by omega
      exact ⟨ret_int HCE.out.symm, rfl⟩

set_option maxRecDepth 100000 in
set_option maxHeartbeats 1000000 in
theorem rkinds_any {O : Nat → Prop} {B : Nat} {m : Mo} {w : World} (f : Nat) (h : Rf w O B m) :
    Calls Try.prog 69 #[.pointer (some ⟨B, 0, none⟩), .int .i64 f] w (NatsPost w (kinds m.S f m.h)) := by
  have HM := Lib.hid (rmade_any h)
  have HCB := Lib.hid (fun (w' : World) (hb : Below w.heap.size w w') => show ∃ A cap, w'.cell? ⟨B, 0, none⟩ = some (.slice (some ⟨A, 0, none⟩) (16 * m.h) cap) from by obtain ⟨A, cap, h'⟩ := h.below hb; exact ⟨A, cap, h'.c0⟩)
  have h2 := h.wf.h2
  have HK := Lib.hid (fun (w' : World) (hb : Below w.heap.size w w') (k : Nat) hk => rKind_any k (h.below hb) hk)
  obtain ⟨i0, hi, hz0, hz1, hz2⟩ := info_parts Try.info3
  have HI := Lib.hid (And.intro hi (And.intro hz0 (And.intro hz1 hz2)))
  clear h hi hz0 hz1 hz2
  obtain ⟨n, hn⟩ : ∃ n, n = m.h := ⟨_, rfl⟩
  rw [← hn] at h2 HCB HK ⊢
  clear hn
  go_enter Try.func69, Try.ntmps69
  go_wp2_with (first | (go_at_call 41; refine HM.out.mono ?_; rintro e w1 ⟨rfl, rfl⟩))
  go_loopw [5, 6] (fun v i wr => ∃ k : Nat, k ≤ n ∧ i = .int .i64 k ∧ wr.ownsRow w.heap.size 3 1 v (kinds m.S f k).length (natC (kinds m.S f k)) ∧ Below w.heap.size w wr) (fun _ i _ => n - (intOf i).toNat)
  case atStart => exact ⟨0, by omega, rfl, ⟨rfl, .inl ⟨rfl, rfl⟩⟩, Below.refl _ _⟩
  case round =>
    obtain ⟨k, hk, rfl, ho, hb⟩ := hrel
    have hlen := kinds_len m.S f k
    have HO := Lib.hid ho
    have HB := Lib.hid hb
    obtain ⟨Ax, cx, rfl⟩ := owns_form ho
    obtain ⟨Ab, cb, c0⟩ := HCB.out wr hb
    by_cases hlt : k < n
    · have HKK := Lib.hid (HK.out wr hb k hlt)
      clear ho hb
      by_cases he : kdS m.S k = f
      · have HS := Lib.hid (kinds_hit he)
        have q : (((kdS m.S k : Nat) : Int) == (f : Int)) = true := nbt he
        clear he
        generalize kdS m.S k = x at HKK q
        generalize hL : kinds m.S f k = L at *
        have HL := Lib.hid hL
        clear hL
        obtain ⟨hi, hz0, hz1, hz2⟩ := HI.out
        go_wp2_with fail
        refine HKK.out.mono ?_
        rintro e w1 ⟨rfl, rfl⟩
        go_wp2_with (at_builtin; go_loud (refine wpList_append_own _ rfl _ _ 47 rfl w.heap.size 3 i0 (.int .i64 0) 1 8 Try.underlying47 hi hz0 hz1 hz2 rfl (by decide) _ _ _ rfl (HO.out.alloc _) ⟨wr.heap.size, 0, none⟩ 1 1 [.int .i64 k] rfl rfl (cells1_new wr _ _) (by simp [Value.oneCell']) (by unfold maxLen; omega) (by omega) (by have := HB.out.size; simp; omega) ?_); intro v' w5 hown' hgrow _; have hB5 : Below w.heap.size w w5 := (HB.out.alloc HB.out.size _).grown hgrow (by have := HB.out.size; simp; omega) (fun k e => (HO.out.lt k e).1); have HO5 := Lib.hid hown'; have HB5 := Lib.hid hB5; clear hown' hgrow hB5)
        go_roundw
        case rel => exact ⟨k + 1, by omega, by go_num, by rw [HS.out, natC_app, List.length_append]; exact HO5.out, HB5.out⟩
        case measure => simp [intOf]; omega
      · have HS := Lib.hid (kinds_miss he)
        have q : (((kdS m.S k : Nat) : Int) == (f : Int)) = false := nbf he
        clear he
        generalize kdS m.S k = x at HKK q
        go_wp2_with (go_at_call 64; refine HKK.out.mono ?_; rintro e w1 ⟨rfl, rfl⟩)
        go_roundw
        case rel => exact ⟨k + 1, by omega, by go_num, by rw [HS.out]; exact HO.out, HB.out⟩
        case measure => simp [intOf]; omega
    · go_wp2
      go_ret
      obtain rfl : k = n := by omega
      obtain ⟨A, c, he, hn⟩ := nats_of_owns HO.out
      exact ⟨A, c, congrArg Ending.returned he, hn, HB.out⟩

theorem rIdle_any {O : Nat → Prop} {B : Nat} {m : Mo} {w : World} (h : Rf w O B m) : Calls Try.prog 51 #[.pointer (some ⟨B, 0, none⟩)] w (NatsPost w (kinds m.S 1 m.h)) := by
  have HC := Lib.hid (rkinds_any 1 h)
  clear h
  go_enter Try.func51, Try.ntmps51
  go_wp2_with fail
  refine HC.out.mono ?_
  rintro e w1 ⟨A, c, rfl, hn, hb⟩
  have HN := Lib.hid hn
  have HB := Lib.hid hb
  clear hn hb
  go_wp2
  go_ret
  exact ⟨A, c, rfl, HN.out, HB.out⟩

theorem rBroken_any {O : Nat → Prop} {B : Nat} {m : Mo} {w : World} (h : Rf w O B m) : Calls Try.prog 52 #[.pointer (some ⟨B, 0, none⟩)] w (NatsPost w (kinds m.S 2 m.h)) := by
  have HC := Lib.hid (rkinds_any 2 h)
  clear h
  go_enter Try.func52, Try.ntmps52
  go_wp2_with fail
  refine HC.out.mono ?_
  rintro e w1 ⟨A, c, rfl, hn, hb⟩
  have HN := Lib.hid hn
  have HB := Lib.hid hb
  clear hn hb
  go_wp2
  go_ret
  exact ⟨A, c, rfl, HN.out, HB.out⟩

theorem rWhole_any {O : Nat → Prop} {B : Nat} {m : Mo} {w : World} (h : Rf w O B m) : Calls Try.prog 53 #[.pointer (some ⟨B, 0, none⟩)] w (NatsPost w (kinds m.S 3 m.h)) := by
  have HC := Lib.hid (rkinds_any 3 h)
  clear h
  go_enter Try.func53, Try.ntmps53
  go_wp2_with fail
  refine HC.out.mono ?_
  rintro e w1 ⟨A, c, rfl, hn, hb⟩
  have HN := Lib.hid hn
  have HB := Lib.hid hb
  clear hn hb
  go_wp2
  go_ret
  exact ⟨A, c, rfl, HN.out, HB.out⟩

end Go.Proofs.Ytecfjibmpbgllaa
