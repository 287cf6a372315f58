/- Trailing zeros; blockOf, freeEnd, IsFree. -/
import Derived.Test.YtnmejilpifmlnaaDoorLa
namespace Go.Proofs.YtnmejilpifmlnaaDoor
open Go.RowKit

set_option maxHeartbeats 1000000 in
theorem tz64_core (x k idx : Nat) (w : World) (hx0 : ((x : Int) == 0) = false)
    (key : IntKind.u64.wrap (bits BinOp.and IntKind.u64 (x : Int) (IntKind.u64.wrap (-(x : Int))) * 285870213051353865) / 288230376151711744 = (idx : Int))
    (hi : idx < 64) (hk : k < 64) (hcell : w.cell? ⟨1, idx, none⟩ = some (.int .u8 k)) :
    Calls Tryd.prog 68 #[.int .u64 x] w fun e w' => e = .returned (.int .i64 k) ∧ w = w' := by
  go_enter Tryd.func68, Tryd.ntmps68
  go_wp2_with (simp only [key])
  go_ret
  exact ⟨rfl, rfl⟩

theorem tz64_zero (w : World) : Calls Tryd.prog 68 #[.int .u64 0] w fun e w' => e = .returned (.int .i64 64) ∧ w = w' := by
  go_enter Tryd.func68, Tryd.ntmps68
  go_wp2
  go_ret
  exact ⟨rfl, rfl⟩

theorem tz64_key (x a : Nat) (hx : x < 18446744073709551616) (hx0 : x ≠ 0) (hlow : x &&& (18446744073709551616 - x) = a) :
    IntKind.u64.wrap (bits BinOp.and IntKind.u64 (x : Int) (IntKind.u64.wrap (-(x : Int))) * 285870213051353865) / 288230376151711744 = ((a * 285870213051353865 % 18446744073709551616 / 288230376151711744 : Nat) : Int) := by
  have e1 : IntKind.u64.wrap (-(x : Int)) = ((18446744073709551616 - x : Nat) : Int) := by rw [IntKind.wrap_u64]; omega
  rw [e1, bits_and_u64_nat x _ hx (by omega), hlow, IntKind.wrap_u64]
  omega

theorem tz64_any (x : Nat) (hx : x < 18446744073709551616) (w : World) (hT : Tab w) :
    Calls Tryd.prog 68 #[.int .u64 x] w fun e w' => e = .returned (.int .i64 (Lib.ctz 64 x)) ∧ w = w' := by
  by_cases hx0 : x = 0
  · subst hx0
    exact tz64_zero w
  · obtain ⟨hlow, hk⟩ := Lib.lowest_bit 64 x hx0 hx
    obtain ⟨hi, htab⟩ := Lib.deBruijn64_at _ hk
    have hcell := hT _ hi
    rw [htab] at hcell
    exact tz64_core x _ _ w (by simp; omega) (tz64_key x _ hx hx0 hlow) hi hk hcell

set_option maxHeartbeats 400000 in
theorem tz_any (x : Nat) (hx : x < 18446744073709551616) (w : World) (hT : Tab w) :
    Calls Tryd.prog 65 #[.int .u64 x] w fun e w' => e = .returned (.int .i64 (Lib.ctz 64 x)) ∧ w = w' := by
  have HC := Lib.hid (tz64_any x hx w hT)
  clear hT
  go_enter Tryd.func65, Tryd.ntmps65
  go_wp2_with (go_at_call 68; refine HC.out.mono ?_; rintro e w' ⟨rfl, rfl⟩)
  go_ret
  exact ⟨rfl, rfl⟩

theorem ctz_facts (x : Nat) (hx : x < 18446744073709551616) : Lib.ctz 64 x ≤ 64 ∧ x % 2 ^ Lib.ctz 64 x = 0 := by
  unfold Lib.ctz
  by_cases h : x = 0
  · rw [if_pos h, h]
    exact ⟨Nat.le_refl _, Nat.zero_mod _⟩
  · rw [if_neg h]
    obtain ⟨m, h1, h2⟩ := Lib.ctzFrom_spec 64 x (by omega) hx
    refine ⟨by omega, ?_⟩
    have : 2 ^ Lib.ctzFrom 64 x ∣ x := ⟨2 * m + 1, h1⟩
    exact Nat.mod_eq_zero_of_dvd this

/-- The place that a page is in, if it is a free block's. -/
def blkE (m : Mo) (p : Int) (e : Ending) : Prop :=
  (0 ≤ p ∧ m.F p.toNat = true ∧ ∃ k, k < ords m.n ∧ Bk m.F k (fl k p.toNat) ∧ e = .returned (.tuple #[.agg #[.int .i64 (fl k p.toNat : Nat), .int .i64 k], .bool true])) ∨
  (¬ (0 ≤ p ∧ m.F p.toNat = true) ∧ e = .returned (.tuple #[.agg #[.int .i64 0, .int .i64 0], .bool false]))

theorem shr_shl {k : Nat} (hk : k ≤ 11) (p : Int) (hp : -9223372036854775808 ≤ p ∧ p ≤ 9223372036854775807) : 
    -9223372036854775808 ≤ p / 2 ^ k ∧ p / 2 ^ k ≤ 9223372036854775807 ∧ wrap64 (p / 2 ^ k * 2 ^ k) = p / 2 ^ k * 2 ^ k ∧ (-9223372036854775808 ≤ p / 2 ^ k * 2 ^ k ∧ p / 2 ^ k * 2 ^ k ≤ 9223372036854775807) := by
  have e : ((2 : Int) ^ k) = ((2 ^ k : Nat) : Int) := by simp
  rw [e]
  have hk' : k = 0 ∨ k = 1 ∨ k = 2 ∨ k = 3 ∨ k = 4 ∨ k = 5 ∨ k = 6 ∨ k = 7 ∨ k = 8 ∨ k = 9 ∨ k = 10 ∨ k = 11 := by omega
  have key : -9223372036854775808 ≤ p / ((2 ^ k : Nat) : Int) ∧ p / ((2 ^ k : Nat) : Int) ≤ 9223372036854775807 ∧ (-9223372036854775808 ≤ p / ((2 ^ k : Nat) : Int) * ((2 ^ k : Nat) : Int) ∧ p / ((2 ^ k : Nat) : Int) * ((2 ^ k : Nat) : Int) ≤ 9223372036854775807) := by
    rcases hk' with rfl | rfl | rfl | rfl | rfl | rfl | rfl | rfl | rfl | rfl | rfl | rfl <;> simp only [Nat.reducePow] <;> omega
  exact ⟨key.1, key.2.1, IntWalk.wrap64_in _ key.2.2, key.2.2⟩

theorem fl_int {k : Nat} {p : Int} (hp : 0 ≤ p) : p / 2 ^ k * 2 ^ k = ((fl k p.toNat : Nat) : Int) := by
  obtain ⟨q, rfl⟩ := Int.eq_ofNat_of_zero_le hp
  unfold fl
  simp
theorem fl_neg {k : Nat} {p : Int} (hp : p < 0) : p / 2 ^ k * 2 ^ k < 0 := by
  have e : ((2 : Int) ^ k) = ((2 ^ k : Nat) : Int) := by simp
  have h0 : (0 : Int) < 2 ^ k := by rw [e]; have := Nat.two_pow_pos k; omega
  have h1 : p / 2 ^ k < 0 := Int.ediv_neg_of_neg_of_pos hp h0
  exact Int.mul_neg_of_neg_of_pos h1 h0

/-- What a set says when it is asked for the start of a place. -/
theorem ask {w : World} {b : Nat} {F : Nat → Bool} {k : Nat} (h : SetAt w b (Bk F k)) {s : Int} (hs : -9223372036854775808 ≤ s ∧ s ≤ 9223372036854775807) :
    (Instr.lookup 64 (.map (some b)) (.int .i64 s) false).run Tryd.prog w = .ok (.bool (decide (0 ≤ s ∧ Bk F k s.toNat))) w := by
  obtain ⟨L, h1, h2⟩ := h
  rw [h2.look hs]
  refine congrArg (fun b => Result.ok (Value.bool b) w) (decide_eq_decide.2 ?_)
  constructor
  · rintro ⟨y, hy, rfl⟩
    exact ⟨by omega, (h1 _).1 (by simpa using hy)⟩
  · rintro ⟨h0, hb⟩
    exact ⟨s.toNat, (h1 _).2 hb, by omega⟩

theorem two_cells (w : World) (B : Nat) (a b : Value) (t : TypeId) (hB : B = w.heap.size) : (w.alloc (.cells #[a, b] t)).cell? ⟨B, 0, none⟩ = some a ∧ (w.alloc (.cells #[a, b] t)).cell? ⟨B, 1, none⟩ = some b := by
  subst hB
  constructor <;> go_simp

theorem two_free (w : World) (B : Nat) (a b : Value) (t : TypeId) (hB : B = w.heap.size) : (w.alloc (.cells #[a, b] t)).frozen? ⟨B, 0, none⟩ = false ∧ (w.alloc (.cells #[a, b] t)).frozen? ⟨B, 1, none⟩ = false := by
  subst hB
  constructor <;> go_simp

set_option maxRecDepth 100000 in
set_option maxHeartbeats 1000000 in
theorem blockOf_any {O : Nat → Prop} {B : Nat} {m : Mo} {w : World} (p : Int) (h : Hp w O B m) (hp : -9223372036854775808 ≤ p ∧ p ≤ 9223372036854775807) :
    Calls Tryd.prog 46 #[.pointer (some ⟨B, 0, none⟩), .int .i64 p] w fun e w' => blkE m p e ∧ Below w.heap.size w w' := by
  obtain ⟨A, cap, mb, h⟩ := h
  have c1 := h.c1
  have hK := h.wf.K
  have hcap := h.cp
  have HS := Lib.hid h
  clear h
  obtain ⟨K, hKe⟩ : ∃ K, K = ords m.n := ⟨_, rfl⟩
  have HKE := Lib.hid hKe
  rw [← hKe] at c1 hK hcap
  have hK2 := hK.2.1
  have hbl := HS.out.lt _ HS.out.ob
  have hal := HS.out.lt _ HS.out.oa
  have hr0 : w.heap.size ≠ B := by omega
  have hr1 : w.heap.size ≠ A := by omega
  clear hKe hK
  obtain ⟨W0, hW⟩ : ∃ W, w.alloc (.cells #[.int .i64 0, .int .i64 0] 73) = W := ⟨_, rfl⟩
  have hb0 : Below w.heap.size w W0 := by rw [← hW]; exact bnew _ _
  have hS0 := HS.out.below hb0
  have g1 := hS0.c1
  have HS0 := Lib.hid hS0
  have g2 := (two_cells w w.heap.size (.int .i64 0) (.int .i64 0) 73 rfl).1
  have g3 := (two_cells w w.heap.size (.int .i64 0) (.int .i64 0) 73 rfl).2
  obtain ⟨f2, f3⟩ := two_free w w.heap.size (.int .i64 0) (.int .i64 0) 73 rfl
  rw [hW] at g2 g3 f2 f3
  rw [← HKE.out] at g1
  have HB0 := Lib.hid hb0
  clear hS0 hb0 c1
  go_enter Tryd.func46, Tryd.ntmps46
  go_wp2
  go_loop [14] (fun i => ∃ k : Nat, k ≤ K ∧ i = .int .i64 k ∧ ∀ j, j < k → ¬ (0 ≤ p ∧ Bk m.F j (fl j p.toNat))) (fun i => K - (intOf i).toNat)
  case atStart => exact ⟨0, by omega, rfl, fun j hj => by omega⟩
  case round =>
    obtain ⟨k, hk, rfl, hno⟩ := hrel
    have HNO := Lib.hid hno
    clear hno
    by_cases hlt : k < K
    · have hK0 : k < ords m.n := by have := HKE.out; omega
      have a0 := HS0.out.a0 hK0
      obtain ⟨q1, q2, q3, q4⟩ := shr_shl (k := k) (by omega) p hp
      have HI := Lib.hid (fun h0 => fl_int (k := k) (p := p) h0)
      have HNG := Lib.hid (fun h0 => fl_neg (k := k) (p := p) h0)
      obtain ⟨S, hSd⟩ : ∃ S : Int, p / 2 ^ k * 2 ^ k = S := ⟨_, rfl⟩
      have q5 := q3.trans hSd
      rw [hSd] at q4 HI HNG
      have hask := ask (HS0.out.s k hK0) q4
      clear hSd hK0 q3
      by_cases hd : 0 ≤ S ∧ Bk m.F k S.toNat
      · have hp0 : 0 ≤ p := by
          rcases Int.lt_or_le p 0 with h | h
          · have := HNG.out h; omega
          · exact h
        have hSf := HI.out hp0
        have HD := Lib.hid hd
        have HP0 := Lib.hid hp0
        rw [decide_eq_true hd] at hask
        have hSn : S.toNat = fl k p.toNat := by omega
        have hfree : m.F p.toNat = true := hd.2.at (by rw [hSn]; exact fl_le _ _) (by rw [hSn]; exact fl_lt _ _)
        have HF := Lib.hid hfree
        have HSN := Lib.hid hSn
        have HSF := Lib.hid hSf
        clear hd hSf hp0 hfree hSn
        go_wp2
        refine bodyPost_ret (v := .tuple #[.agg #[.int .i64 S, .int .i64 k], .bool true]) (by simp [results, Tryd.results46, go_sem, g2, g3]) rfl ⟨.inl ⟨HP0.out, HF.out, k, by have := HKE.out; omega, by rw [← HSN.out]; exact HD.out.2, by rw [HSF.out]⟩, ?_⟩
        exact (HB0.out.setCell (p := ⟨w.heap.size, 0, none⟩) (Nat.le_refl _) _).setCell (p := ⟨w.heap.size, 1, none⟩) (Nat.le_refl _) _
      · rw [decide_eq_false hd] at hask
        have HD := Lib.hid hd
        clear hd
        go_wp2
        go_round
        case rel => 
          refine ⟨k + 1, by omega, by go_num, fun j hj => ?_⟩
          by_cases hjk : j = k
          · subst hjk
            rintro ⟨h0, hb⟩
            refine HD.out ⟨?_, ?_⟩
            · rw [HI.out h0]; omega
            · rw [HI.out h0]; exact hb
          · exact HNO.out j (by omega)
        case measure => simp [intOf]; omega
    · go_wp2
      refine bodyPost_ret (v := .tuple #[.agg #[.int .i64 0, .int .i64 0], .bool false]) (by simp [results, Tryd.results46, go_sem, g2, g3]) rfl ⟨.inr ⟨?_, rfl⟩, ?_⟩
      · rintro ⟨h0, hf⟩
        have hS := HS.out
        obtain ⟨j, hj, hb⟩ := bk_ex hS.wf.f (hS.wf.K).2.2.1 hf
        exact HNO.out j (by have := HKE.out; omega) ⟨h0, hb⟩
      · exact (HB0.out.setCell (p := ⟨w.heap.size, 0, none⟩) (Nat.le_refl _) _).setCell (p := ⟨w.heap.size, 1, none⟩) (Nat.le_refl _) _

theorem blockOf_yes {O : Nat → Prop} {B : Nat} {m : Mo} {w : World} {p k : Nat} (h : Hp w O B m) (hb : Bk m.F k (fl k p)) :
    Calls Tryd.prog 46 #[.pointer (some ⟨B, 0, none⟩), .int .i64 p] w fun e w' => e = .returned (.tuple #[.agg #[.int .i64 (fl k p : Nat), .int .i64 k], .bool true]) ∧ Below w.heap.size w w' := by
  have hF : m.F p = true := hb.at (fl_le _ _) (fl_lt _ _)
  have hp := h.wf.f _ hF
  have hn := h.wf.n2
  refine (blockOf_any (p : Int) h (by omega)).mono fun e w' ⟨he, hbl⟩ => ⟨?_, hbl⟩
  rcases he with ⟨_, _, j, _, hj, he⟩ | ⟨hno, _⟩
  · rw [Int.toNat_natCast] at hj he
    obtain ⟨rfl, _⟩ := hj.one hb (fl_le _ _) (fl_lt _ _) (fl_le _ _) (fl_lt _ _)
    exact he
  · exact absurd ⟨by omega, by simpa using hF⟩ hno
theorem blockOf_no {O : Nat → Prop} {B : Nat} {m : Mo} {w : World} {p : Int} (h : Hp w O B m) (hp : -9223372036854775808 ≤ p ∧ p ≤ 9223372036854775807) (hno : ¬ (0 ≤ p ∧ m.F p.toNat = true)) :
    Calls Tryd.prog 46 #[.pointer (some ⟨B, 0, none⟩), .int .i64 p] w fun e w' => e = .returned (.tuple #[.agg #[.int .i64 0, .int .i64 0], .bool false]) ∧ Below w.heap.size w w' := by
  refine (blockOf_any p h hp).mono fun e w' ⟨he, hbl⟩ => ⟨?_, hbl⟩
  rcases he with ⟨h0, hF, _⟩ | ⟨_, he⟩
  · exact absurd ⟨h0, hF⟩ hno
  · exact he

/-- Whether a page is free. -/
def frV (m : Mo) (p : Int) : Bool := decide (0 ≤ p ∧ m.F p.toNat = true)

set_option maxRecDepth 100000 in
set_option maxHeartbeats 1000000 in
theorem IsFree_any {O : Nat → Prop} {B : Nat} {m : Mo} {w : World} (p : Int) (h : Hp w O B m) (hp : -9223372036854775808 ≤ p ∧ p ≤ 9223372036854775807) :
    Calls Tryd.prog 20 #[.pointer (some ⟨B, 0, none⟩), .int .i64 p] w fun e w' => e = .returned (.bool (frV m p)) ∧ Below w.heap.size w w' := by
  have HM := Lib.hid (made_any h)
  by_cases hd : 0 ≤ p ∧ m.F p.toNat = true
  · obtain ⟨k, hk, hb⟩ := bk_ex h.wf.f (h.wf.K).2.2.1 hd.2
    have HC := Lib.hid (blockOf_yes h hb)
    have HV := Lib.hid (show frV m p = true from decide_eq_true hd)
    rw [show ((p.toNat : Nat) : Int) = p from Int.toNat_of_nonneg hd.1] at HC
    clear h hd hk hb
    go_enter Tryd.func20, Tryd.ntmps20
    go_wp2_with (first | (go_at_call 33; refine HM.out.mono ?_; rintro e _ ⟨rfl, rfl⟩) | (go_at_call 46; refine HC.out.mono ?_; rintro e w1 ⟨rfl, hb1⟩))
    go_ret
    exact ⟨ret_bool HV.out.symm, hb1.alloc hb1.size _⟩
  · have HC := Lib.hid (blockOf_no h hp hd)
    have HV := Lib.hid (show frV m p = false from decide_eq_false hd)
    clear h hd
    go_enter Tryd.func20, Tryd.ntmps20
    go_wp2_with (first | (go_at_call 33; refine HM.out.mono ?_; rintro e _ ⟨rfl, rfl⟩) | (go_at_call 46; refine HC.out.mono ?_; rintro e w1 ⟨rfl, hb1⟩))
    go_ret
    exact ⟨ret_bool HV.out.symm, hb1.alloc hb1.size _⟩

/-- The first page from s on that is not free, or e. -/
structure FE (F : Nat → Bool) (s e r : Nat) : Prop where
  lo : s ≤ r
  hi : r ≤ e
  on : ∀ p, s ≤ p → p < r → F p = true
  off : r < e → F r = false

set_option maxRecDepth 100000 in
set_option maxHeartbeats 1000000 in
theorem freeEnd_any {O : Nat → Prop} {B : Nat} {m : Mo} {w : World} (s e : Nat) (h : Hp w O B m) (hs : s ≤ e) (he : e ≤ m.n) :
    Calls Tryd.prog 60 #[.pointer (some ⟨B, 0, none⟩), .int .i64 s, .int .i64 e] w fun x w' => (∃ r : Nat, FE m.F s e r ∧ x = .returned (.int .i64 r)) ∧ Below w.heap.size w w' := by
  have hn := h.wf.n2
  have HS := Lib.hid h
  have HE := Lib.hid he
  have he2 : e ≤ 1024 := by omega
  clear h hn he
  go_enter Tryd.func60, Tryd.ntmps60
  go_wp2
  go_loopw [1] (fun i wr => ∃ k : Nat, s ≤ k ∧ k ≤ 1024 ∧ i = .int .i64 k ∧ (∀ p, s ≤ p → p < k → m.F p = true) ∧ Below w.heap.size w wr) (fun i _ => e - (intOf i).toNat)
  case atStart => exact ⟨s, Nat.le_refl _, by omega, rfl, fun p _ _ => by omega, Below.refl _ _⟩
  case round =>
    obtain ⟨k, hk, hk2, rfl, hon, hB⟩ := hrel
    have HON := Lib.hid hon
    have HB := Lib.hid hB
    clear hon
    by_cases hlt : k < e
    · cases hF : m.F k
      · have HF := Lib.hid hF
        have HC := Lib.hid (blockOf_no (p := (k : Int)) (HS.out.below hB) (by omega) (by rintro ⟨_, h⟩; rw [Int.toNat_natCast, hF] at h; cases h))
        clear hF hB
        go_wp2_with (go_at_call 46; refine HC.out.mono ?_; rintro x w1 ⟨rfl, hb1⟩)
        go_ret
        exact ⟨⟨k, ⟨hk, Nat.le_of_lt hlt, HON.out, fun _ => HF.out⟩, rfl⟩, (btr HB.out hb1 (Nat.le_refl _)).alloc (btr HB.out hb1 (Nat.le_refl _)).size _⟩
      · obtain ⟨j, hj, hb⟩ := bk_ex HS.out.wf.f (HS.out.wf.K).2.2.1 hF
        have hKl := (HS.out.wf.K).2.1
        have HC := Lib.hid (blockOf_yes (HS.out.below hB) hb)
        have hle := bk_le HS.out.wf.f hb
        have hn := HS.out.wf.n2
        have hfl := fl_le j k
        have HN := Lib.hid (fun w => end_any (fl j k) j w (by omega) (by omega))
        have hl := fl_lt j k
        have HA := Lib.hid (fun p (h1 : k ≤ p) (h2 : p < fl j k + 2 ^ j) => hb.at (Nat.le_trans (fl_le j k) h1) h2)
        have hj2 : j ≤ 11 := by omega
        obtain ⟨r, hr⟩ : ∃ r : Nat, r = fl j k + 2 ^ j := ⟨_, rfl⟩
        rw [← hr] at hle hl HA HN
        have hr2 : r ≤ 1024 := by omega
        generalize fl j k = S at HC HN
        clear hfl hF hB hj hb hKl hr hle hn
        go_wp2_with (first | (go_at_call 46; refine HC.out.mono ?_; rintro x w1 ⟨rfl, hb1⟩) | (go_at_call 61; refine (HN.out _).mono ?_; rintro x w2 ⟨rfl, hb2⟩))
        go_roundw
        case rel =>
          refine ⟨r, by omega, hr2, rfl, fun p h1 h2 => ?_, btr ((btr HB.out hb1 (Nat.le_refl _)).alloc (btr HB.out hb1 (Nat.le_refl _)).size _) hb2 (Nat.le_refl _)⟩
          by_cases hpk : p < k
          · exact HON.out p h1 hpk
          · exact HA.out p (by omega) h2
        case measure => simp [intOf]; omega
    · go_wp2
      go_ret
      refine ⟨⟨e, ⟨hs, Nat.le_refl _, fun p h1 h2 => HON.out p h1 (by omega), fun h => by omega⟩, rfl⟩, hB⟩

end Go.Proofs.YtnmejilpifmlnaaDoor
