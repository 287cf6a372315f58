/- put, before its walk. -/
import Derived.Test.YtnmejilpifmlnaaDoorLb
namespace Go.Proofs.YtnmejilpifmlnaaDoor
open Go.RowKit

theorem bits_xor_i64 (a b : Nat) (ha : a < 9223372036854775808) (hb : b < 9223372036854775808) : bits .xor .i64 (a : Int) (b : Int) = ((a ^^^ b : Nat) : Int) := by
  have hx : a ^^^ b < 2 ^ 63 := Nat.xor_lt_two_pow (by omega) (by omega)
  have h1 : (BitVec.ofInt 64 (a : Int)).toNat = a := by
    rw [BitVec.ofInt_natCast, BitVec.toNat_ofNat]; exact Nat.mod_eq_of_lt (by omega)
  have h2 : (BitVec.ofInt 64 (b : Int)).toNat = b := by
    rw [BitVec.ofInt_natCast, BitVec.toNat_ofNat]; exact Nat.mod_eq_of_lt (by omega)
  show IntKind.i64.wrap ((BitVec.ofInt 64 (a : Int) ^^^ BitVec.ofInt 64 (b : Int)).toNat : Int) = _
  rw [BitVec.toNat_xor, h1, h2]
  exact IntWalk.i64_in _ (by omega)

theorem xor_tab : ∀ k : Fin 12, ∀ c : Fin 1025, (c.val * 2 ^ k.val < 1025 → (c.val * 2 ^ k.val) ^^^ 2 ^ k.val = sib k.val (c.val * 2 ^ k.val)) := by decide +kernel
theorem xor_sib {k s : Nat} (hk : k ≤ 11) (hs : s ≤ 1024) (hm : s % 2 ^ k = 0) : s ^^^ 2 ^ k = sib k s := by
  obtain ⟨c, rfl⟩ := Nat.dvd_of_mod_eq_zero hm
  have hp := Nat.two_pow_pos k
  have hc : c ≤ 2 ^ k * c := Nat.le_mul_of_pos_left c hp
  have := xor_tab ⟨k, by omega⟩ ⟨c, by omega⟩ (by simp; rw [Nat.mul_comm]; omega)
  simp only at this
  rw [Nat.mul_comm]
  exact this

/-- What the walk meets where the other half of a place is computed. -/
theorem xor_facts {k s : Nat} (hk : k ≤ 11) (hs : s ≤ 1024) (hm : s % 2 ^ k = 0) : ∃ P : Nat, 1 ≤ P ∧ P ≤ 2048 ∧ IntKind.i64.wrap ((2 : Int) ^ k) = (P : Int) ∧ wrap64 ((2 : Int) ^ k) = (P : Int) ∧ bits .xor .i64 (s : Int) (P : Int) = (sib k s : Nat) := by
  obtain ⟨P, hP, p1, p2, e⟩ := two_pow hk
  have hs2 : s < 9223372036854775808 := by omega
  have hp2 : P < 9223372036854775808 := by clear e; omega
  exact ⟨P, p1, p2, e.1, e.2, by rw [bits_xor_i64 s P hs2 hp2, hP, xor_sib hk hs hm]⟩

/-- What is left of a box of two numbers for a loop's measure. -/
def mz (Z : Nat) (w : World) : Nat := 12 - (intOf ((w.cell? ⟨Z, 1, none⟩).getD undef)).toNat
theorem mz_of {Z : Nat} {w : World} {k : Nat} (h : w.cell? ⟨Z, 1, none⟩ = some (.int .i64 (k : Int))) : mz Z w = 12 - k := by
  unfold mz
  rw [h]
  simp [intOf]

theorem SetAt.drewN {w : World} {b : Nat} {S : Nat → Prop} (h : SetAt w b S) (n : Nat) : SetAt (w.drewN n) b S := h.of_block rfl
theorem HpA.drewN {w : World} {O : Nat → Prop} {B A cap : Nat} {mb : Nat → Nat} {m : Mo} (h : HpA w O B A cap mb m) (n : Nat) : HpA (w.drewN n) O B A cap mb m := h.below (belowN (Below.refl _ _) n)

/-- What the loop of put knows. -/
structure PutIn (w : World) (O : Nat → Prop) (B A cap : Nat) (mb : Nat → Nat) (n : Nat) (G : Nat → Bool) (Z : Nat) (wr : World) (F : Nat → Bool) (s k : Nat) : Prop where
  hp : HpA wr O B A cap mb ⟨n, F⟩
  keep : Keep O w wr
  cl : Cl wr Z 2 (fun i => if i = 0 then .int .i64 s else .int .i64 k)
  kK : k < ords n
  md : s % 2 ^ k = 0
  le : s + 2 ^ k ≤ n
  no : ∀ p, s ≤ p → p < s + 2 ^ k → F p = false
  eq : setF F s (s + 2 ^ k) true = G
  zb : w.heap.size ≤ Z
  zo : ¬ O Z
  z1 : Z ≠ 1

theorem PutIn.below {w : World} {O : Nat → Prop} {B A cap : Nat} {mb : Nat → Nat} {n : Nat} {G : Nat → Bool} {Z : Nat} {wr wr' : World} {F : Nat → Bool} {s k : Nat} (h : PutIn w O B A cap mb n G Z wr F s k) (hb : Below wr.heap.size wr wr') : PutIn w O B A cap mb n G Z wr' F s k :=
  ⟨h.hp.below hb, h.keep.trans (Keep.of hb), h.cl.of_block (hb.block _ (h.cl.lt (by omega))), h.kK, h.md, h.le, h.no, h.eq, h.zb, h.zo, h.z1⟩

theorem set_len {w : World} {b : Nat} {L : List Nat} {F : Nat → Bool} {n k : Nat} (h : RawSet w b L) (hm : ∀ x, x ∈ L ↔ Bk F k x) (hF : ∀ p, F p = true → p < n) : L.length = (bl F n k).length := by
  have hp : L.Perm (bl F n k) := (List.perm_ext_iff_of_nodup h.nodup ((bl_rise F n k).imp (fun h => Nat.ne_of_lt h))).2 (fun x => (hm x).trans (bl_mem hF).symm)
  exact hp.length_eq
theorem bl_len (F : Nat → Bool) (n k : Nat) : (bl F n k).length ≤ n := by
  unfold bl
  have := List.length_filter_le (fun s => decide (Bk F k s)) (List.range n)
  simpa using this

theorem set_put {w : World} {b : Nat} {F : Nat → Bool} {n k s : Nat} (h : SetAt w b (Bk F k)) (hF : ∀ p, F p = true → p < n) (hn : n ≤ 1024) (hs : s ≤ 1024) (hno : ¬ Bk F k s) :
    ∃ w', (Instr.mapUpdate 64 (.map (some b)) (.int .i64 (s : Int)) (.bool true)).run Tryd.prog w = .ok () w' ∧ (∀ S : Nat → Prop, (∀ x, S x ↔ Bk F k x ∨ x = s) → SetAt w' b S) ∧ w.grownBy w' (some b) := by
  obtain ⟨L, h1, h2⟩ := h
  have hl := set_len h2 h1 hF
  have hl2 := bl_len F n k
  obtain ⟨w', a, c, d⟩ := h2.put (x := s) (by omega) (fun hx => hno ((h1 s).1 hx)) (by omega)
  refine ⟨w', a, fun S hS => ⟨L ++ [s], fun x => ?_, c⟩, d⟩
  rw [hS x, List.mem_append, List.mem_singleton, h1 x]
theorem set_del {w : World} {b : Nat} {F : Nat → Bool} {k s : Nat} (h : SetAt w b (Bk F k)) (hs : s ≤ 100000) :
    ∃ w', (∀ ty, (Builtin.delete_ #[64, 3] ty #[.map (some b), .int .i64 (s : Int)]).run Tryd.prog w = .ok (.tuple #[]) w') ∧ (∀ S : Nat → Prop, (∀ x, S x ↔ Bk F k x ∧ x ≠ s) → SetAt w' b S) ∧ w.grownBy w' (some b) := by
  obtain ⟨L, h1, h2⟩ := h
  obtain ⟨w', L', a, c, d, e⟩ := h2.del (x := (s : Int)) (by omega)
  refine ⟨w', a, fun S hS => ⟨L', fun x => ?_, c⟩, e⟩
  rw [hS x, d x, h1 x]
  constructor
  · rintro ⟨q1, q2⟩; exact ⟨q1, by omega⟩
  · rintro ⟨q1, q2⟩; exact ⟨q1, by omega⟩
theorem ask_nat {w : World} {b : Nat} {F : Nat → Bool} {k s : Nat} (h : SetAt w b (Bk F k)) (hs : s ≤ 100000) :
    (Instr.lookup 64 (.map (some b)) (.int .i64 (s : Int)) false).run Tryd.prog w = .ok (.bool (decide (Bk F k s))) w := by
  have := ask h (s := (s : Int)) (by omega)
  rw [Int.toNat_natCast] at this
  rw [this]
  refine congrArg (fun b => Result.ok (Value.bool b) w) (decide_eq_decide.2 ⟨fun h => h.2, fun h => ⟨by omega, h⟩⟩)

theorem PutIn.zm {w : World} {O : Nat → Prop} {B A cap : Nat} {mb : Nat → Nat} {n : Nat} {G : Nat → Bool} {Z : Nat} {wr : World} {F : Nat → Bool} {s k : Nat} (h : PutIn w O B A cap mb n G Z wr F s k) : Z ≠ mb k := by
  have hz := h.cl.cell 0 (by omega)
  intro e
  rw [(h.hp.s k h.kK).no_cell ⟨Z, 0, none⟩ e] at hz
  cases hz
/-- The box behind a turn of a set. -/
theorem PutIn.box {w : World} {O : Nat → Prop} {B A cap : Nat} {mb : Nat → Nat} {n : Nat} {G : Nat → Bool} {Z : Nat} {wr w1 : World} {F : Nat → Bool} {s k : Nat} (h : PutIn w O B A cap mb n G Z wr F s k) (hg : wr.grownBy w1 (some (mb k))) :
    w1.cell? ⟨Z, 0, none⟩ = some (.int .i64 s) ∧ w1.cell? ⟨Z, 1, none⟩ = some (.int .i64 k) ∧ w1.frozen? ⟨Z, 0, none⟩ = false ∧ w1.frozen? ⟨Z, 1, none⟩ = false := by
  have hZ : w1.heap[Z]? = wr.heap[Z]? := hg.block Z (h.cl.lt (by omega)) (fun e => by cases e; exact h.zm rfl)
  have hc := h.cl.of_block hZ
  exact ⟨hc.cell 0 (by omega), hc.cell 1 (by omega), hc.free 0 (by omega), hc.free 1 (by omega)⟩

/-- One round of put's loop. -/
theorem PutIn.join {w : World} {O : Nat → Prop} {B A cap : Nat} {mb : Nat → Nat} {n : Nat} {G : Nat → Bool} {Z : Nat} {wr w1 : World} {F : Nat → Bool} {s k : Nat} (h : PutIn w O B A cap mb n G Z wr F s k) (hb : Bk F k (sib k s))
    (hg : wr.grownBy w1 (some (mb k))) (hs : ∀ S : Nat → Prop, (∀ x, S x ↔ Bk F k x ∧ x ≠ sib k s) → SetAt w1 (mb k) S) :
    k + 1 < ords n ∧ PutIn w O B A cap mb n G Z ((w1.setCell ⟨Z, 0, none⟩ (.int .i64 (min s (sib k s) : Nat))).setCell ⟨Z, 1, none⟩ (.int .i64 ((k + 1 : Nat) : Int))) (setF F (sib k s) (sib k s + 2 ^ k) false) (min s (sib k s)) (k + 1) := by
  obtain ⟨m0, m1, m2, m3⟩ := sib_facts h.md
  have e2 : 2 ^ (k + 1) = 2 * 2 ^ k := by rw [Nat.pow_succ, Nat.mul_comm]
  have hF := h.hp.wf.f
  have hble : sib k s + 2 ^ k ≤ n := bk_le hF hb
  have hsle := h.le
  have hle2 : min s (sib k s) + 2 ^ (k + 1) ≤ n := by omega
  have hn1 := h.hp.wf.n1
  have hn2 := h.hp.wf.n2
  have hK : k + 1 < ords n := by
    have hk := (ords_facts hn1 hn2).2.2.1
    rcases Nat.lt_or_ge (k + 1) (ords n) with hlt | hge
    · exact hlt
    · have hp := pow_le hge
      have hx : n < 2 ^ ords n := hk
      omega
  have hzm : Z ≠ mb k := by
    have hz := h.cl.cell 0 (by omega)
    intro e
    rw [(h.hp.s k h.kK).no_cell ⟨Z, 0, none⟩ e] at hz
    cases hz
  have ho := h.hp.os k h.kK
  have hA := h.hp.turn h.kK (F' := setF F (sib k s) (sib k s + 2 ^ k) false) hg (fun p hp => hF p (by
    by_cases hi : sib k s ≤ p ∧ p < sib k s + 2 ^ k
    · rw [setF_in hi.1 hi.2] at hp; cases hp
    · rwa [setF_out hi] at hp)) (hs _ (fun x => by rw [bk_out hb]; simp)) (fun j hj t => by rw [bk_out hb]; simp [hj])
  have hZ : w1.heap[Z]? = wr.heap[Z]? := hg.block Z (h.cl.lt (by omega)) (fun e => by cases e; exact hzm rfl)
  refine ⟨hK, hA.keep (O1 := fun x => x = Z) (((Keep.refl (fun x => x = Z) w1).set (a := ⟨Z, 0, none⟩) (.inl rfl) _).set (a := ⟨Z, 1, none⟩) (.inl rfl) _) (fun x hx e => h.zo (e ▸ hx)) (fun e => h.z1 e.symm),
    ((h.keep.grown hg (.inl ho)).set (a := ⟨Z, 0, none⟩) (.inr h.zb) _).set (a := ⟨Z, 1, none⟩) (.inr h.zb) _, ?_, hK, ?_, hle2, fun p p1 p2 => ?_, ?_, h.zb, h.zo, h.z1⟩
  · refine ((((h.cl.of_block hZ)).set 0 _).set 1 _).congr fun i hi => ?_
    have : i = 0 ∨ i = 1 := by omega
    rcases this with rfl | rfl <;> rfl
  · rw [← m1]; exact fl_mod _ _
  · by_cases hi : sib k s ≤ p ∧ p < sib k s + 2 ^ k
    · exact setF_in hi.1 hi.2
    · rw [setF_out hi]; exact h.no p (by omega) (by omega)
  · rw [setF_par h.md hb.1]; exact h.eq

/-- The last step of put. -/
theorem PutIn.last {w : World} {O : Nat → Prop} {B A cap : Nat} {mb : Nat → Nat} {n : Nat} {G : Nat → Bool} {Z : Nat} {wr w1 : World} {F : Nat → Bool} {s k : Nat} (h : PutIn w O B A cap mb n G Z wr F s k) (hb : ¬ Bk F k (sib k s))
    (hg : wr.grownBy w1 (some (mb k))) (hs : ∀ S : Nat → Prop, (∀ x, S x ↔ Bk F k x ∨ x = s) → SetAt w1 (mb k) S) : Mut w O B ⟨n, G⟩ w1 := by
  have hF := h.hp.wf.f
  have hsle := h.le
  have hA := h.hp.turn h.kK (F' := setF F s (s + 2 ^ k) true) hg (fun p hp => by
    by_cases hi : s ≤ p ∧ p < s + 2 ^ k
    · show p < n
      omega
    · rw [setF_out hi] at hp; exact hF p hp) (hs _ (fun x => by rw [bk_in h.md h.no hb]; simp)) (fun j hj t => by rw [bk_in h.md h.no hb]; simp [hj])
  rw [h.eq] at hA
  exact ⟨⟨A, cap, mb, hA⟩, h.keep.grown hg (.inl (h.hp.os k h.kK))⟩

theorem PutIn.meas {w : World} {O : Nat → Prop} {B A cap : Nat} {mb : Nat → Nat} {n : Nat} {G : Nat → Bool} {Z : Nat} {wr : World} {F : Nat → Bool} {s k : Nat} (h : PutIn w O B A cap mb n G Z wr F s k) : mz Z wr = 12 - k := mz_of (h.cl.cell 1 (by omega))
/-- One round of put's loop, as the walk spells it. -/
theorem PutIn.round {w : World} {O : Nat → Prop} {B A cap : Nat} {mb : Nat → Nat} {n : Nat} {G : Nat → Bool} {Z : Nat} {wr W1 W2 : World} {F : Nat → Bool} {s k Q M S1 N : Nat} (h : PutIn w O B A cap mb n G Z W1 F s k) (h0 : PutIn w O B A cap mb n G Z wr F s k) (hb : Bk F k (sib k s))
    (hg : W1.grownBy W2 (some (mb k))) (hs : ∀ S : Nat → Prop, (∀ x, S x ↔ Bk F k x ∧ x ≠ Q) → SetAt W2 (mb k) S) (hq : sib k s = Q) (hM : min s Q = M) (hS : sib (k + 1) (min s Q) = S1) :
    (∃ (F' : Nat → Bool) (s' k' : Nat), Value.int .i64 (S1 : Int) = .int .i64 (sib k' s' : Nat) ∧ PutIn w O B A cap mb n G Z (((W2.setCell ⟨Z, 0, none⟩ (.int .i64 (M : Int))).setCell ⟨Z, 1, none⟩ (.int .i64 ((k : Int) + 1))).drewN N) F' s' k') ∧
    mz Z (((W2.setCell ⟨Z, 0, none⟩ (.int .i64 (M : Int))).setCell ⟨Z, 1, none⟩ (.int .i64 ((k : Int) + 1))).drewN N) < mz Z wr := by
  subst hq hM hS
  obtain ⟨hk, hj⟩ := h.join hb hg hs
  have hj2 := hj.below (belowN (Below.refl _ _) N)
  have hk2 := (ords_facts h.hp.wf.n1 h.hp.wf.n2).2.1
  simp only at hk2
  refine ⟨⟨setF F (sib k s) (sib k s + 2 ^ k) false, min s (sib k s), k + 1, rfl, hj2⟩, ?_⟩
  have e1 := hj2.meas
  rw [h0.meas]
  exact Nat.lt_of_le_of_lt (Nat.le_of_eq e1) (by omega)

end Go.Proofs.YtnmejilpifmlnaaDoor
