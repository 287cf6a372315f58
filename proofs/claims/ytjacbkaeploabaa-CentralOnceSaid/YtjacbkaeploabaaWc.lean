/- The statement about taking one by one. -/
import Derived.Test.YtjacbkaeploabaaWb
import Derived.Laws.AppendOwnNone
namespace Go.Proofs.Ytjacbkaeploabaa
open Go.RowKit Go.Shelf

theorem undInts : Try.prog.underlying 29 = some (.slice 3) := by kernel_rfl
set_option maxRecDepth 100000 in
/-- Numbers that were returned are appended to a row of one's own. -/
theorem app_ints {ops : Array Oper} {rest : List Oper} {o : Oper} {a : Act} {Q : Exit → Act → World → Prop} (w : World) (hgd : o.guard = none) (s x : Operand)
    (ho : o.op = .call { callee := .builtin .append, args := #[s, x], argTypes := #[29, 29] })
    (base : Nat) (v : Value) (n : Nat) (xs : List Value) (hs : a.eval s = v) (hown : w.ownsRow base 3 1 v n xs) (A : Option Addr) (c : Nat) (L : List Nat) (hx : a.eval x = .slice A L.length c) (hL : LAt w A L) (hc : A = none → c = 0)
    (hn : n + L.length ≤ 1000000) (hbase : base ≤ w.heap.size)
    (h : ∀ v' w', w'.ownsRow base 3 1 v' (n + L.length) (xs ++ cellsI L) → w.grownBy w' v.ownBlock → wpList Try.prog ops Q rest (a.put o.dst v') w') : wpList Try.prog ops Q (o :: rest) a w := by
  obtain ⟨i0, hi, hz0, hz1, hz2⟩ := info_parts info3
  cases A with
  | none =>
    obtain rfl := hc rfl
    have hL0 : L = [] := by
      cases L with
      | nil => rfl
      | cons y t => obtain ⟨g, e, _⟩ := hL 0 y rfl; cases e
    subst hL0
    refine wpList_append_own_none hgd s x 29 ho base 3 i0 1 undInts hi v n xs hs hown hx ?_
    refine h v w ?_ ⟨rfl, rfl, rfl, Nat.le_refl _, fun _ _ _ => rfl⟩
    have : xs ++ cellsI [] = xs := List.append_nil _
    rw [this]
    exact hown
  | some ad =>
    refine wpList_append_own w hgd s x 29 ho base 3 i0 (.int .i64 0) 1 8 undInts hi hz0 hz1 hz2 rfl (by decide) v n xs hs hown ad L.length c (cellsI L) hx (by unfold cellsI; rw [List.length_map, Nat.mul_one]) (fun j u hj => ?_) (fun u hu => ?_) (by unfold maxLen; omega) (by omega) hbase (fun v' w' h1 h2 _ => h v' w' h1 h2)
    · unfold cellsI at hj
      rw [List.getElem?_map] at hj
      cases e : L[j]? with
      | none => rw [e] at hj; cases hj
      | some y =>
        rw [e] at hj
        injection hj with hj
        subst hj
        obtain ⟨g, eg, _, h2⟩ := hL j y e
        injection eg with eg
        subst eg
        by_cases hj0 : j = 0
        · subst hj0; exact h2
        · simpa [Addr.add, hj0] using h2
    · unfold cellsI at hu
      obtain ⟨y, _, rfl⟩ := List.mem_map.1 hu
      rfl
theorem tkL_len : ∀ (k : Nat) (L : List Mo), (tkL k L).1.length ≤ k
  | 0, L => by simp [tkL]
  | k + 1, L => by
    cases hs : stp L with
    | none => rw [tkL_none hs]; simp
    | some r =>
      obtain ⟨a, L'⟩ := r
      rw [tkL_some hs]
      have := tkL_len k L'
      simp
      omega

set_option maxRecDepth 100000 in
set_option maxHeartbeats 4000000 in
theorem onebyone_walk (s p b : Int) (A : Option Addr) (cp : Nat) (l : List Ak) (m n : Int) (w : World) (hm : 0 ≤ m ∧ m ≤ 255) (hn : 0 ≤ n ∧ n ≤ 255) (hl : l.length ≤ 9223372036854775807) (hA : ActsAt w w.heap.size A l) :
    Calls Try.prog 6 #[.agg #[.int .i64 s, .int .i64 p, .int .i64 b], .slice A l.length cp, .int .u8 m, .int .u8 n] w (Yes w) := by
  have HAL := Lib.hid alive_any
  obtain ⟨W2, hW0, hB2, hs0, x0, x1, x2⟩ := fresh3 w (.int .i64 s) (.int .i64 p) (.int .i64 b) 23
  have T0 : Tri W2 w.heap.size (.int .i64 s) (.int .i64 p) (.int .i64 b) := Tri.mk (by omega) x0 x1 x2
  have HT0 := Lib.hid (fun W (hb : Below W2.heap.size W2 W) => T0.below hb T0.lt)
  have HG1 := Lib.hid (great_any A cp l W2 hl (hA.below hB2))
  have HMD := Lib.hid (fun W (hb : Below w.heap.size w W) h60 => made_law s p b A cp l W hl h60 hb.size (hA.below hb))
  have HB2 := Lib.hid hB2
  obtain ⟨L, hL⟩ : ∃ L, l.length = L := ⟨_, rfl⟩
  rw [hL] at hl HG1 HMD ⊢
  clear T0 hA hs0 hB2 hL
  by_cases hg : grB l = true
  · rw [hg] at HG1
    go_enter Try.func6, Try.ntmps6
    go_wp2_with fail
    refine HG1.out.mono ?_
    rintro e _ ⟨rfl, rfl⟩
    go_wp2_with fail
    refine (HAL.out _).mono ?_
    rintro e w2 ⟨rfl, hb⟩
    have HF := Lib.hid (btr HB2.out hb (Nat.le_refl _))
    clear hb
    go_wp2_with fail
    go_ret
    exact ⟨rfl, HF.out⟩
  · have hg' : grB l = false := by simpa using hg
    rw [hg'] at HG1
    have H60 := Lib.hid (grB_no hg').2
    clear hg hg'
    go_enter Try.func6, Try.ntmps6
    go_wp2_with fail
    refine HG1.out.mono ?_
    rintro e _ ⟨rfl, rfl⟩
    clear x0 x1 x2
    obtain ⟨_, t0, t1, t2⟩ := HT0.out _ (Below.refl _ _)
    go_wp2_with fail
    obtain ⟨om, hom⟩ : ∃ om, runO (newC ⟨s, p, b⟩) l = om := ⟨_, rfl⟩
    rw [hom] at HMD
    have HC := Lib.hid (fun W (hb : Below W2.heap.size W2 W) => show W.cell? ⟨w.heap.size, 0, none⟩ = some (.int .i64 s) ∧ W.cell? ⟨w.heap.size, 1, none⟩ = some (.int .i64 p) ∧ W.cell? ⟨w.heap.size, 2, none⟩ = some (.int .i64 b) from by
      obtain ⟨_, t0, t1, t2⟩ := HT0.out W hb
      exact ⟨t0, t1, t2⟩)
    cases om with
    | none =>
      go_region_held3 (fun w' => w'.cell? ⟨w.heap.size, 0, none⟩ = some (.int .i64 s) ∧ w'.cell? ⟨w.heap.size, 1, none⟩ = some (.int .i64 p) ∧ w'.cell? ⟨w.heap.size, 2, none⟩ = some (.int .i64 b))
        (first | exact HC.out _ (Below.refl _ _) | exact HC.out _ (belowN (Below.refl _ _) _) | exact HC.out _ hb4 | exact HC.out _ hb3)
        (first
        | (go_at_call 13; refine (HMD.out _ (btr HB2.out hb3 (Nat.le_refl _)) H60.out).mono ?_; intro e w4 hm2; obtain ⟨rfl, hb4'⟩ := hm2.no; have hb4 := btr hb3 hb4' (Nat.le_refl _); clear hm2 hb4')
        | (go_at_call 13; refine (HMD.out _ (belowN HB2.out _) H60.out).mono ?_; intro e w3 hm1; obtain ⟨rfl, hb3'⟩ := hm1.no; have hb3 := btr (belowN (Below.refl W2.heap.size W2) _) hb3' (Nat.le_refl _); clear hm1 hb3'))
      have HB4 := Lib.hid (btr HB2.out hb4 (Nat.le_refl _))
      clear hb3 hb4 t0 t1 t2
      go_wp2_with fail
      refine (HAL.out _).mono ?_
      rintro e w2 ⟨rfl, hb⟩
      have HF := Lib.hid (btr HB4.out hb (Nat.le_refl _))
      clear hb
      go_wp2_with fail
      go_ret
      exact ⟨rfl, HF.out⟩
    | some c =>
      go_region_held3 (fun w' => w'.cell? ⟨w.heap.size, 0, none⟩ = some (.int .i64 s) ∧ w'.cell? ⟨w.heap.size, 1, none⟩ = some (.int .i64 p) ∧ w'.cell? ⟨w.heap.size, 2, none⟩ = some (.int .i64 b))
        (first | exact HC.out _ (Below.refl _ _) | exact HC.out _ (belowN (Below.refl _ _) _) | exact HC.out _ hb4 | exact HC.out _ hb3)
        (first
        | (go_at_call 13; refine (HMD.out _ (btr HB2.out hb3 (Nat.le_refl _)) H60.out).mono ?_; intro e w4 hm2; obtain ⟨B2, rfl, ho2⟩ := hm2.yes; have hb4 := btr hb3 ho2.2 (Nat.le_refl _); clear hm2)
        | (go_at_call 13; refine (HMD.out _ (belowN HB2.out _) H60.out).mono ?_; intro e w3 hm1; obtain ⟨B1, rfl, ho1⟩ := hm1.yes; have hb3 := btr (belowN (Below.refl W2.heap.size W2) _) ho1.2 (Nat.le_refl _); clear hm1))
      have h2 := Two.of (ho1.later (belowN (Below.refl W2.heap.size W2) _)) ho2
      have HTW := Lib.hid h2
      clear ho1 ho2 h2 t0 t1 t2 hb3 hb4
      have E1 : tkR (some c) (m + n) = (tkL (m + n).toNat c.L).1 := if_neg (by omega)
      have E1' : tkEr (some c) (m + n) = 0 := if_neg (by omega)
      have E1d : tkDr (some c) (m + n) = some { c with L := (tkL (m + n).toNat c.L).2 } := if_neg (by omega)
      have E2 : tkR (some c) m = (tkL m.toNat c.L).1 := if_neg (by omega)
      have E2' : tkEr (some c) m = 0 := if_neg (by omega)
      have E2d : tkDr (some c) m = some { c with L := (tkL m.toNat c.L).2 } := if_neg (by omega)
      have E3 : tkR (some { c with L := (tkL m.toNat c.L).2 }) n = (tkL n.toNat (tkL m.toNat c.L).2).1 := if_neg (by omega)
      have E3' : tkEr (some { c with L := (tkL m.toNat c.L).2 }) n = 0 := if_neg (by omega)
      have E3d : tkDr (some { c with L := (tkL m.toNat c.L).2 }) n = some { c with L := (tkL n.toNat (tkL m.toNat c.L).2).2 } := if_neg (by omega)
      have E4 := tkL_add n.toNat m.toNat c.L
      rw [show m.toNat + n.toNat = (m + n).toNat by omega] at E4
      rw [E4] at E1 E1d
      have len2 := tkL_len m.toNat c.L
      have len3 := tkL_len n.toNat (tkL m.toNat c.L).2
      have HK1 := Lib.hid (fun W O (h : Own2 W2 W (.pointer (some ⟨B1, 0, none⟩)) (some c) O) => h.take (m + n) ⟨by omega, by omega⟩)
      have HK2 := Lib.hid (fun W O (h : Own2 W2 W (.pointer (some ⟨B2, 0, none⟩)) (some c) O) => h.take m ⟨by omega, by omega⟩)
      have HK3 := Lib.hid (fun W O (h : Own2 W2 W (.pointer (some ⟨B2, 0, none⟩)) (some { c with L := (tkL m.toNat c.L).2 }) O) => h.take n ⟨by omega, by omega⟩)
      simp only [E1, E1', E1d] at HK1
      simp only [E2, E2', E2d] at HK2
      simp only [E3, E3', E3d] at HK3
      clear E1 E1' E1d E2 E2' E2d E3 E3' E3d E4
      generalize (tkL n.toNat (tkL m.toNat c.L).2).2 = LF at *
      generalize (tkL n.toNat (tkL m.toNat c.L).2).1 = z at *
      generalize (tkL m.toNat c.L).2 = LM at *
      generalize (tkL m.toNat c.L).1 = y at *
      obtain ⟨XL, hXL⟩ : ∃ XL, y ++ z = XL := ⟨_, rfl⟩
      have HXL := Lib.hid hXL
      have hXn : XL.length ≤ 510 := by rw [← hXL, List.length_append]; omega
      rw [hXL] at HK1
      clear hXL
      go_wp2_with fail
      refine (HK1.out _ _ HTW.out.a).mono ?_
      rintro e w5 ⟨P5, c5, rfl, O5, hl5, ⟨hn5, _⟩, ho5, hs5⟩
      have H5 := Lib.hid (HTW.out.left ho5 hs5)
      have LX := Lib.hid (show LKp w5 (Nw w3 w4) P5 XL from ⟨hl5.1, fun _ q hq ho => by have := hn5 q hq; have := ho.2; omega⟩)
      clear hl5 hn5 ho5 hs5
      go_wp2_with fail
      refine (HK2.out _ _ H5.out.b).mono ?_
      rintro e w6 ⟨P6, c6, rfl, O6, hl6, ⟨_, hz6⟩, ho6, hs6⟩
      have H6 := Lib.hid (H5.out.right ho6 hs6)
      have LX6 := Lib.hid (LX.out.step hs6)
      have LY := Lib.hid hl6
      have HZ6 := Lib.hid hz6
      clear hl6 ho6 hs6 hz6 LX
      go_wp2_with fail
      refine (HK3.out _ _ H6.out.b).mono ?_
      rintro e w7 ⟨P7, c7, rfl, O7, hl7, ⟨_, hz7⟩, ho7, hs7⟩
      have H7 := Lib.hid (H6.out.right ho7 hs7)
      have LX7 := Lib.hid (LX6.out.step hs7)
      have LY7 := Lib.hid (LY.out.step hs7)
      have LZ := Lib.hid hl7
      have HZ7 := Lib.hid hz7
      clear hl7 ho7 hs7 hz7 LX6 LY
      have HE0 := Lib.hid (own_empty (W := w7.alloc (.cells #[] 3)) (t := 3) (Nat.le_refl w7.heap.size) (World.alloc_heap_new w7 _))
      have LY8 := Lib.hid (LY7.out.below (bnew w7 (.cells #[] 3)))
      clear LY7
      go_wp2_with (first
        | (at_builtin; refine app_ints _ rfl _ _ rfl w7.heap.size _ _ _ rfl HO1.out P7 c7 z rfl LZ9.out.1 HZ7.out (by omega) HB1.out.size ?_; intro v2 w9 hown2 hg2; have HB9 := Lib.hid (HB1.out.grown hg2 HB1.out.size (fun k e => (HO1.out.lt k e).1)); have HO2 := Lib.hid hown2; clear hown2 hg2)
        | (at_builtin; refine app_ints _ rfl _ _ rfl w7.heap.size _ 0 [] rfl HE0.out P6 c6 y rfl LY8.out.1 HZ6.out (by omega) (by simp) ?_; intro v1 w8 hown1 hg1; have HB1 := Lib.hid ((bnew w7 (.cells #[] 3)).grown hg1 (by simp) (fun k e => (HE0.out.lt k e).1)); have LZ9 := Lib.hid (LZ.out.below HB1.out); have HO1 := Lib.hid hown1; clear hown1 hg1))
      have hrow : w9.ownsRow w7.heap.size 3 1 v2 XL.length (cellsI XL) := by
        have h := HO2.out
        rw [Nat.zero_add, List.nil_append] at h
        have e : cellsI y ++ cellsI z = cellsI XL := by rw [← HXL.out]; unfold cellsI; rw [List.map_append]
        rw [e, ← List.length_append, HXL.out] at h
        exact h
      obtain ⟨A8, c8, rfl⟩ := owns_form hrow
      have HI := Lib.hid (Ints_any P5 A8 c5 c8 XL w9 (by omega) (LX7.out.below HB9.out).1 (lat_of hrow).1)
      have H9 := Lib.hid (H7.out.below HB9.out)
      clear hrow HO2 HO1
      refine HI.out.mono ?_
      rintro e w10 ⟨rfl, hb⟩
      have H10 := Lib.hid (H9.out.below hb)
      clear hb
      go_wp2_with fail
      refine (alike_any H10.out.a.ob H10.out.b.ob).mono ?_
      rintro e w11 ⟨rfl, hb⟩
      have HF := Lib.hid (btr (btr HB2.out H10.out.a.bel (Nat.le_refl _)) hb (Nat.le_refl _))
      clear hb
      go_wp2_with fail
      refine (HAL.out _).mono ?_
      rintro e w12 ⟨rfl, hb⟩
      have HF2 := Lib.hid (btr HF.out hb (Nat.le_refl _))
      clear hb
      go_wp2_with fail
      go_ret
      exact ⟨rfl, HF2.out⟩

end Go.Proofs.Ytjacbkaeploabaa
