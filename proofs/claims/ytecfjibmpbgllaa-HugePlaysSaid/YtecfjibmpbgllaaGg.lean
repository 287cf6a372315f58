/- The reference's tracker: the huge pages in the order of the plan. -/
import Derived.Test.YtecfjibmpbgllaaGf
import Derived.Deep.Upon
namespace Go.Proofs.Ytecfjibmpbgllaa
open Go.RowKit

theorem tw_next {p : Nat → Bool} : ∀ {l : List Nat} {j x : Nat}, j ≤ (l.takeWhile p).length → l[j]? = some x → (p x = true → j + 1 ≤ (l.takeWhile p).length) ∧ (p x = false → (l.takeWhile p).length = j)
  | [], j, x, _, hx => by simp at hx
  | y :: l, 0, x, _, hx => by
    obtain rfl : y = x := by simpa using hx
    cases hp : p y with
    | true => exact ⟨fun _ => by rw [List.takeWhile_cons_of_pos hp, List.length_cons]; omega, (fun h => by cases h)⟩
    | false => exact ⟨(fun h => by cases h), fun _ => by rw [List.takeWhile_cons_of_neg (by rw [hp]; decide)]; rfl⟩
  | y :: l, j + 1, x, h, hx => by
    cases hp : p y with
    | true =>
      rw [List.takeWhile_cons_of_pos hp, List.length_cons] at h ⊢
      have := tw_next (p := p) (l := l) (j := j) (x := x) (by omega) (by simpa using hx)
      exact ⟨fun q => by have := this.1 q; omega, fun q => by have := this.2 q; omega⟩
    | false =>
      rw [List.takeWhile_cons_of_neg (by rw [hp]; decide)] at h
      simp at h
theorem tw_len {p : Nat → Bool} (l : List Nat) : (l.takeWhile p).length ≤ l.length := (List.takeWhile_sublist p).length_le
theorem tw_take {p : Nat → Bool} : ∀ l : List Nat, l.take (l.takeWhile p).length = l.takeWhile p
  | [] => rfl
  | y :: l => by
    cases hp : p y with
    | true => rw [List.takeWhile_cons_of_pos hp, List.length_cons, List.take_succ_cons, tw_take l]
    | false => rw [List.takeWhile_cons_of_neg (by rw [hp]; decide)]; rfl
theorem tw_drop {p : Nat → Bool} : ∀ l : List Nat, l.drop (l.takeWhile p).length = l.dropWhile p
  | [] => rfl
  | y :: l => by
    cases hp : p y with
    | true => rw [List.takeWhile_cons_of_pos hp, List.length_cons, List.drop_succ_cons, tw_drop l, List.dropWhile_cons_of_pos hp]
    | false => rw [List.takeWhile_cons_of_neg (by rw [hp]; decide), List.dropWhile_cons_of_neg (by rw [hp]; decide)]; rfl

theorem ordN_lt (S : Nat → Nat) {n : Nat} (hn : n ≤ 64) : ∀ x ∈ ordN S n, x < n := fun x hx => ((ordN_ok S n hn).mem x).1 hx |>.1
def bef (S : Nat → Nat) (k : Nat) : Nat → Bool := fun x => decide (key S x < key S k)
def posN (S : Nat → Nat) (k : Nat) (l : List Nat) : Nat := (l.takeWhile (bef S k)).length
theorem posN_le (S : Nat → Nat) (k : Nat) (l : List Nat) : posN S k l ≤ l.length := tw_len l
theorem ins_pos (S : Nat → Nat) (k : Nat) (l : List Nat) : ins S k l = l.take (posN S k l) ++ k :: l.drop (posN S k l) := by
  unfold posN
  rw [tw_take, tw_drop]
  rfl
theorem natC_len (l : List Nat) : (natC l).length = l.length := by simp [natC]
theorem natC_at {l : List Nat} {j x : Nat} (h : l[j]? = some x) : (natC l)[j]? = some (.int .i64 (x : Int)) := by simp [natC, h]
theorem natC_ins (S : Nat → Nat) (k j : Nat) (l : List Nat) (h : posN S k l = j) : natC (ins S k l) = (natC l).take j ++ [.int .i64 (k : Int)] ++ (natC l).drop j := by
  rw [ins_pos, h]
  simp [natC]
theorem natC_one {l : List Nat} : ∀ u ∈ natC l, u.oneCell' = true := fun u hu => by
  obtain ⟨x, _, rfl⟩ := List.mem_map.1 hu
  rfl
theorem ins_len (S : Nat → Nat) (k : Nat) (l : List Nat) : (ins S k l).length = l.length + 1 := by
  rw [ins_pos, List.length_append, List.length_cons, List.length_take, List.length_drop]
  have := posN_le S k l
  omega
theorem cnt_zero {S : Nat → Nat} {s a k : Nat} : cnt S s a k = 0 ↔ anyS S s a k = false := by
  have := cnt_pos S s a k
  cases h : anyS S s a k with
  | true => rw [h] at this; simp only [iff_true] at this; simp; omega
  | false => rw [h] at this; simp only [Bool.false_eq_true, iff_false] at this; simp; omega
theorem owns_cap {W : World} {base : Nat} {e : TypeId} {size g n cap : Nat} {xs : List Value} (h : W.ownsRow base e size (.slice (some ⟨g, 0, none⟩) n cap) n xs) : n ≤ cap := by
  rcases h.2 with ⟨h0, _⟩ | ⟨g', cap', cur, hv, _, _, hc, _⟩
  · cases h0
  · cases hv
    exact hc
theorem news_take {W : World} {base : Nat} {g n cap j : Nat} {xs : List Value} (h : W.ownsRow base 3 1 (.slice (some ⟨g, 0, none⟩) n cap) n xs) : ∀ i u, (xs.take j)[i]? = some u → W.cell? ((⟨g, 0, none⟩ : Addr).add i) = some u := fun i u hu => by
  rw [List.getElem?_take] at hu
  split at hu
  · have e1 : (⟨g, 0, none⟩ : Addr).add i = ⟨g, i, none⟩ := by simp [Addr.add]; omega
    rw [e1]
    exact (owns_cell h hu).1
  · cases hu
theorem news_drop {W : World} {base : Nat} {g n cap j : Nat} {xs : List Value} (h : W.ownsRow base 3 1 (.slice (some ⟨g, 0, none⟩) n cap) n xs) : ∀ i u, (xs.drop j)[i]? = some u → W.cell? ((⟨g, j, none⟩ : Addr).add i) = some u := fun i u hu => by
  rw [List.getElem?_drop] at hu
  have e1 : (⟨g, j, none⟩ : Addr).add i = ⟨g, j + i, none⟩ := by simp [Addr.add]
  rw [e1]
  exact (owns_cell h hu).1

/-- Nothing appended. -/
theorem append_none {ops : Array Oper} {rest : List Oper} {o : Oper} {a : Act} {Q : Exit → Act → World → Prop} {w : World} (hgd : o.guard = none) (s x : Operand) (ho : o.op = .call { callee := .builtin .append, args := #[s, x], argTypes := #[47, 47] })
    (i : TypeInfo) (hi : Try.prog.info? 3 = some i) (base : Option Addr) (n c : Nat) (hle : n ≤ c) (hs : a.eval s = .slice base n c) (hx : a.eval x = .slice none 0 0)
    (h : wpList Try.prog ops Q rest (a.put o.dst (.slice base n c)) w) : wpList Try.prog ops Q (o :: rest) a w := by
  refine wpList_plain hgd fun K hK => ?_
  have hrun := run_append_nothing (P := Try.prog) w 47 47 o.type 3 i Try.underlying47 hi base n c hle (.slice none 0 0) (Src.ofNil w Try.underlying47 0)
  unfold Oper.wp
  simp [execOp, ho, resolve, invoke, builtin, hs, hx, hrun, Result.andThen]
  exact hK _ _ h

set_option maxRecDepth 100000 in
set_option maxHeartbeats 4000000 in
theorem rOrdered_any {O : Nat → Prop} {B : Nat} {m : Mo} {w : World} (h : Rf w O B m) :
    Calls Try.prog 67 #[.pointer (some ⟨B, 0, none⟩)] w (NatsPost w (ordN m.S m.h)) := by
  have HM := Lib.hid (rmade_any h)
  have HCB := Lib.hid (fun (w' : World) (hb : Below w.heap.size w w') => show ∃ A cap, w'.cell? ⟨B, 0, none⟩ = some (.slice (some ⟨A, 0, none⟩) (16 * m.h) cap) from by obtain ⟨A, cap, h'⟩ := h.below hb; exact ⟨A, cap, h'.c0⟩)
  have h2 := h.wf.h2
  have HOF := Lib.hid (fun (w' : World) (hb : Below w.heap.size w w') (k : Nat) hk => rof_any k 2 (h.below hb) hk)
  have HBE := Lib.hid (fun (w' : World) (hb : Below w.heap.size w w') (x k : Nat) hx hk => rBefore_any x k (h.below hb) hx hk)
  obtain ⟨i0, hi, hz0, hz1, hz2⟩ := info_parts Try.info3
  have HI := Lib.hid (And.intro hi (And.intro hz0 (And.intro hz1 hz2)))
  clear h hi hz0 hz1 hz2
  obtain ⟨n, hn⟩ : ∃ n, n = m.h := ⟨_, rfl⟩
  rw [← hn] at h2 HCB HOF HBE ⊢
  clear hn
  generalize m.S = S at *
  go_enter Try.func67, Try.ntmps67
  go_wp2_with (first | (go_at_call 41; refine HM.out.mono ?_; rintro e w1 ⟨rfl, rfl⟩))
  go_loopw [3, 4] (fun v i wr => ∃ k : Nat, k ≤ n ∧ i = .int .i64 k ∧ wr.ownsRow w.heap.size 3 1 v (ordN S k).length (natC (ordN S k)) ∧ Below w.heap.size w wr ∧ ((ordN S k).length = 0 → v = .slice none 0 0)) (fun _ i _ => n - (intOf i).toNat)
  case atStart => exact ⟨0, by omega, rfl, ⟨rfl, .inl ⟨rfl, rfl⟩⟩, Below.refl _ _, fun _ => rfl⟩
  case round =>
    obtain ⟨k, hk, rfl, ho, hb, hnil⟩ := hrel
    have hlen := ordN_len S k
    have HO := Lib.hid ho
    have HB := Lib.hid hb
    have HNIL := Lib.hid hnil
    obtain ⟨Ax, cx, rfl⟩ := owns_form ho
    obtain ⟨Ab, cb, c0⟩ := HCB.out wr hb
    have hq : ((16 * n : Nat) : Int) / 16 = (n : Int) := by omega
    have hq' : ((16 * n : Nat) : Int).tdiv 16 = (n : Int) := by rw [Int.tdiv_eq_ediv_of_nonneg (by omega)]; exact hq
    generalize 16 * n = n16 at c0 hq hq' HCB
    by_cases hlt : k < n
    · have HF := Lib.hid (HOF.out wr hb k hlt)
      have HBK := Lib.hid (fun x hx => HBE.out wr hb x k hx hlt)
      clear ho hb hnil
      by_cases he : anyS S 2 (16 * k) 16 = true
      · have HS := Lib.hid (show ordN S (k + 1) = ins S k (ordN S k) from if_pos he)
        have q : ((cnt S 2 (16 * k) 16 : Nat) : Int) ≠ 0 := fun e => by have := cnt_zero.1 (show cnt S 2 (16 * k) 16 = 0 by omega); rw [he] at this; cases this
        have q' : (((cnt S 2 (16 * k) 16 : Nat) : Int) == 0) = false := by simpa using q
        generalize cnt S 2 (16 * k) 16 = x at HF q q'
        have HLT := Lib.hid (ordN_lt S (n := k) (by omega))
        clear he q
        generalize hL : ordN S k = L at *
        obtain ⟨ll, hll⟩ : ∃ ll, L.length = ll := ⟨_, rfl⟩
        have HLL := Lib.hid hll
        rw [hll] at hlen HO HNIL ⊢
        clear hL hll
        go_wp2_with fail
        refine HF.out.mono ?_
        rintro e _ ⟨rfl, rfl⟩
        cases ll with
        | zero =>
          have hv := HNIL.out rfl
          cases hv
          have HLE := Lib.hid (List.length_eq_zero_iff.1 HLL.out)
          obtain ⟨hi, hz0, hz1, hz2⟩ := HI.out
          go_wp2_with fail
          go_loopw [5] (fun a wr' => a = .int .i64 0 ∧ wr' = wr) (fun _ _ => 0)
          case atStart => exact ⟨rfl, rfl⟩
          case round =>
            obtain ⟨rfl, rfl⟩ := hrel
            go_wp2_with (at_builtin; first
              | (refine append_none rfl _ _ rfl i0 hi none 0 0 (Nat.le_refl _) rfl rfl ?_)
              | (refine append_none rfl _ _ rfl i0 hi A2 1 c2 HC2.out rfl rfl ?_)
              | (refine wpList_append_own _ rfl _ _ 47 rfl wr.heap.size 3 i0 (.int .i64 0) 1 8 Try.underlying47 hi hz0 hz1 hz2 rfl (by decide) (.slice none 0 0) 0 [] rfl ⟨rfl, .inl ⟨rfl, rfl⟩⟩ ⟨wr.heap.size, 0, none⟩ 1 1 [.int .i64 k] rfl rfl (cells1_new wr _ _) (by simp [Value.oneCell']) (by unfold maxLen; omega) (by omega) (by simp) ?_; intro v2 w2 hown2 hgrow2 _; obtain ⟨g2, c2, rfl, _, _⟩ := owns_some (k := 0) hown2; have HC2 := Lib.hid (owns_cap hown2); obtain ⟨A2, hA2⟩ : ∃ A2 : Option Addr, A2 = some ⟨g2, 0, none⟩ := ⟨_, rfl⟩; rw [← hA2] at hown2 ⊢; clear hA2; have hb2 : Below wr.heap.size wr w2 := (bnew _ _).grown hgrow2 (by simp) (fun k e => by simp [Value.ownBlock] at e); have HB2 := Lib.hid hb2; have HO2 := Lib.hid hown2; clear hown2 hgrow2 hb2))
            go_roundw
            case rel => exact ⟨k + 1, by omega, by go_num, by rw [HS.out, ins_len, HLL.out, HLE.out]; exact owns_base HO2.out HB.out.size, btr HB.out HB2.out (Nat.le_refl _), fun h => by rw [HS.out, ins_len] at h; omega⟩
            case measure => simp [intOf]; omega
        | succ l' =>
          go_wp2_with fail
          obtain ⟨g, cap', hv, hg1, hg2⟩ := owns_some (k := l') HO.out
          cases hv
          have HN1 := Lib.hid (fun j => news_take (j := j) HO.out)
          have HN2 := Lib.hid (fun j => news_drop (j := j) HO.out)
          go_loopw [5] (fun a wr' => ∃ j : Nat, j ≤ posN S k L ∧ a = .int .i64 j ∧ wr' = wr) (fun a _ => (l' + 1) - (intOf a).toNat)
          case atStart => exact ⟨0, by omega, rfl, rfl⟩
          case round =>
            obtain ⟨j, hj, rfl, rfl⟩ := hrel
            have hpl := posN_le S k L
            rw [HLL.out] at hpl
            by_cases hjl : j < l' + 1
            · obtain ⟨x, hx⟩ : ∃ x, L[j]? = some x := ⟨_, List.getElem?_eq_getElem (by have := HLL.out; omega)⟩
              have hc := (owns_cell HO.out (natC_at hx)).1
              have HBX := Lib.hid (HBK.out x (by have := HLT.out x (List.mem_of_getElem? hx); omega))
              have HTW := Lib.hid (tw_next (p := bef S k) hj hx)
              clear hx
              by_cases hbf : key S x < key S k
              · have HJ := Lib.hid (HTW.out.1 (decide_eq_true hbf))
                rw [decide_eq_true hbf] at HBX
                clear hbf hj
                go_wp2_with fail
                refine HBX.out.mono ?_
                rintro e _ ⟨rfl, rfl⟩
                go_wp2_with fail
                go_roundw
                case rel => exact ⟨j + 1, HJ.out, by go_num, trivial⟩
                case measure => simp [intOf]; omega
              · have hpj : posN S k L = j := HTW.out.2 (decide_eq_false hbf)
                rw [decide_eq_false hbf] at HBX
                clear hbf
                go_wp2_with fail
                refine HBX.out.mono ?_
                rintro e _ ⟨rfl, rfl⟩
                clear hc
                have HAP := Lib.hid hpj
                obtain ⟨hi, hz0, hz1, hz2⟩ := HI.out
                have hcap := owns_cap HO.out
                have hj0 : (0 : Int) ≤ (j : Int) := by omega
                have hj1 : (j : Int) ≤ (cx : Int) := by omega
                have hj2 : j ≤ cx := by omega
                have hj3 : j ≤ (l' + 1) := by omega
                have hj4 : (j : Int) ≤ ((l' + 1 : Nat) : Int) := by omega
                have hjcx0 : j < cx := by omega
                have hjcx1 : ¬ cx ≤ j := by omega
                have hjcx2 : ¬ cx - j = 0 := by omega
                have hjcx3 : cx ≠ j := by omega
                have hjcx4 : j ≠ cx := by omega
                clear hpj c0 hj
                go_wp2_with (at_builtin; first | (refine wpList_append_own _ rfl _ _ 47 rfl wr.heap.size 3 i0 (.int .i64 0) 1 8 Try.underlying47 hi hz0 hz1 hz2 rfl (by decide) (.slice none 0 0) 0 [] rfl ⟨rfl, .inl ⟨rfl, rfl⟩⟩ ⟨g, 0, none⟩ j cx ((natC L).take j) rfl (by rw [List.length_take, natC_len]; have := HLL.out; omega) (HN1.out j) (fun u hu => natC_one u (List.mem_of_mem_take hu)) (by unfold maxLen; omega) (by omega) (Nat.le_refl _) ?_; intro v1 w1 hown1 hgrow1 _; rw [Nat.zero_add, List.nil_append] at hown1; obtain ⟨A1, c1, rfl⟩ := owns_form hown1; have hb1 : Below wr.heap.size wr w1 := (Below.refl _ _).grown hgrow1 (Nat.le_refl _) (fun k e => by simp [Value.ownBlock] at e); have HB1 := Lib.hid hb1; have HO1 := Lib.hid hown1; clear hown1 hgrow1 hb1) | (refine wpList_append_own _ rfl _ _ 47 rfl wr.heap.size 3 i0 (.int .i64 0) 1 8 Try.underlying47 hi hz0 hz1 hz2 rfl (by decide) (.slice A1 j c1) _ _ rfl (HO1.out.alloc _) ⟨w1.heap.size, 0, none⟩ 1 1 [.int .i64 k] rfl rfl (cells1_new w1 _ _) (by simp [Value.oneCell']) (by unfold maxLen; omega) (by omega) (by have := HB1.out.size; simp; omega) ?_; intro v2 w2 hown2 hgrow2 _; obtain ⟨A2, c2, rfl⟩ := owns_form hown2; have hb2 : Below wr.heap.size wr w2 := (HB1.out.alloc HB1.out.size _).grown hgrow2 (by have := HB1.out.size; simp; omega) (fun k e => (HO1.out.lt k e).1); have HB2 := Lib.hid hb2; have HO2 := Lib.hid hown2; have HN3 := Lib.hid (news_drop (j := j) (owns_below HO.out hb2)); clear hown2 hgrow2 hb2) | (refine wpList_append_own _ rfl _ _ 47 rfl wr.heap.size 3 i0 (.int .i64 0) 1 8 Try.underlying47 hi hz0 hz1 hz2 rfl (by decide) (.slice A2 (j + 1) c2) _ _ rfl HO2.out ⟨g, j, none⟩ ((l' + 1) - j) (cx - j) ((natC L).drop j) (by first | rfl | simp) (by rw [List.length_drop, natC_len]; have := HLL.out; omega) HN3.out (fun u hu => natC_one u (List.mem_of_mem_drop hu)) (by unfold maxLen; omega) (by omega) (by have := HB2.out.size; omega) ?_; intro v3 w3 hown3 hgrow3 _; obtain ⟨A3, c3, rfl⟩ := owns_form hown3; have hb3 : Below wr.heap.size wr w3 := HB2.out.grown hgrow3 HB2.out.size (fun k e => (HO2.out.lt k e).1); have HB3 := Lib.hid hb3; have HO3 := Lib.hid hown3; clear hown3 hgrow3 hb3))
                go_roundw
                case rel => exact ⟨k + 1, by omega, by go_num, by rw [HS.out, ins_len, HLL.out, natC_ins S k j L HAP.out]; have := HO3.out; rw [show j + 1 + ((l' + 1) - j) = (l' + 1) + 1 by omega] at this; try rw [show j + 1 + ((l' + 1) - j) = (l' + 1) + 1 by omega]; exact owns_base this HB.out.size, btr HB.out HB3.out (Nat.le_refl _), fun h => by rw [HS.out, ins_len] at h; omega⟩
                case measure => simp [intOf]; omega
            · have hpj : posN S k L = j := by omega
              have hcap0 := owns_cap HO.out
              by_cases hcj : cx = j
              · have HCX := Lib.hid (show cx = l' + 1 by omega)
                subst hcj
                have HAP := Lib.hid hpj
                obtain ⟨hi, hz0, hz1, hz2⟩ := HI.out
                have hcap := owns_cap HO.out
                have hj0 : (0 : Int) ≤ (cx : Int) := by omega
                have hj1 : (cx : Int) ≤ (cx : Int) := by omega
                have hj2 : cx ≤ cx := by omega
                have hj3 : cx ≤ (l' + 1) := by omega
                have hj4 : (cx : Int) ≤ ((l' + 1 : Nat) : Int) := by omega
                clear hpj c0 hj hj1
                go_wp2_with (at_builtin; first | (refine wpList_append_own _ rfl _ _ 47 rfl wr.heap.size 3 i0 (.int .i64 0) 1 8 Try.underlying47 hi hz0 hz1 hz2 rfl (by decide) (.slice none 0 0) 0 [] rfl ⟨rfl, .inl ⟨rfl, rfl⟩⟩ ⟨g, 0, none⟩ cx cx ((natC L).take cx) rfl (by rw [List.length_take, natC_len]; have := HLL.out; omega) (HN1.out cx) (fun u hu => natC_one u (List.mem_of_mem_take hu)) (by unfold maxLen; omega) (by omega) (Nat.le_refl _) ?_; intro v1 w1 hown1 hgrow1 _; rw [Nat.zero_add, List.nil_append] at hown1; obtain ⟨A1, c1, rfl⟩ := owns_form hown1; have hb1 : Below wr.heap.size wr w1 := (Below.refl _ _).grown hgrow1 (Nat.le_refl _) (fun k e => by simp [Value.ownBlock] at e); have HB1 := Lib.hid hb1; have HO1 := Lib.hid hown1; clear hown1 hgrow1 hb1) | (refine wpList_append_own _ rfl _ _ 47 rfl wr.heap.size 3 i0 (.int .i64 0) 1 8 Try.underlying47 hi hz0 hz1 hz2 rfl (by decide) (.slice A1 cx c1) _ _ rfl (HO1.out.alloc _) ⟨w1.heap.size, 0, none⟩ 1 1 [.int .i64 k] rfl rfl (cells1_new w1 _ _) (by simp [Value.oneCell']) (by unfold maxLen; omega) (by omega) (by have := HB1.out.size; simp; omega) ?_; intro v2 w2 hown2 hgrow2 _; obtain ⟨A2, c2, rfl⟩ := owns_form hown2; have hb2 : Below wr.heap.size wr w2 := (HB1.out.alloc HB1.out.size _).grown hgrow2 (by have := HB1.out.size; simp; omega) (fun k e => (HO1.out.lt k e).1); have HB2 := Lib.hid hb2; have HO2 := Lib.hid hown2; have HN3 := Lib.hid (news_drop (j := cx) (owns_below HO.out hb2)); clear hown2 hgrow2 hb2) | (go_loud (refine wpList_append_own _ rfl _ _ 47 rfl wr.heap.size 3 i0 (.int .i64 0) 1 8 Try.underlying47 hi hz0 hz1 hz2 rfl (by decide) (.slice A2 (cx + 1) c2) _ _ rfl HO2.out ⟨g, 0, none⟩ ((l' + 1) - cx) (cx - cx) ((natC L).drop cx) (by first | rfl | (rw [Nat.sub_self]; rfl) | (simp; rfl) | (rw [HCX.out]; simp; rfl)) (by rw [List.length_drop, natC_len]; have := HLL.out; omega) (fun i u hu => by have := (List.getElem?_eq_some_iff.1 hu).1; rw [List.length_drop, natC_len] at this; have := HLL.out; omega) (fun u hu => natC_one u (List.mem_of_mem_drop hu)) (by unfold maxLen; omega) (by omega) (by have := HB2.out.size; omega) ?_); intro v3 w3 hown3 hgrow3 _; obtain ⟨A3, c3, rfl⟩ := owns_form hown3; have hb3 : Below wr.heap.size wr w3 := HB2.out.grown hgrow3 HB2.out.size (fun k e => (HO2.out.lt k e).1); have HB3 := Lib.hid hb3; have HO3 := Lib.hid hown3; clear hown3 hgrow3 hb3))
                go_roundw
                case rel => exact ⟨k + 1, by omega, by go_num, by rw [HS.out, ins_len, HLL.out, natC_ins S k cx L HAP.out]; have := HO3.out; rw [show cx + 1 + ((l' + 1) - cx) = (l' + 1) + 1 by have := HCX.out; omega] at this; rw [show cx + 1 = (l' + 1) + 1 by have := HCX.out; omega]; exact owns_base this HB.out.size, btr HB.out HB3.out (Nat.le_refl _), fun h => by rw [HS.out, ins_len] at h; omega⟩
                case measure => simp [intOf]; omega
              · have hjcx : j < cx := by omega
                have HAP := Lib.hid hpj
                obtain ⟨hi, hz0, hz1, hz2⟩ := HI.out
                have hcap := owns_cap HO.out
                have hj0 : (0 : Int) ≤ (j : Int) := by omega
                have hj1 : (j : Int) ≤ (cx : Int) := by omega
                have hj2 : j ≤ cx := by omega
                have hj3 : j ≤ (l' + 1) := by omega
                have hj4 : (j : Int) ≤ ((l' + 1 : Nat) : Int) := by omega
                have hjcx0 : j < cx := by omega
                have hjcx1 : ¬ cx ≤ j := by omega
                have hjcx2 : ¬ cx - j = 0 := by omega
                have hjcx3 : cx ≠ j := by omega
                have hjcx4 : j ≠ cx := by omega
                clear hpj c0 hj
                go_wp2_with (at_builtin; first | (refine wpList_append_own _ rfl _ _ 47 rfl wr.heap.size 3 i0 (.int .i64 0) 1 8 Try.underlying47 hi hz0 hz1 hz2 rfl (by decide) (.slice none 0 0) 0 [] rfl ⟨rfl, .inl ⟨rfl, rfl⟩⟩ ⟨g, 0, none⟩ j cx ((natC L).take j) rfl (by rw [List.length_take, natC_len]; have := HLL.out; omega) (HN1.out j) (fun u hu => natC_one u (List.mem_of_mem_take hu)) (by unfold maxLen; omega) (by omega) (Nat.le_refl _) ?_; intro v1 w1 hown1 hgrow1 _; rw [Nat.zero_add, List.nil_append] at hown1; obtain ⟨A1, c1, rfl⟩ := owns_form hown1; have hb1 : Below wr.heap.size wr w1 := (Below.refl _ _).grown hgrow1 (Nat.le_refl _) (fun k e => by simp [Value.ownBlock] at e); have HB1 := Lib.hid hb1; have HO1 := Lib.hid hown1; clear hown1 hgrow1 hb1) | (refine wpList_append_own _ rfl _ _ 47 rfl wr.heap.size 3 i0 (.int .i64 0) 1 8 Try.underlying47 hi hz0 hz1 hz2 rfl (by decide) (.slice A1 j c1) _ _ rfl (HO1.out.alloc _) ⟨w1.heap.size, 0, none⟩ 1 1 [.int .i64 k] rfl rfl (cells1_new w1 _ _) (by simp [Value.oneCell']) (by unfold maxLen; omega) (by omega) (by have := HB1.out.size; simp; omega) ?_; intro v2 w2 hown2 hgrow2 _; obtain ⟨A2, c2, rfl⟩ := owns_form hown2; have hb2 : Below wr.heap.size wr w2 := (HB1.out.alloc HB1.out.size _).grown hgrow2 (by have := HB1.out.size; simp; omega) (fun k e => (HO1.out.lt k e).1); have HB2 := Lib.hid hb2; have HO2 := Lib.hid hown2; have HN3 := Lib.hid (news_drop (j := j) (owns_below HO.out hb2)); clear hown2 hgrow2 hb2) | (refine wpList_append_own _ rfl _ _ 47 rfl wr.heap.size 3 i0 (.int .i64 0) 1 8 Try.underlying47 hi hz0 hz1 hz2 rfl (by decide) (.slice A2 (j + 1) c2) _ _ rfl HO2.out ⟨g, j, none⟩ ((l' + 1) - j) (cx - j) ((natC L).drop j) (by first | rfl | simp) (by rw [List.length_drop, natC_len]; have := HLL.out; omega) HN3.out (fun u hu => natC_one u (List.mem_of_mem_drop hu)) (by unfold maxLen; omega) (by omega) (by have := HB2.out.size; omega) ?_; intro v3 w3 hown3 hgrow3 _; obtain ⟨A3, c3, rfl⟩ := owns_form hown3; have hb3 : Below wr.heap.size wr w3 := HB2.out.grown hgrow3 HB2.out.size (fun k e => (HO2.out.lt k e).1); have HB3 := Lib.hid hb3; have HO3 := Lib.hid hown3; clear hown3 hgrow3 hb3))
                go_roundw
                case rel => exact ⟨k + 1, by omega, by go_num, by rw [HS.out, ins_len, HLL.out, natC_ins S k j L HAP.out]; have := HO3.out; rw [show j + 1 + ((l' + 1) - j) = (l' + 1) + 1 by omega] at this; try rw [show j + 1 + ((l' + 1) - j) = (l' + 1) + 1 by omega]; exact owns_base this HB.out.size, btr HB.out HB3.out (Nat.le_refl _), fun h => by rw [HS.out, ins_len] at h; omega⟩
                case measure => simp [intOf]; omega
      · have HS := Lib.hid (show ordN S (k + 1) = ordN S k from if_neg he)
        have q : cnt S 2 (16 * k) 16 = 0 := cnt_zero.2 (by simpa using he)
        rw [q] at HF
        clear he q
        go_wp2_with fail
        refine HF.out.mono ?_
        rintro e _ ⟨rfl, rfl⟩
        go_wp2_with fail
        go_roundw
        case rel => exact ⟨k + 1, by omega, by go_num, by rw [HS.out]; exact HO.out, HB.out, by rw [HS.out]; exact HNIL.out⟩
        case measure => simp [intOf]; omega
    · clear ho hb hnil
      obtain rfl : k = n := by omega
      go_wp2_with fail
      go_ret
      obtain ⟨A, c, e, hA⟩ := nats_of_owns HO.out
      exact ⟨A, c, by rw [← e]; rfl, hA, HB.out⟩

end Go.Proofs.Ytecfjibmpbgllaa
