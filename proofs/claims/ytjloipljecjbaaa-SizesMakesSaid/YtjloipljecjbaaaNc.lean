/- The document's own table: what its Make returns, and what Same says of two tables that are one. -/
import Derived.Test.YtjloipljecjbaaaNb
import Derived.Test.YtjloipljecjbaaaQa
import Derived.Test.YtjloipljecjbaaaAl
import Derived.Laws.StructEq
namespace Go.Proofs.Ytjloipljecjbaaa
open Go.RowKit

theorem neq_class (a b c : Int) (w : World) : (binOp .neq 24 (.agg #[.int .i64 a, .int .i64 b, .int .i64 c]) (.agg #[.int .i64 a, .int .i64 b, .int .i64 c])).run Try.prog w = .ok (.bool false) w := by
  have u3 := Try.underlying3
  have hS : Try.prog.underlying 24 = some (.struct (Try.prog.fieldsOf 24)) := by kernel_rfl
  have hp : Try.prog.stoodInHeld 24 = false := by kernel_rfl
  rw [run_neq_struct, show (10000 : Nat) = 9999 + 1 from rfl, run_equalIn_agg w 9999 24 _ _ hS hp]
  simp only [Program.fieldsOf, Try.underlying24]
  go_simp

set_option maxRecDepth 100000 in
set_option maxHeartbeats 1000000 in
theorem Same_any (A A' : Option Addr) (c c' : Nat) (t : List Cl) (w : World) (hl : t.length ≤ 9223372036854775807) (hT : TabAt w w.heap.size A t) (hT' : TabAt w w.heap.size A' t) :
    Calls Try.prog 24 #[.slice A t.length c, .slice A' t.length c'] w fun e w' => e = .returned (.bool true) ∧ Below w.heap.size w w' := by
  obtain ⟨n, hn⟩ : ∃ n : Nat, n = t.length := ⟨_, rfl⟩
  have HN := Lib.hid hn
  have HT := Lib.hid hT
  have HT' := Lib.hid hT'
  have hneq := neq_class
  rw [← hn] at hl ⊢
  clear hn hT hT'
  go_enter Try.func24, Try.ntmps24
  go_wp2
  go_loopw [5] (fun i wr => ∃ k : Nat, k ≤ n ∧ i = .int .i64 k ∧ Below w.heap.size w wr) (fun i _ => n - (intOf i).toNat)
  case atStart => exact ⟨0, by omega, rfl, Below.refl _ _⟩
  case round =>
    obtain ⟨k, hk, rfl, hB⟩ := hrel
    by_cases hlt : k < n
    · have l0 : k < t.length := by have := HN.out; omega
      obtain ⟨⟨cs, cp, cb⟩, hc⟩ : ∃ c, t[k]? = some c := ⟨_, List.getElem?_eq_getElem l0⟩
      obtain ⟨bk, o, rfl, hab, g1, g2, g3⟩ := (HT.out.below hB) k _ hc
      obtain ⟨bk', o', rfl, hab', f1, f2, f3⟩ := (HT'.out.below hB) k _ hc
      dsimp only at g1 g2 g3 f1 f2 f3
      clear hc
      go_wp2_with fail
      go_quiet (fail)
      go_wp2_with fail
      go_roundw
      case rel => exact ⟨k + 1, by omega, by go_num, belowN hB _⟩
      case measure => simp [intOf]; omega
    · go_wp2_with fail
      go_ret
      exact ⟨rfl, hB⟩

set_option maxRecDepth 100000 in
set_option maxHeartbeats 400000 in
theorem RMake_no (waste : Int) (h : waste < 2 ∨ 16 < waste) (w : World) :
    Calls Try.prog 23 #[.int .i64 waste] w fun e w' => e = .returned (.tuple #[.slice none 0 0, .int .i64 1]) ∧ w = w' := by
  rcases h with h | h
  · go_enter Try.func23, Try.ntmps23
    go_wp2
    go_ret2
    exact ⟨rfl, rfl⟩
  · have h' : ¬ waste < 2 := by omega
    go_enter Try.func23, Try.ntmps23
    go_wp2
    go_ret2
    exact ⟨rfl, rfl⟩

theorem owns_base {W : World} {base base' : Nat} {e : TypeId} {size n : Nat} {v : Value} {xs : List Value} (h : W.ownsRow base e size v n xs) (hb : base' ≤ base) : W.ownsRow base' e size v n xs := by
  obtain ⟨h1, h2⟩ := h
  refine ⟨h1, ?_⟩
  rcases h2 with h0 | ⟨g, cap, cur, a, b, c⟩
  · exact .inl h0
  · exact .inr ⟨g, cap, cur, a, Nat.le_trans hb b, c⟩

def Loop1 (waste : Int) (w : World) (a i : Value) (wr : World) : Prop :=
  ∃ (pre : List Sz) (f : Nat) (s : Sz) (v : Int), i = .int .i64 v ∧ cands waste = pre ++ szL waste f s ∧ 512 ≤ s.val + 8 * f ∧ (v = s.val ∨ (512 ≤ v ∧ v ≤ 2000 ∧ s.val = 512)) ∧
    wr.ownsRow w.heap.size 24 3 a pre.length (cellsZ waste pre) ∧ Below w.heap.size w wr

set_option maxRecDepth 100000 in
set_option maxHeartbeats 2000000 in
theorem RMake_yes (waste : Int) (hw2 : 2 ≤ waste) (hw16 : waste ≤ 16) (w : World) :
    Calls Try.prog 23 #[.int .i64 waste] w fun e w' => ∃ v, e = .returned (.tuple #[v, .int .i64 0]) ∧ w'.ownsRow w.heap.size 24 3 v (mkZ waste (cands waste)).length (cellsZ waste (mkZ waste (cands waste))) ∧ Below w.heap.size w w' := by
  obtain ⟨i0, hi, hz0, hz1, hz2⟩ := info_parts Try.info24
  have hd1 : decide (waste < 2) = false := decide_eq_false (by omega)
  have hd2 : decide (16 < waste) = false := decide_eq_false (by omega)
  have hcl := cands_len waste
  go_enter Try.func23, Try.ntmps23
  go_wp2
  go_loopw [4, 5] (fun a i wr => Loop1 waste w a i wr) (fun _ i _ => (3000 - intOf i).toNat)
  case atStart => exact ⟨[], 63, Sz.first, 8, rfl, rfl, by decide, .inl rfl, World.ownsRow_nil _ _ _ _, Below.refl _ _⟩
  case round =>
    obtain ⟨pre, f, s, v, rfl, hx, hf, hv, hrow, hB⟩ := hrel
    by_cases hlt : v < 512
    · have hvs : v = s.val := by omega
      subst hvs
      obtain ⟨g, hg, hg2⟩ := szL_more waste f s hlt hf
      have hpl : pre.length < 64 := by
        have : (cands waste).length = pre.length + (szL waste f s).length := by rw [hx, List.length_append]
        rw [hg, List.length_cons] at this
        omega
      have hlo := s.lo
      have hge := gapI_ge s.val waste
      have hle := gapI_le s.val waste s.lo hw2
      have hnv := nxt_val waste s
      have HX := Lib.hid hx
      have HG := Lib.hid hg
      have HNV := Lib.hid hnv
      clear hx hg hnv hv
      obtain ⟨A, c, rfl⟩ := owns_form hrow
      go_wp2_with fail
      refine (class_any s.val waste _ hlo (by omega) hw2 hw16).mono ?_
      rintro e w2 ⟨rfl, hb2⟩
      have hr2 := hrow.kept (grown_of hb2 none) (by cases A <;> simp [Value.ownBlock])
      have hB2 := btr hB hb2 (Nat.le_refl _)
      go_wp2_with (at_builtin; refine wpList_append_own _ rfl _ _ 22 rfl w.heap.size 24 i0 (.agg #[.int .i64 0, .int .i64 0, .int .i64 0]) 3 24 Try.underlying22 hi hz0 hz1 hz2 rfl (by decide) _ _ _ rfl (hr2.alloc _) ⟨w2.heap.size, 0, none⟩ 1 1 [.int .i64 s.val, .int .i64 (spI s.val waste), .int .i64 (batI s.val)] rfl rfl (cells3_new w2 _ _ _ _) (by simp [Value.oneCell']) (by unfold maxLen; omega) (by omega) (by have := hB2.size; simp; omega) ?_; intro v' w3 hown' hgrow _; have hB3 : Below w.heap.size w w3 := (hB2.alloc hB2.size _).grown hgrow (by have := hB2.size; simp; omega) (fun k e => (hr2.lt k e).1))
      refine (step_any s.val waste _ hlo hlt hw2 hw16).mono ?_
      rintro e w4 ⟨rfl, rfl⟩
      go_wp2_with fail
      go_roundw
      case rel =>
        refine ⟨pre ++ [s], g, nxt waste s, s.val + gapI s.val waste, rfl, by rw [HX.out, HG.out]; simp, hg2, ?_, by rw [cellsZ_snoc, List.length_append]; exact hown', hB3⟩
        rw [HNV.out]
        by_cases h5 : s.val + gapI s.val waste ≤ 512
        · rw [if_pos h5]; exact .inl rfl
        · rw [if_neg h5]; exact .inr ⟨by omega, by omega, rfl⟩
      case measure => simp [intOf]; omega
    · have hs5 : s.val = 512 := by have := s.hi; omega
      have hend := szL_end waste f s (by omega)
      have hcd : cands waste = pre ++ [s] := by rw [hx, hend]
      have hpl : pre.length < 64 := by
        have : (cands waste).length = pre.length + 1 := by rw [hcd, List.length_append]; rfl
        omega
      have hcl5 := fun W => class_any 512 waste W (by omega) (by omega) hw2 hw16
      have HC5 := Lib.hid hcl5
      have HCD := Lib.hid hcd
      have HS5 := Lib.hid hs5
      clear hx hend hs5 hcd hcl5 hv hf
      obtain ⟨A, c, rfl⟩ := owns_form hrow
      go_wp2_with fail
      refine (HC5.out _).mono ?_
      rintro e w2 ⟨rfl, hb2⟩
      have hr2 := hrow.kept (grown_of hb2 none) (by cases A <;> simp [Value.ownBlock])
      have hB2 := btr hB hb2 (Nat.le_refl _)
      go_wp2_with (at_builtin; refine wpList_append_own _ rfl _ _ 22 rfl w.heap.size 24 i0 (.agg #[.int .i64 0, .int .i64 0, .int .i64 0]) 3 24 Try.underlying22 hi hz0 hz1 hz2 rfl (by decide) _ _ _ rfl (hr2.alloc _) ⟨w2.heap.size, 0, none⟩ 1 1 [.int .i64 512, .int .i64 (spI 512 waste), .int .i64 (batI 512)] rfl rfl (cells3_new w2 _ _ _ _) (by simp [Value.oneCell']) (by unfold maxLen; omega) (by omega) (by have := hB2.size; simp; omega) ?_; intro v' w3 hown' hgrow _; have hB3 : Below w.heap.size w w3 := (hB2.alloc hB2.size _).grown hgrow (by have := hB2.size; simp; omega) (fun k e => (hr2.lt k e).1); obtain ⟨g', cap', rfl⟩ := ownsRow_succ hown')
      have hall : w3.ownsRow w.heap.size 24 3 (.slice (some ⟨g', 0, none⟩) (cands waste).length cap') (cands waste).length (cellsZ waste (cands waste)) := by
        rw [HCD.out, List.length_append, cellsZ_snoc]
        have h512 := HS5.out
        have : cellsZ waste pre ++ [Value.int .i64 s.val, .int .i64 (spI s.val waste), .int .i64 (batI s.val)] = cellsZ waste pre ++ [Value.int .i64 512, .int .i64 (spI 512 waste), .int .i64 (batI 512)] := by rw [h512]
        rw [this]
        exact hown'
      obtain ⟨n, hn⟩ : ∃ n, n = (cands waste).length := ⟨_, rfl⟩
      have hpn : pre.length + 1 = n := by rw [hn, HCD.out, List.length_append]; rfl
      have hgl := (hall.lt g' rfl).2
      have HALL := Lib.hid hall
      have HN := Lib.hid hn
      have hn64 : n ≤ 64 := by omega
      rw [hpn]
      clear hn hall hown' hpn hgrow hr2 hrow HCD HS5 HC5
      go_loopw [6, 7] (fun a i wr => ∃ k : Nat, k ≤ n ∧ i = .int .i64 k ∧ wr.ownsRow w3.heap.size 24 3 a (outI waste (cands waste) k).length (cellsZ waste (outI waste (cands waste) k)) ∧ Below w3.heap.size w3 wr) (fun _ i _ => n - (intOf i).toNat)
      case atStart => exact ⟨0, by omega, rfl, World.ownsRow_nil _ _ _ _, Below.refl _ _⟩
      case round =>
        obtain ⟨k, hk, rfl, hrow, hBr⟩ := hrel
        have hz := hBr.size
        obtain ⟨A', c', rfl⟩ := owns_form hrow
        by_cases hlt : k < n
        · have hkl : k < (cands waste).length := by have := HN.out; omega
          obtain ⟨x, hx⟩ : ∃ x, (cands waste)[k]? = some x := ⟨_, List.getElem?_eq_getElem hkl⟩
          have hgx : (cands waste).getD k default = x := by rw [List.getD_eq_getElem?_getD, hx]; rfl
          obtain ⟨y1, y2, y3⟩ := cellsZ_get waste _ k x hx
          have x1 := (hBr.cell (p := ⟨g', k * 3, none⟩) hgl).trans (owns_cell HALL.out y1)
          have x2 := (hBr.cell (p := ⟨g', k * 3 + 1, none⟩) hgl).trans (owns_cell HALL.out y2)
          have x3 := (hBr.cell (p := ⟨g', k * 3 + 2, none⟩) hgl).trans (owns_cell HALL.out y3)
          have hgw : g' < wr.heap.size := Nat.lt_of_lt_of_le hgl hz
          have G1 := CW.cell (a := ⟨g', k * 3, none⟩) hgw x1
          have G2 := CW.cell (a := ⟨g', k * 3 + 1, none⟩) hgw x2
          have G3 := CW.cell (a := ⟨g', k * 3 + 2, none⟩) hgw x3
          have HGX := Lib.hid hgx
          clear hx hgx y1 y2 y3
          have hol := outI_len waste (cands waste) k
          by_cases hlast : k + 1 = n
          · have hkeep : keepI waste (cands waste) k = true := by unfold keepI; rw [decide_eq_true (by have := HN.out; omega)]; rfl
            have ho := outI_keep waste _ k hkeep
            rw [HGX.out] at ho
            have HO := Lib.hid ho
            have hq : ((k : Int) == (n : Int) - 1) = true := by simp; omega
            clear hkeep ho
            go_wp2_with fail
            refine region_below wr.heap.size (by kernel_rfl) (by kernel_rfl) ?_
            repeat (first | go_big_quiet_step (fail) | quiet_step (fail))
            refine wpQuiet_nil ?_
            rintro _ ⟨nq, rfl⟩
            have hr4 := hrow.kept (grown_of nq.bel none) (by cases A' <;> simp [Value.ownBlock])
            have hB4 := btr hBr nq.bel (Nat.le_refl _)
            go_wp2_with (at_builtin; refine wpList_append_own _ rfl _ _ 22 rfl w3.heap.size 24 i0 (.agg #[.int .i64 0, .int .i64 0, .int .i64 0]) 3 24 Try.underlying22 hi hz0 hz1 hz2 rfl (by decide) _ _ _ rfl (hr4.alloc _) ⟨nq.wd.heap.size, 0, none⟩ 1 1 [.int .i64 x.val, .int .i64 (spI x.val waste), .int .i64 (batI x.val)] rfl rfl (cells3_new nq.wd _ _ _ _) (by simp [Value.oneCell']) (by unfold maxLen; omega) (by omega) (by have := hB4.size; simp; omega) ?_; intro v' w5 hown' hgrow _; have hB5 : Below w3.heap.size w3 w5 := (hB4.alloc hB4.size _).grown hgrow (by have := hB4.size; simp; omega) (fun k e => (hr4.lt k e).1))
            go_roundw
            case rel => exact ⟨k + 1, by omega, by go_num, by rw [HO.out, cellsZ_snoc, List.length_append]; exact hown', hB5⟩
            case measure => simp [intOf]; omega
          · have hkl2 : k + 1 < (cands waste).length := by have := HN.out; omega
            obtain ⟨y, hy⟩ : ∃ y, (cands waste)[k + 1]? = some y := ⟨_, List.getElem?_eq_getElem hkl2⟩
            have hgy : (cands waste).getD (k + 1) default = y := by rw [List.getD_eq_getElem?_getD, hy]; rfl
            obtain ⟨y1, y2, y3⟩ := cellsZ_get waste _ (k + 1) y hy
            have z1 := (hBr.cell (p := ⟨g', (k + 1) * 3, none⟩) hgl).trans (owns_cell HALL.out y1)
            have z2 := (hBr.cell (p := ⟨g', (k + 1) * 3 + 1, none⟩) hgl).trans (owns_cell HALL.out y2)
            have z3 := (hBr.cell (p := ⟨g', (k + 1) * 3 + 2, none⟩) hgl).trans (owns_cell HALL.out y3)
            have F1 := CW.cell (a := ⟨g', (k + 1) * 3, none⟩) hgw z1
            have F2 := CW.cell (a := ⟨g', (k + 1) * 3 + 1, none⟩) hgw z2
            have F3 := CW.cell (a := ⟨g', (k + 1) * 3 + 2, none⟩) hgw z3
            have hki : keepI waste (cands waste) k = !sameZ waste x y := by unfold keepI; rw [decide_eq_false (by have := HN.out; omega), HGX.out, hgy]; rfl
            have hox := fun W => RObjects_any x.val (spI x.val waste) (batI x.val) W (spI_bd _ _).1 (spI_bd _ _).2 x.lo x.hi
            have hoy := fun W => RObjects_any y.val (spI y.val waste) (batI y.val) W (spI_bd _ _).1 (spI_bd _ _).2 y.lo y.hi
            have HKI := Lib.hid hki
            have hq : ((k : Int) == (n : Int) - 1) = false := by simp; omega
            clear hy hgy y1 y2 y3 hki
            by_cases hpg : spI x.val waste = spI y.val waste
            · have hqp : (spI x.val waste != spI y.val waste) = false := by simpa using hpg
              by_cases hob : spI x.val waste * 256 / x.val = spI y.val waste * 256 / y.val
              · have hkeep : keepI waste (cands waste) k = false := by rw [HKI.out]; unfold sameZ; rw [decide_eq_true ⟨hpg, hob⟩]; rfl
                have ho := outI_drop waste _ k hkeep
                have HO := Lib.hid ho
                generalize spI x.val waste * 256 / x.val = X at hox hob
                generalize spI y.val waste * 256 / y.val = Y at hoy hob
                have hqo : (X != Y) = false := by simpa using hob
                have HOX := Lib.hid hox
                have HOY := Lib.hid hoy
                clear hkeep ho hpg hob hox hoy
                go_wp2_with fail
                refine region_below wr.heap.size (by kernel_rfl) (by kernel_rfl) ?_
                repeat (first | go_big_quiet_step ((first | (go_at_call 20; with_reducible exact quietB (Nat.le_refl _) (HOX.out _)) | (go_at_call 20; with_reducible exact quietB (Nat.le_refl _) (HOY.out _)))) | quiet_step ((first | (go_at_call 20; with_reducible exact quietB (Nat.le_refl _) (HOX.out _)) | (go_at_call 20; with_reducible exact quietB (Nat.le_refl _) (HOY.out _)))))
                refine wpQuiet_nil ?_
                rintro _ ⟨nq, rfl⟩
                have hr4 := hrow.kept (grown_of nq.bel none) (by cases A' <;> simp [Value.ownBlock])
                have hB4 := btr hBr nq.bel (Nat.le_refl _)
                go_wp2_with fail
                go_roundw
                case rel => exact ⟨k + 1, by omega, by go_num, by rw [HO.out]; exact hr4, hB4⟩
                case measure => simp [intOf]; omega
              · have hkeep : keepI waste (cands waste) k = true := by rw [HKI.out]; unfold sameZ; rw [decide_eq_false (fun h => hob h.2)]; rfl
                have ho := outI_keep waste _ k hkeep
                rw [HGX.out] at ho
                have HO := Lib.hid ho
                generalize spI x.val waste * 256 / x.val = X at hox hob
                generalize spI y.val waste * 256 / y.val = Y at hoy hob
                have hqo : (X != Y) = true := by simpa using hob
                have HOX := Lib.hid hox
                have HOY := Lib.hid hoy
                clear hkeep ho hpg hob hox hoy
                go_wp2_with fail
                refine region_below wr.heap.size (by kernel_rfl) (by kernel_rfl) ?_
                repeat (first | go_big_quiet_step ((first | (go_at_call 20; with_reducible exact quietB (Nat.le_refl _) (HOX.out _)) | (go_at_call 20; with_reducible exact quietB (Nat.le_refl _) (HOY.out _)))) | quiet_step ((first | (go_at_call 20; with_reducible exact quietB (Nat.le_refl _) (HOX.out _)) | (go_at_call 20; with_reducible exact quietB (Nat.le_refl _) (HOY.out _)))))
                refine wpQuiet_nil ?_
                rintro _ ⟨nq, rfl⟩
                have hr4 := hrow.kept (grown_of nq.bel none) (by cases A' <;> simp [Value.ownBlock])
                have hB4 := btr hBr nq.bel (Nat.le_refl _)
                go_wp2_with (at_builtin; refine wpList_append_own _ rfl _ _ 22 rfl w3.heap.size 24 i0 (.agg #[.int .i64 0, .int .i64 0, .int .i64 0]) 3 24 Try.underlying22 hi hz0 hz1 hz2 rfl (by decide) _ _ _ rfl (hr4.alloc _) ⟨nq.wd.heap.size, 0, none⟩ 1 1 [.int .i64 x.val, .int .i64 (spI x.val waste), .int .i64 (batI x.val)] rfl rfl (cells3_new nq.wd _ _ _ _) (by simp [Value.oneCell']) (by unfold maxLen; omega) (by omega) (by have := hB4.size; simp; omega) ?_; intro v' w5 hown' hgrow _; have hB5 : Below w3.heap.size w3 w5 := (hB4.alloc hB4.size _).grown hgrow (by have := hB4.size; simp; omega) (fun k e => (hr4.lt k e).1))
                go_roundw
                case rel => exact ⟨k + 1, by omega, by go_num, by rw [HO.out, cellsZ_snoc, List.length_append]; exact hown', hB5⟩
                case measure => simp [intOf]; omega
            · have hqp : (spI x.val waste != spI y.val waste) = true := by simpa using hpg
              have hkeep : keepI waste (cands waste) k = true := by rw [HKI.out]; unfold sameZ; rw [decide_eq_false (fun h => hpg h.1)]; rfl
              have ho := outI_keep waste _ k hkeep
              rw [HGX.out] at ho
              have HO := Lib.hid ho
              clear hkeep ho hpg hox hoy
              go_wp2_with fail
              refine region_below wr.heap.size (by kernel_rfl) (by kernel_rfl) ?_
              repeat (first | go_big_quiet_step (fail) | quiet_step (fail))
              refine wpQuiet_nil ?_
              rintro _ ⟨nq, rfl⟩
              have hr4 := hrow.kept (grown_of nq.bel none) (by cases A' <;> simp [Value.ownBlock])
              have hB4 := btr hBr nq.bel (Nat.le_refl _)
              go_wp2_with (at_builtin; refine wpList_append_own _ rfl _ _ 22 rfl w3.heap.size 24 i0 (.agg #[.int .i64 0, .int .i64 0, .int .i64 0]) 3 24 Try.underlying22 hi hz0 hz1 hz2 rfl (by decide) _ _ _ rfl (hr4.alloc _) ⟨nq.wd.heap.size, 0, none⟩ 1 1 [.int .i64 x.val, .int .i64 (spI x.val waste), .int .i64 (batI x.val)] rfl rfl (cells3_new nq.wd _ _ _ _) (by simp [Value.oneCell']) (by unfold maxLen; omega) (by omega) (by have := hB4.size; simp; omega) ?_; intro v' w5 hown' hgrow _; have hB5 : Below w3.heap.size w3 w5 := (hB4.alloc hB4.size _).grown hgrow (by have := hB4.size; simp; omega) (fun k e => (hr4.lt k e).1))
              go_roundw
              case rel => exact ⟨k + 1, by omega, by go_num, by rw [HO.out, cellsZ_snoc, List.length_append]; exact hown', hB5⟩
              case measure => simp [intOf]; omega
        · obtain rfl : k = n := by omega
          have hfin := out_all waste (cands waste)
          rw [← HN.out] at hfin
          have HF := Lib.hid hfin
          clear hfin
          go_wp2_with fail
          go_ret2
          refine ⟨_, rfl, ?_, hB3.trans (hBr.mono hB3.size)⟩
          rw [← HF.out]
          exact owns_base hrow hB3.size

end Go.Proofs.Ytjloipljecjbaaa
