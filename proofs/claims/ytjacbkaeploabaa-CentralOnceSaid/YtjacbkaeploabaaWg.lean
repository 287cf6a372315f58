/- The statement about no object twice: its helpers. -/
import Derived.Test.YtjacbkaeploabaaWf
import Derived.Test.YtjacbkaeploabaaMk
namespace Go.Proofs.Ytjacbkaeploabaa
open Go.RowKit Go.Shelf

/-- Numbers that lie in cells behind each other. -/
def CAt (w : World) (A : Option Addr) (zs : List Int) : Prop := ∀ (i : Nat) (x : Int), zs[i]? = some x → ∃ b o : Nat, A = some ⟨b, o, none⟩ ∧ b < w.heap.size ∧ w.cell? ⟨b, o + i, none⟩ = some (.int .i64 x)
theorem CAt.of {w : World} {N : Nat} {A : Option Addr} {zs : List Int} (h : ZAt w N A zs) (hN : N ≤ w.heap.size) : CAt w A zs := fun i x hi => by
  obtain ⟨_, b, o, e, h1, h2⟩ := h i x hi
  exact ⟨b, o, e, Nat.lt_of_lt_of_le h1 hN, h2⟩
theorem CAt.row {w : World} {base c : Nat} {A : Option Addr} {xs : List Int} (h : w.ownsRow base 3 1 (.slice A xs.length c) xs.length (cellsZ xs)) : CAt w A xs := fun i x hi => by
  obtain ⟨g, cap, e1, _, hg2, k1⟩ := owns_cell h (show (cellsZ xs)[i]? = some (.int .i64 x) from by unfold cellsZ; rw [List.getElem?_map, hi]; rfl)
  cases e1
  exact ⟨g, 0, rfl, hg2, by rw [Nat.zero_add]; exact k1⟩
theorem CAt.below {w w' : World} {A : Option Addr} {zs : List Int} (h : CAt w A zs) (hb : Below w.heap.size w w') : CAt w' A zs := fun i x hi => by
  obtain ⟨b, o, e, h1, h2⟩ := h i x hi
  exact ⟨b, o, e, Nat.lt_of_lt_of_le h1 hb.size, (hb.cell (p := ⟨b, _, none⟩) h1).trans h2⟩

set_option maxRecDepth 100000 in
set_option maxHeartbeats 1000000 in
theorem in_any (A : Option Addr) (c : Nat) (zs : List Int) (x : Int) (w : World) (hl : zs.length ≤ 9223372036854775807) (hA : CAt w A zs) :
    Calls Try.prog 17 #[.slice A zs.length c, .int .i64 x] w fun e w' => e = .returned (.bool (decide (x ∈ zs))) ∧ w = w' := by
  obtain ⟨n, hn⟩ : ∃ n, zs.length = n := ⟨_, rfl⟩
  have HN := Lib.hid hn
  have HA := Lib.hid hA
  rw [hn] at hl ⊢
  clear hA hn
  go_enter Try.func17, Try.ntmps17
  go_wp2
  go_loopw [5] (fun i wr => ∃ k : Nat, k ≤ n ∧ i = .int .i64 k ∧ w = wr ∧ x ∉ zs.take k) (fun i _ => n - (intOf i).toNat)
  case atStart => exact ⟨0, by omega, rfl, rfl, by simp⟩
  case round =>
    obtain ⟨k, hk, rfl, rfl, hno⟩ := hrel
    have HNO := Lib.hid hno
    by_cases hlt : k < n
    · obtain ⟨y, hy⟩ : ∃ y, zs[k]? = some y := ⟨_, List.getElem?_eq_getElem (by have := HN.out; omega)⟩
      obtain ⟨b, o, rfl, _, g1⟩ := HA.out k y hy
      have HY := Lib.hid hy
      clear hno hy
      by_cases hxy : y = x
      · subst hxy
        have HR := Lib.hid (show decide (y ∈ zs) = true from decide_eq_true (List.mem_of_getElem? HY.out))
        go_wp2_with fail
        go_ret
        exact ⟨ret_bool HR.out.symm, rfl⟩
      · have d1 : (y == x) = false := by simpa using hxy
        have HT := Lib.hid (show x ∉ zs.take (k + 1) from by
          rw [List.take_add_one, HY.out]
          simp only [Option.toList_some, List.mem_append, List.mem_singleton, not_or]
          exact ⟨HNO.out, fun e => hxy e.symm⟩)
        clear hxy
        go_wp2_with fail
        go_roundw
        case rel => exact ⟨k + 1, by omega, by go_num, trivial, HT.out⟩
        case measure => simp [intOf]; omega
    · have HR := Lib.hid (show decide (x ∈ zs) = false from decide_eq_false (by
        rw [List.take_of_length_le (by have := HN.out; omega)] at hno
        exact hno))
      clear hno
      go_wp2_with fail
      go_ret
      exact ⟨ret_bool HR.out.symm, rfl⟩

set_option maxRecDepth 100000 in
set_option maxHeartbeats 2000000 in
theorem without_any (A A2 : Option Addr) (c c2 : Nat) (xs zs : List Int) (w : World) (hl : xs.length ≤ 1000000) (hl2 : zs.length ≤ 9223372036854775807) (hA : CAt w A xs) (hA2 : CAt w A2 zs) :
    Calls Try.prog 15 #[.slice A xs.length c, .slice A2 zs.length c2] w fun e w' => ∃ A3 c3, e = .returned (.slice A3 (xs.filter (fun a => !decide (a ∈ zs))).length c3) ∧ w'.ownsRow w.heap.size 3 1 (.slice A3 (xs.filter (fun a => !decide (a ∈ zs))).length c3) (xs.filter (fun a => !decide (a ∈ zs))).length (cellsZ (xs.filter (fun a => !decide (a ∈ zs)))) ∧ Below w.heap.size w w' := by
  obtain ⟨i0, hi, hz0, hz1, hz2⟩ := info_parts info3
  have HIN := Lib.hid (fun W x (hb : Below w.heap.size w W) => in_any A2 c2 zs x W hl2 (hA2.below hb))
  obtain ⟨n, hn⟩ : ∃ n, xs.length = n := ⟨_, rfl⟩
  obtain ⟨n2, hn2⟩ : ∃ n2, zs.length = n2 := ⟨_, rfl⟩
  have HN := Lib.hid hn
  have HA := Lib.hid hA
  rw [hn] at hl ⊢
  rw [hn2] at hl2 HIN ⊢
  clear hA hA2 hn hn2
  generalize hp : (fun a : Int => !decide (a ∈ zs)) = p at *
  have HP := Lib.hid (fun a => show p a = !decide (a ∈ zs) from by rw [← hp])
  clear hp
  go_enter Try.func15, Try.ntmps15
  go_wp2
  go_loopw [5, 6] (fun t i wr => ∃ k : Nat, k ≤ n ∧ i = .int .i64 k ∧ wr.ownsRow w.heap.size 3 1 t ((xs.take k).filter p).length (cellsZ ((xs.take k).filter p)) ∧ Below w.heap.size w wr) (fun _ i _ => n - (intOf i).toNat)
  case atStart => exact ⟨0, by omega, rfl, World.ownsRow_nil _ _ _ _, Below.refl _ _⟩
  case round =>
    obtain ⟨k, hk, rfl, hrow, hb⟩ := hrel
    obtain ⟨A6, c6, rfl⟩ := owns_form hrow
    have HR := Lib.hid hrow
    have HB := Lib.hid hb
    have hfl : ((xs.take k).filter p).length ≤ k := Nat.le_trans (List.length_filter_le _ _) (by rw [List.length_take]; omega)
    by_cases hlt : k < n
    · obtain ⟨y, hy⟩ : ∃ y, xs[k]? = some y := ⟨_, List.getElem?_eq_getElem (by have := HN.out; omega)⟩
      obtain ⟨b, o, rfl, _, g1⟩ := (HA.out.below hb) k y hy
      have HC := Lib.hid (HIN.out wr y hb)
      have hbw := hb.size
      have HT := Lib.hid (filt_take (p := p) hy)
      have HPY := Lib.hid (HP.out y)
      clear hrow hb hy
      by_cases hm : y ∈ zs
      · rw [decide_eq_true hm] at HC HPY
        rw [if_neg (by rw [HPY.out]; decide), List.append_nil] at HT
        generalize (xs.take k).filter p = L at *
        clear hm
        go_wp2_with fail
        refine HC.out.mono ?_
        rintro e _ ⟨rfl, rfl⟩
        go_wp2_with fail
        go_roundw
        case rel => exact ⟨k + 1, by omega, by go_num, by rw [HT.out]; exact HR.out, HB.out⟩
        case measure => simp [intOf]; omega
      · rw [decide_eq_false hm] at HC HPY
        rw [if_pos (by rw [HPY.out]; rfl)] at HT
        generalize (xs.take k).filter p = L at *
        clear hm
        go_wp2_with fail
        refine HC.out.mono ?_
        rintro e _ ⟨rfl, rfl⟩
        go_wp2_with (at_builtin; refine wpList_append_own _ rfl _ _ 29 rfl w.heap.size 3 i0 (.int .i64 0) 1 8 Try.underlying29 hi hz0 hz1 hz2 rfl (by decide) _ _ _ rfl (HR.out.alloc _) ⟨wr.heap.size, 0, none⟩ 1 1 [.int .i64 y] rfl rfl (cells1_new wr _ _) (by simp [Value.oneCell']) (by unfold maxLen; omega) (by omega) (by simp; omega) ?_; intro v' w5 hown' hgrow _; have HO5 := Lib.hid hown'; have HB5 := Lib.hid ((HB.out.alloc hbw _).grown hgrow (by simp; omega) (fun k e => (HR.out.lt k e).1)); clear hown' hgrow)
        go_roundw
        case rel => exact ⟨k + 1, by omega, by go_num, by rw [HT.out, List.length_append]; unfold cellsZ; rw [List.map_append]; exact HO5.out, HB5.out⟩
        case measure => simp [intOf]; omega
    · obtain rfl : k = n := by omega
      have e : xs.take k = xs := List.take_of_length_le (by rw [HN.out]; exact Nat.le_refl _)
      rw [e] at hrow
      have HR2 := Lib.hid hrow
      rw [e]
      obtain ⟨L, hL⟩ : ∃ L, xs.filter p = L := ⟨_, rfl⟩
      have HL := Lib.hid hL
      rw [hL] at HR2 ⊢
      clear hrow hb e hfl hL
      go_wp2_with fail
      go_ret
      rw [HL.out]
      exact ⟨A6, c6, rfl, HR2.out, HB.out⟩

end Go.Proofs.Ytjacbkaeploabaa
