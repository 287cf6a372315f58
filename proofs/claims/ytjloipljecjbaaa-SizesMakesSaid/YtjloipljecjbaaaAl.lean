/- The chapter's examples, which every statement asks. -/
import Derived.Test.YtjloipljecjbaaaMc
import Derived.Test.YtjloipljecjbaaaTc
namespace Go.Proofs.Ytjloipljecjbaaa
open Go.RowKit

set_option maxHeartbeats 400000 in
theorem Make_no (waste : Int) (h : waste < 2 ∨ 16 < waste) (w : World) :
    Calls Try.prog 22 #[.int .i64 waste] w fun e w' => e = .returned (.tuple #[.slice none 0 0, .int .i64 1]) ∧ w = w' := by
  rcases h with h | h
  · go_enter Try.func22, Try.ntmps22
    go_wp2
    go_ret2
    exact ⟨rfl, rfl⟩
  · have h' : ¬ waste < 2 := by omega
    go_enter Try.func22, Try.ntmps22
    go_wp2
    go_ret2
    exact ⟨rfl, rfl⟩

theorem mkT_get (waste : Int) (k : Nat) (c : Cl) (h : (mkT waste)[k]? = some c) : ∃ s : Sz, (mkZ waste (cands waste))[k]? = some s ∧ c = candI s.val waste := by
  unfold mkT at h
  rw [List.getElem?_map] at h
  cases hs : (mkZ waste (cands waste))[k]? with
  | none => rw [hs] at h; cases h
  | some s => rw [hs] at h; exact ⟨s, rfl, (Option.some.inj h).symm⟩

theorem cellsZ_get (waste : Int) (l : List Sz) : ∀ (k : Nat) (s : Sz), l[k]? = some s → (cellsZ waste l)[k * 3]? = some (.int .i64 s.val) ∧ (cellsZ waste l)[k * 3 + 1]? = some (.int .i64 (spI s.val waste)) ∧ (cellsZ waste l)[k * 3 + 2]? = some (.int .i64 (batI s.val)) := by
  induction l with
  | nil => intro k s h; cases h
  | cons a l ih =>
    intro k s h
    cases k with
    | zero =>
      obtain rfl : a = s := by simpa using h
      exact ⟨rfl, rfl, rfl⟩
    | succ k =>
      obtain ⟨h1, h2, h3⟩ := ih k s (by simpa using h)
      have e : cellsZ waste (a :: l) = [.int .i64 a.val, .int .i64 (spI a.val waste), .int .i64 (batI a.val)] ++ cellsZ waste l := rfl
      rw [e]
      refine ⟨?_, ?_, ?_⟩
      · rw [show (k + 1) * 3 = k * 3 + 3 by omega, List.getElem?_append_right (by simp)]; simpa using h1
      · rw [show (k + 1) * 3 + 1 = (k * 3 + 1) + 3 by omega, List.getElem?_append_right (by simp)]; simpa using h2
      · rw [show (k + 1) * 3 + 2 = (k * 3 + 2) + 3 by omega, List.getElem?_append_right (by simp)]; simpa using h3

theorem mkT_len (waste : Int) : (mkT waste).length = (mkZ waste (cands waste)).length := by unfold mkT; simp
theorem mkT_le (waste : Int) : (mkT waste).length ≤ 64 := by
  rw [mkT_len]
  exact Nat.le_trans (mkZ_len _ _) (cands_len _)

/-- What Make returns is a table in memory. -/
theorem tab_of_row {waste : Int} {w w' : World} {v : Value} (h : w'.ownsRow w.heap.size 24 3 v (mkZ waste (cands waste)).length (cellsZ waste (mkZ waste (cands waste)))) :
    ∃ A c, v = .slice A (mkT waste).length c ∧ TabAt w' w'.heap.size A (mkT waste) := by
  rw [mkT_len]
  obtain ⟨A, c, rfl⟩ := owns_form h
  refine ⟨A, c, rfl, fun k cl hk => ?_⟩
  obtain ⟨s, hs, rfl⟩ := mkT_get waste k cl hk
  obtain ⟨h1, h2, h3⟩ := cellsZ_get waste _ k s hs
  have hpos : k < (mkZ waste (cands waste)).length := (List.getElem?_eq_some_iff.1 hs).1
  have h' := h
  rcases h.2 with ⟨_, h0⟩ | ⟨g, cap, cur, hv, _, hg, _⟩
  · omega
  · cases hv
    refine ⟨g, 0, rfl, (Array.getElem?_eq_some_iff.1 hg).1, ?_, ?_, ?_⟩
    · rw [Nat.zero_add]; exact owns_cell h' h1
    · rw [Nat.zero_add]; exact owns_cell h' h2
    · rw [Nat.zero_add]; exact owns_cell h' h3

/-- A table that was made, in memory. -/
def Made (waste : Int) (w : World) (e : Ending) (w' : World) : Prop :=
  ∃ A c, e = .returned (.tuple #[.slice A (mkT waste).length c, .int .i64 0]) ∧ TabAt w' w'.heap.size A (mkT waste) ∧ Below w.heap.size w w'
theorem Make_made (waste : Int) (h2 : 2 ≤ waste) (h16 : waste ≤ 16) (w : World) : Calls Try.prog 22 #[.int .i64 waste] w (Made waste w) :=
  (Make_yes waste h2 h16 w).mono fun e w' ⟨v, he, hr, hb⟩ => by
    obtain ⟨A, c, rfl, ht⟩ := tab_of_row hr
    exact ⟨A, c, he, ht, hb⟩

/-- The table for 8. -/
def T8 : List Cl := mkT 8
theorem T8_ok : okT T8 = true := by decide +kernel
theorem T8_len : 4 ≤ T8.length ∧ T8.length ≤ 40 := by decide +kernel
theorem T8_9 : clsV T8 9 1 = 1 ∧ clsE T8 9 1 = 0 := by decide +kernel
theorem T8_1 : clsV T8 1 16 = 1 ∧ clsE T8 1 16 = 0 := by decide +kernel
theorem T8_513 : clsV T8 513 1 = 0 ∧ clsE T8 513 1 = 4 := by decide +kernel
theorem T8_0 : T8[0]? = some ⟨8, 1, 32⟩ := by kernel_rfl
theorem T8_2 : T8[2]? = some ⟨24, 1, 21⟩ := by kernel_rfl

theorem eql_a (w : World) : (binOp .eql 24 (.agg #[.int .i64 8, .int .i64 1, .int .i64 32]) (.agg #[.int .i64 8, .int .i64 1, .int .i64 32])).run Try.prog w = .ok (.bool true) w := by kernel_rfl
theorem eql_b (w : World) : (binOp .eql 24 (.agg #[.int .i64 24, .int .i64 1, .int .i64 21]) (.agg #[.int .i64 24, .int .i64 1, .int .i64 21])).run Try.prog w = .ok (.bool true) w := by kernel_rfl
theorem obj24 : objsV ⟨24, 1, 21⟩ = 10 ∧ errV ⟨24, 1, 21⟩ = 0 ∧ tailV ⟨24, 1, 21⟩ = 16 := by decide +kernel

set_option maxRecDepth 100000 in
set_option maxHeartbeats 1000000 in
theorem alive_any (w : World) : Calls Try.prog 14 #[] w fun e w' => e = .returned (.bool true) ∧ Below w.heap.size w w' := by
  obtain ⟨n, hn⟩ : ∃ n, n = T8.length := ⟨_, rfl⟩
  have hlen := T8_len
  rw [← hn] at hlen
  obtain ⟨hl1, hl2⟩ := hlen
  have hM : ∀ w, Calls Try.prog 22 #[.int .i64 8] w fun e w' => ∃ A c, e = .returned (.tuple #[.slice A n c, .int .i64 0]) ∧ TabAt w' w'.heap.size A T8 ∧ Below w.heap.size w w' := fun w => by
    rw [hn]; exact Make_made 8 (by omega) (by omega) w
  have hC : ∀ A c w sz al, TabAt w w.heap.size A T8 → Calls Try.prog 25 #[.slice A n c, .int .i64 sz, .int .i64 al] w fun e w' => e = .returned (.tuple #[.int .i64 (clsV T8 sz al), .int .i64 (clsE T8 sz al)]) ∧ Below w.heap.size w w' := fun A c w sz al h => by
    rw [hn]; exact Class_any A c T8 sz al w (by omega) h
  have hV : ∀ A c w, TabAt w w.heap.size A T8 → Calls Try.prog 18 #[.slice A n c] w fun e w' => e = .returned (.bool true) ∧ Below w.heap.size w w' := fun A c w h => by
    rw [hn, ← T8_ok]; exact Valid_any A c T8 w (by omega) h
  have h9 : ∀ A c w, TabAt w w.heap.size A T8 → Calls Try.prog 25 #[.slice A n c, .int .i64 9, .int .i64 1] w fun e w' => e = .returned (.tuple #[.int .i64 1, .int .i64 0]) ∧ Below w.heap.size w w' := fun A c w h => by
    have := hC A c w 9 1 h; rwa [T8_9.1, T8_9.2] at this
  have h1 : ∀ A c w, TabAt w w.heap.size A T8 → Calls Try.prog 25 #[.slice A n c, .int .i64 1, .int .i64 16] w fun e w' => e = .returned (.tuple #[.int .i64 1, .int .i64 0]) ∧ Below w.heap.size w w' := fun A c w h => by
    have := hC A c w 1 16 h; rwa [T8_1.1, T8_1.2] at this
  have h5 : ∀ A c w, TabAt w w.heap.size A T8 → Calls Try.prog 25 #[.slice A n c, .int .i64 513, .int .i64 1] w fun e w' => e = .returned (.tuple #[.int .i64 0, .int .i64 4]) ∧ Below w.heap.size w w' := fun A c w h => by
    have := hC A c w 513 1 h; rwa [T8_513.1, T8_513.2] at this
  have hO : ∀ w, Calls Try.prog 15 #[.agg #[.int .i64 24, .int .i64 1, .int .i64 21]] w fun e w' => e = .returned (.tuple #[.int .i64 10, .int .i64 0]) ∧ Below w.heap.size w w' := fun w => by
    have := Objects_any 24 1 21 w; rwa [obj24.1, obj24.2.1] at this
  have hT : ∀ w, Calls Try.prog 16 #[.agg #[.int .i64 24, .int .i64 1, .int .i64 21]] w fun e w' => e = .returned (.tuple #[.int .i64 16, .int .i64 0]) ∧ Below w.heap.size w w' := fun w => by
    have := Tail_any 24 1 21 w; rwa [obj24.2.2, obj24.2.1] at this
  have HM := Lib.hid hM
  have HV := Lib.hid hV
  have H9 := Lib.hid h9
  have H1 := Lib.hid h1
  have H5 := Lib.hid h5
  have HO := Lib.hid hO
  have HT := Lib.hid hT
  clear hM hC hV h9 h1 h5 hO hT hn
  have ea := eql_a
  have eb := eql_b
  go_enter Try.func14, Try.ntmps14
  go_wp2_with fail
  refine (HM.out _).mono ?_
  rintro e w1 ⟨A, c, rfl, ht1, hb1⟩
  go_wp2_with fail
  refine (H9.out _ _ _ ht1).mono ?_
  rintro e w2 ⟨rfl, hb2⟩
  have ht2 := (ht1.below hb2).more hb2.size
  go_wp2_with fail
  refine (H1.out _ _ _ ht2).mono ?_
  rintro e w3 ⟨rfl, hb3⟩
  have ht3 := (ht2.below hb3).more hb3.size
  go_wp2_with fail
  refine (H5.out _ _ _ ht3).mono ?_
  rintro e w4 ⟨rfl, hb4⟩
  have ht4 := (ht3.below hb4).more hb4.size
  go_wp2_with fail
  refine (HO.out _).mono ?_
  rintro e w5 ⟨rfl, hb5⟩
  have ht5 := (ht4.below hb5).more hb5.size
  go_wp2_with fail
  refine (HT.out _).mono ?_
  rintro e w6 ⟨rfl, hb6⟩
  have ht6 := (ht5.below hb6).more hb6.size
  obtain ⟨bk, o, rfl, hab, g1, g2, g3⟩ := ht6 0 _ T8_0
  obtain ⟨bk', o', hA, hab', g1', g2', g3'⟩ := ht6 2 _ T8_2
  cases hA
  simp only [Nat.zero_mul, Nat.add_zero] at g1 g2 g3
  have k1 : w6.cell? ⟨bk, o + 6, none⟩ = some (.int .i64 24) := g1'
  have k2 : w6.cell? ⟨bk, o + 6 + 1, none⟩ = some (.int .i64 1) := g2'
  have k3 : w6.cell? ⟨bk, o + 6 + 2, none⟩ = some (.int .i64 21) := g3'
  clear g1' g2' g3'
  have HT6 := Lib.hid ht6
  clear ht1 ht2 ht3 ht4 ht5 ht6
  go_wp2_with fail
  refine (HV.out _ _ _ HT6.out).mono ?_
  rintro e w7 ⟨rfl, hb7⟩
  go_wp2_with fail
  go_ret
  exact ⟨rfl, btr (btr (btr (btr (btr (btr hb1 hb2 (Nat.le_refl _)) hb3 (Nat.le_refl _)) hb4 (Nat.le_refl _)) hb5 (Nat.le_refl _)) hb6 (Nat.le_refl _)) hb7 (Nat.le_refl _)⟩

end Go.Proofs.Ytjloipljecjbaaa
