/- The statements' Same: a map, and the other one. -/
import Derived.Test.YtdjfeibcbmelcaaNa
namespace Go.Proofs.Ytdjfeibcbmelcaa
open Go.RowKit

set_option maxRecDepth 100000 in
set_option maxHeartbeats 4000000 in
theorem law_gen {v r : Value} {w : World} {a b : Int} {l : List Mk} {g : Int → Int}
    (hN : ∀ W, Below w.heap.size w W → Calls Try.prog 31 #[v] W fun e w' => e = .returned (.tuple #[.int .i64 a, .int .i64 b]) ∧ Below W.heap.size W w')
    (hRN : ∀ W, Below w.heap.size w W → Calls Try.prog 40 #[r] W fun e w' => e = .returned (.tuple #[.int .i64 a, .int .i64 b]) ∧ Below W.heap.size W w')
    (hM : ∀ W, Below w.heap.size w W → Calls Try.prog 29 #[v] W (MarksPost W l))
    (hRM : ∀ W, Below w.heap.size w W → Calls Try.prog 24 #[r] W (MarksPost W l)) (hl : l.length ≤ 2048)
    (hG : ∀ W p, Below w.heap.size w W → InR p → Calls Try.prog 22 #[v, .int .i64 p] W fun e w' => e = .returned (.int .i64 (g p)) ∧ W = w')
    (hRG : ∀ W p, Below w.heap.size w W → InR p → Calls Try.prog 23 #[r, .int .i64 p] W fun e w' => e = .returned (.int .i64 (g p)) ∧ W = w') :
    Calls Try.prog 21 #[v, r] w (Yes w) := by
  have HN := Lib.hid hN
  have HRN := Lib.hid hRN
  have HM := Lib.hid hM
  have HRM := Lib.hid hRM
  have HG := Lib.hid hG
  have HRG := Lib.hid hRG
  have HL := Lib.hid hl
  obtain ⟨n, hn⟩ : ∃ n, l.length = n := ⟨_, rfl⟩
  have HLN := Lib.hid hn
  clear hN hRN hM hRM hG hRG hl hn
  go_enter Try.func21, Try.ntmps21
  go_wp2_with fail
  refine (HN.out _ (Below.refl _ _)).mono ?_
  rintro e w1 ⟨rfl, hb1⟩
  have HB1 := Lib.hid hb1
  clear hb1
  go_wp2_with fail
  refine (HRN.out _ HB1.out).mono ?_
  rintro e w2 ⟨rfl, hb2⟩
  have HB2 := Lib.hid (btr HB1.out hb2 (Nat.le_refl _))
  clear hb2
  go_wp2_with fail
  refine (HM.out _ HB2.out).mono ?_
  rintro e w3 ⟨A3, c3, rfl, hm3, hb3⟩
  have HB3 := Lib.hid (btr HB2.out hb3 (Nat.le_refl _))
  have HM3 := Lib.hid hm3
  clear hm3 hb3
  rw [HLN.out]
  go_wp2_with fail
  refine (HRM.out _ HB3.out).mono ?_
  rintro e w4 ⟨A4, c4, rfl, hm4, hb4⟩
  have HB4 := Lib.hid (btr HB3.out hb4 (Nat.le_refl _))
  have hE := eq26_any A3 A4 c3 c4 _ _ l l w4 HL.out (HM3.out.below hb4) hm4
  rw [eqM_self, HLN.out] at hE
  have HE := Lib.hid hE
  clear hm4 hb4 hE
  rw [HLN.out]
  go_wp2_with fail
  refine HE.out.mono ?_
  rintro e w5 ⟨rfl, hb5⟩
  have HB5 := Lib.hid (btr HB4.out hb5 (Nat.le_refl _))
  clear hb5
  go_wp2_with fail
  go_loopw [9] (fun i wr => ∃ k : Int, -1 ≤ k ∧ k ≤ 1025 ∧ i = .int .i64 k ∧ Below w.heap.size w wr) (fun i _ => (1025 - intOf i).toNat)
  case atStart => exact ⟨-1, by omega, by omega, rfl, HB5.out⟩
  case round =>
    obtain ⟨k, hk1, hk2, rfl, hB⟩ := hrel
    have HB := Lib.hid hB
    clear hB
    by_cases hlt : k ≤ 1024
    · have hG := HG.out wr k HB.out ⟨by omega, by omega⟩
      have hR := HRG.out wr k HB.out ⟨by omega, by omega⟩
      generalize g k = y at hG hR
      have HGG := Lib.hid hG
      have HRR := Lib.hid hR
      have E1 := Lib.hid (w64 (k + 1) (by omega))
      clear hG hR
      go_wp2_with fail
      refine HGG.out.mono ?_
      rintro e _ ⟨rfl, rfl⟩
      go_wp2_with fail
      refine HRR.out.mono ?_
      rintro e _ ⟨rfl, rfl⟩
      obtain ⟨s1, s2⟩ := E1.out
      go_wp2_with fail
      go_roundw
      case rel => exact ⟨k + 1, by omega, by omega, rfl, HB.out⟩
      case measure => simp [intOf]; omega
    · go_wp2_with fail
      go_ret
      exact ⟨rfl, HB.out⟩

/-- Of maps that nobody made. -/
theorem law_no {v : Value} {w : World} (h : NoT w v) : Calls Try.prog 21 #[v, .pointer none] w (Yes w) :=
  law_gen (a := 0) (b := 0) (l := []) (g := fun _ => 0) (fun W hb => (Nodes_no (h.below hb)).mono fun _ _ hp => ⟨hp.1, by rw [← hp.2]; exact Below.refl _ _⟩) (fun W _ => (rnodes_nil W).mono fun _ _ hp => ⟨hp.1, by rw [← hp.2]; exact Below.refl _ _⟩)
    (fun W hb => Marks_no (h.below hb)) (fun W _ => rmarks_nil W) (by simp) (fun W p hb _ => Get_no p (h.below hb)) (fun W p _ _ => rget_nil W p)

set_option maxRecDepth 100000 in
set_option maxHeartbeats 1000000 in
theorem play_no {v : Value} {w : World} (k a b c : Int) (h : NoT w v) :
    Calls Try.prog 18 #[v, .pointer none, .agg #[.int .i64 k, .int .i64 a, .int .i64 b, .int .i64 c]] w (Yes w) := by
  obtain ⟨W0, hW, hb0, hz, c0, c1, c2, c3⟩ := new4 w (.int .i64 k) (.int .i64 a) (.int .i64 b) (.int .i64 c) 30
  have HS := Lib.hid (h.below hb0)
  have HB := Lib.hid hb0
  clear h hb0 hz
  have hk : k = 0 ∨ k = 1 ∨ ¬ (k = 0 ∨ k = 1) := by omega
  rcases hk with rfl | rfl | hk
  · go_enter Try.func18, Try.ntmps18
    go_wp2_with fail
    go_region_held3 (fun w' => w'.cell? ⟨w.heap.size, 1, none⟩ = some (.int .i64 a) ∧ w'.cell? ⟨w.heap.size, 2, none⟩ = some (.int .i64 b) ∧ w'.cell? ⟨w.heap.size, 3, none⟩ = some (.int .i64 c)) (first | exact ⟨c1, c2, c3⟩)
      (first
      | (go_at_call 30; refine (Set_no a b c (HS.out.below (belowN (Below.refl _ _) _))).mono ?_; rintro e w1 ⟨rfl, rfl⟩)
      | (go_at_call 37; refine (rset_nil _ a b c).mono ?_; rintro e w2 ⟨rfl, rfl⟩))
    go_wp2_with fail
    go_ret
    exact ⟨rfl, btr HB.out (belowN (Below.refl _ _) 1) (Nat.le_refl _)⟩
  · go_enter Try.func18, Try.ntmps18
    go_wp2_with fail
    go_region_held3 (fun w' => w'.cell? ⟨w.heap.size, 1, none⟩ = some (.int .i64 a) ∧ w'.cell? ⟨w.heap.size, 2, none⟩ = some (.int .i64 b)) (first | exact ⟨c1, c2⟩)
      (first
      | (go_at_call 32; refine (Clear_no a b (HS.out.below (belowN (Below.refl _ _) _))).mono ?_; rintro e w1 ⟨rfl, rfl⟩)
      | (go_at_call 38; refine (rclear_nil _ a b).mono ?_; rintro e w2 ⟨rfl, rfl⟩))
    go_wp2_with fail
    go_ret
    exact ⟨rfl, btr HB.out (belowN (Below.refl _ _) 1) (Nat.le_refl _)⟩
  · have k0 : (k == 0) = false := by simp; omega
    have k1 : (k == 1) = false := by simp; omega
    clear hk
    go_enter Try.func18, Try.ntmps18
    go_wp2_with fail
    go_ret
    exact ⟨rfl, HB.out⟩

end Go.Proofs.Ytdjfeibcbmelcaa
