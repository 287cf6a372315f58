/- Maps that nobody made. -/
import Derived.Test.YtdjfeibcbmelcaaRc
import Derived.Test.YtdjfeibcbmelcaaLp
namespace Go.Proofs.Ytdjfeibcbmelcaa
open Go.RowKit Go.Shelf

attribute [local go_sem] Oper.semAt_some

section
variable {v : Value} {w : World}
set_option maxHeartbeats 400000 in
theorem Set_no (a b c : Int) (h : NoT w v) : Calls Try.prog 30 #[v, .int .i64 a, .int .i64 b, .int .i64 c] w fun e w' => e = .returned (.int .i64 5) ∧ w = w' := by
  have HM := Lib.hid (made_no h)
  clear h
  go_enter Try.func30, Try.ntmps30
  go_wp2_with (go_at_call 33; refine HM.out.mono ?_; rintro e w1 ⟨rfl, rfl⟩)
  go_ret
  exact ⟨rfl, rfl⟩
set_option maxHeartbeats 400000 in
theorem Clear_no (a b : Int) (h : NoT w v) : Calls Try.prog 32 #[v, .int .i64 a, .int .i64 b] w fun e w' => e = .returned (.int .i64 5) ∧ w = w' := by
  have HM := Lib.hid (made_no h)
  clear h
  go_enter Try.func32, Try.ntmps32
  go_wp2_with (go_at_call 33; refine HM.out.mono ?_; rintro e w1 ⟨rfl, rfl⟩)
  go_ret
  exact ⟨rfl, rfl⟩
set_option maxHeartbeats 400000 in
theorem Get_no (a : Int) (h : NoT w v) : Calls Try.prog 22 #[v, .int .i64 a] w fun e w' => e = .returned (.int .i64 0) ∧ w = w' := by
  have HM := Lib.hid (made_no h)
  clear h
  go_enter Try.func22, Try.ntmps22
  go_wp2_with (go_at_call 33; refine HM.out.mono ?_; rintro e w1 ⟨rfl, rfl⟩)
  go_ret
  exact ⟨rfl, rfl⟩
end
set_option maxHeartbeats 400000 in
theorem rmade_nil (w : World) : Calls Try.prog 36 #[.pointer none] w fun e w' => e = .returned (.bool false) ∧ w = w' := by
  go_enter Try.func36, Try.ntmps36
  go_wp2
  go_ret
  exact ⟨rfl, rfl⟩
theorem rset_nil (w : World) (a b c : Int) : Calls Try.prog 37 #[.pointer none, .int .i64 a, .int .i64 b, .int .i64 c] w fun e w' => e = .returned (.int .i64 5) ∧ w = w' := by
  have HM := Lib.hid (rmade_nil w)
  go_enter Try.func37, Try.ntmps37
  go_wp2_with (go_at_call 36; refine HM.out.mono ?_; rintro e w1 ⟨rfl, rfl⟩)
  go_ret
  exact ⟨rfl, rfl⟩
theorem rclear_nil (w : World) (a b : Int) : Calls Try.prog 38 #[.pointer none, .int .i64 a, .int .i64 b] w fun e w' => e = .returned (.int .i64 5) ∧ w = w' := by
  have HM := Lib.hid (rmade_nil w)
  go_enter Try.func38, Try.ntmps38
  go_wp2_with (go_at_call 36; refine HM.out.mono ?_; rintro e w1 ⟨rfl, rfl⟩)
  go_ret
  exact ⟨rfl, rfl⟩
theorem rget_nil (w : World) (a : Int) : Calls Try.prog 23 #[.pointer none, .int .i64 a] w fun e w' => e = .returned (.int .i64 0) ∧ w = w' := by
  have HM := Lib.hid (rmade_nil w)
  go_enter Try.func23, Try.ntmps23
  go_wp2_with (go_at_call 36; refine HM.out.mono ?_; rintro e w1 ⟨rfl, rfl⟩)
  go_ret
  exact ⟨rfl, rfl⟩
theorem rnodes_nil (w : World) : Calls Try.prog 40 #[.pointer none] w fun e w' => e = .returned (.tuple #[.int .i64 0, .int .i64 0]) ∧ w = w' := by
  have HM := Lib.hid (rmade_nil w)
  go_enter Try.func40, Try.ntmps40
  go_wp2_with (go_at_call 36; refine HM.out.mono ?_; rintro e w1 ⟨rfl, rfl⟩)
  go_ret2
  exact ⟨rfl, rfl⟩
theorem marks_nil (w : World) (N : Nat) : MksAt w N none [] := fun i m h => by simp at h
theorem rmarks_nil (w : World) : Calls Try.prog 24 #[.pointer none] w (MarksPost w []) := by
  have HM := Lib.hid (rmade_nil w)
  go_enter Try.func24, Try.ntmps24
  go_wp2_with (go_at_call 36; refine HM.out.mono ?_; rintro e w1 ⟨rfl, rfl⟩)
  go_ret
  exact ⟨none, 0, rfl, marks_nil _ _, Below.refl _ _⟩

section
variable {v : Value} {w : World}
set_option maxRecDepth 100000 in
set_option maxHeartbeats 1000000 in
theorem Marks_no (h : NoT w v) : Calls Try.prog 29 #[v] w (MarksPost w []) := by
  have HM := Lib.hid (made_no h)
  clear h
  refine (callsIn_wide (n := 20)).1 ?_
  refine callsIn_of_wp_marks Try.func29 rfl trivial ?_ rfl
  simp only [Try.ntmps29, List.size_toArray, List.length_cons, List.length_nil, Nat.reduceAdd, Nat.reduceSub, Array.replicate_succ, Array.replicate_zero, List.push_toArray, List.append_toArray, List.nil_append, List.cons_append]
  gi_wp2_with (refine ⟨trivial, ?_⟩; gi_at_call 33; refine (callsIn_wide.2 HM.out).mono ?_; rintro x _ ⟨rfl, rfl⟩)
  exact ⟨.slice none 0 0, by simp [results, Try.results29, go_sem], none, 0, rfl, marks_nil _ _, Below.refl _ _⟩
set_option maxRecDepth 100000 in
set_option maxHeartbeats 1000000 in
theorem Nodes_no (h : NoT w v) : Calls Try.prog 31 #[v] w fun e w' => e = .returned (.tuple #[.int .i64 0, .int .i64 0]) ∧ w = w' := by
  have HM := Lib.hid (made_no h)
  clear h
  refine (callsIn_wide (n := 20)).1 ?_
  refine callsIn_of_wp_marks Try.func31 rfl trivial ?_ rfl
  simp only [Try.ntmps31, List.size_toArray, List.length_cons, List.length_nil, Nat.reduceAdd, Nat.reduceSub, Array.replicate_succ, Array.replicate_zero, List.push_toArray, List.append_toArray, List.nil_append, List.cons_append]
  gi_wp2_with (refine ⟨trivial, ?_⟩; gi_at_call 33; refine (callsIn_wide.2 HM.out).mono ?_; rintro x _ ⟨rfl, rfl⟩)
  exact ⟨.tuple #[.int .i64 0, .int .i64 0], by simp [results, Try.results31, go_sem], rfl, rfl⟩
set_option maxRecDepth 100000 in
set_option maxHeartbeats 1000000 in
theorem Clone_no (h : NoT w v) : Calls Try.prog 16 #[v] w fun e w' => e = .returned (.pointer none) ∧ w = w' := by
  have HM := Lib.hid (made_no h)
  clear h
  refine (callsIn_wide (n := 20)).1 ?_
  refine callsIn_of_wp_marks Try.func16 rfl trivial ?_ rfl
  simp only [Try.ntmps16, List.size_toArray, List.length_cons, List.length_nil, Nat.reduceAdd, Nat.reduceSub, Array.replicate_succ, Array.replicate_zero, List.push_toArray, List.append_toArray, List.nil_append, List.cons_append]
  gi_wp2_with (refine ⟨trivial, ?_⟩; gi_at_call 33; refine (callsIn_wide.2 HM.out).mono ?_; rintro x _ ⟨rfl, rfl⟩)
  exact ⟨.pointer none, by simp [results, Try.results16, go_sem], rfl, rfl⟩
set_option maxRecDepth 100000 in
set_option maxHeartbeats 1000000 in
theorem Next_no (p : Int) (h : NoT w v) : Calls Try.prog 19 #[v, .int .i64 p] w fun e w' => e = .returned (three (0, 0, 5)) ∧ Below w.heap.size w w' := by
  obtain ⟨W1, hW1⟩ : ∃ W1, ((w.alloc (.cells #[.int .i64 0] 3)).alloc (.cells #[.int .i64 0] 3)).alloc (.cells #[.int .i64 0] 32) = W1 := ⟨_, rfl⟩
  have hb1 : Below w.heap.size w W1 := by rw [← hW1]; exact ((bnew _ _).alloc (by simp) _).alloc (by simp; omega) _
  have HM := Lib.hid (made_no (h.below hb1))
  rw [← hW1] at HM
  clear h hW1 hb1 W1
  refine (callsIn_wide (n := 20)).1 ?_
  refine callsIn_of_wp_marks Try.func19 rfl trivial ?_ rfl
  simp only [Try.ntmps19, List.size_toArray, List.length_cons, List.length_nil, Nat.reduceAdd, Nat.reduceSub, Array.replicate_succ, Array.replicate_zero, List.push_toArray, List.append_toArray, List.nil_append, List.cons_append]
  gi_wp2_with (refine ⟨trivial, ?_⟩; gi_at_call 33; refine (callsIn_wide.2 HM.out).mono ?_; rintro x _ ⟨rfl, rfl⟩)
  refine ⟨three (0, 0, 5), by simp [results, Try.results19, go_sem, three], rfl, ?_⟩
  repeat (refine Below.setCell (p := ⟨_, _, none⟩) ?_ (by simp; try omega) _)
  exact ((bnew _ _).alloc (by simp) _).alloc (by simp; omega) _

/-- Same of two maps whose marks are known. -/
theorem same_gen {v' : Value} {l l' : List Mk} (hl : l.length ≤ 2048) (h1 : Calls Try.prog 29 #[v] w (MarksPost w l)) (h2 : ∀ W, Below w.heap.size w W → Calls Try.prog 29 #[v'] W (MarksPost W l')) :
    Calls Try.prog 25 #[v, v'] w fun e w' => e = .returned (.bool (eqM l l')) ∧ Below w.heap.size w w' := by
  have HA := Lib.hid h1
  have H2 := Lib.hid h2
  clear h1 h2
  go_enter Try.func25, Try.ntmps25
  go_wp2_with fail
  refine HA.out.mono ?_
  rintro e w1 ⟨A, c, rfl, hM1, hb1⟩
  have HB := Lib.hid (H2.out _ hb1)
  have HM1 := Lib.hid hM1
  have HB1 := Lib.hid hb1
  clear hM1 hb1
  go_wp2_with fail
  refine HB.out.mono ?_
  rintro e w2 ⟨A', c', rfl, hM2, hb2⟩
  have HC := Lib.hid (eq42_any A A' c c' _ _ _ _ w2 hl (HM1.out.below hb2) hM2)
  have HB2 := Lib.hid hb2
  clear hM2 hb2
  go_wp2_with fail
  refine HC.out.mono ?_
  rintro e w3 ⟨rfl, hb3⟩
  have HB3 := Lib.hid hb3
  clear hb3
  go_wp2_with fail
  go_ret
  exact ⟨rfl, btr (btr HB1.out HB2.out (Nat.le_refl _)) HB3.out (Nat.le_refl _)⟩
end

end Go.Proofs.Ytdjfeibcbmelcaa
