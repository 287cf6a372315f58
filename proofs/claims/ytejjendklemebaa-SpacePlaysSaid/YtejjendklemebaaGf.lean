/- The document's own space: Words, Copy. -/
import Derived.Test.YtejjendklemebaaGe
namespace Go.Proofs.Ytejjendklemebaa
open Go.RowKit

def WordsPost (w : World) (k : Nat) (f : Nat → Int) (e : Ending) (w' : World) : Prop :=
  ∃ A c, e = .returned (.tuple #[.slice A k c, .int .i64 0]) ∧ IntsAt w' A k f ∧ (∀ g, A = some ⟨g, 0, none⟩ → w.heap.size ≤ g) ∧ Below w.heap.size w w'
def intL (f : Nat → Int) (t : Nat) : List Value := (List.range t).map fun j => .int .i64 (f j)
theorem intL_succ (f : Nat → Int) (t : Nat) : intL f (t + 1) = intL f t ++ [.int .i64 (f t)] := by unfold intL; rw [List.range_succ, List.map_append]; rfl
theorem intL_len (f : Nat → Int) (t : Nat) : (intL f t).length = t := by simp [intL]
theorem ints_of_owns {w : World} {base t : Nat} {v : Value} {f : Nat → Int} (h : w.ownsRow base 3 1 v t (intL f t)) : ∃ A c, v = .slice A t c ∧ IntsAt w A t f ∧ ∀ g, A = some ⟨g, 0, none⟩ → base ≤ g := by
  rcases h.2 with ⟨rfl, rfl⟩ | ⟨g, cap, cur, rfl, hb, hg, _⟩
  · exact ⟨none, 0, rfl, fun i hi => by omega, fun g hg => by cases hg⟩
  · refine ⟨_, cap, rfl, fun i hi => ⟨g, rfl, (Array.getElem?_eq_some_iff.1 hg).1, ?_⟩, fun g' hg' => by cases hg'; exact hb⟩
    refine (owns_cell h ?_).1
    unfold intL
    simp [hi]
theorem cells1_new (w : World) (a : Value) (t : TypeId) : ∀ j u, [a][j]? = some u → (w.alloc (.cells #[a] t)).cell? ((⟨w.heap.size, 0, none⟩ : Addr).add j) = some u := by
  intro j u h
  obtain rfl : j = 0 := by
    have := (List.getElem?_eq_some_iff.1 h).1
    simp at this
    omega
  obtain rfl : a = u := by simpa using h
  go_simp

set_option maxRecDepth 100000 in
set_option maxHeartbeats 1000000 in
theorem rWords_bad {O : Nat → Prop} {R : Nat} {m : Mo} {w : World} (a k : Int) (h : Rf w O R m) (ha : -9223372036854775808 ≤ a ∧ a ≤ 9223372036854775807) (he : chkE m k a ≠ 0) :
    Calls Try.prog 46 #[.pointer (some ⟨R, 0, none⟩), .int .i64 a, .int .i64 k] w fun e w' => e = .returned (.tuple #[.slice none 0 0, .int .i64 (chkE m k a)]) ∧ w = w' := by
  have HM := Lib.hid (rmade_any h)
  by_cases hk : k < 0 ∨ 32768 < k
  · have hce : chkE m k a = 1 := by unfold chkE; rw [if_pos hk]
    rw [hce]
    clear hce h ha he
    by_cases hk0 : k < 0
    · clear hk
      go_enter Try.func46, Try.ntmps46
      go_wp2_with fail
      refine HM.out.mono ?_; rintro e _ ⟨rfl, rfl⟩
      go_wp2_with fail
      go_ret2
      exact ⟨rfl, rfl⟩
    · have hk1 : 32768 < k := by omega
      clear hk
      go_enter Try.func46, Try.ntmps46
      go_wp2_with fail
      refine HM.out.mono ?_; rintro e _ ⟨rfl, rfl⟩
      go_wp2_with fail
      go_ret2
      exact ⟨rfl, rfl⟩
  · have hc := rcan_any a k h ha (by omega) (by omega)
    have hk0 : 0 ≤ k := by omega
    have hk1 : k ≤ 32768 := by omega
    have hacc : accM m a k ≠ true := fun hh => he (by unfold chkE; rw [if_neg hk, if_pos hh])
    have hf : accM m a k = false := by simpa using hacc
    rw [hf] at hc
    have HC := Lib.hid hc
    have hce : chkE m k a = 7 := by unfold chkE; rw [if_neg hk, if_neg hacc]
    rw [hce]
    clear hc hacc hf hce h ha hk he
    go_enter Try.func46, Try.ntmps46
    go_wp2_with fail
    refine HM.out.mono ?_; rintro e _ ⟨rfl, rfl⟩
    go_wp2_with fail
    refine HC.out.mono ?_; rintro e _ ⟨rfl, rfl⟩
    go_wp2_with fail
    go_ret2
    exact ⟨rfl, rfl⟩

set_option maxRecDepth 100000 in
set_option maxHeartbeats 1000000 in
theorem rWords_any {O : Nat → Prop} {R : Nat} {m : Mo} {w : World} (a k : Int) (h : Rf w O R m) (ha : -9223372036854775808 ≤ a ∧ a ≤ 9223372036854775807) (he : chkE m k a = 0) :
    Calls Try.prog 46 #[.pointer (some ⟨R, 0, none⟩), .int .i64 a, .int .i64 k] w (WordsPost w k.toNat fun j => m.hd ((a / 8).toNat + j)) := by
  have HM := Lib.hid (rmade_any h)
  obtain ⟨hk0, hk1, hacc⟩ := chkE_zero he
  have hc := rcan_any a k h ha hk0 hk1
  rw [hacc] at hc
  have HC := Lib.hid hc
  obtain ⟨S, H, cs, ch, h⟩ := h
  have hn2 := h.wf.n2
  have HR := Lib.hid h
  obtain ⟨i0, hi, hz0, hz1, hz2⟩ := info_parts Try.info3
  have HI := Lib.hid (And.intro hi (And.intro hz0 (And.intro hz1 hz2)))
  clear hc he h hi hz0 hz1 hz2
  rcases accM_run hacc hk0 with rfl | ⟨i, L, rfl, rfl, hL, hiL, _⟩
  · clear hacc ha
    go_enter Try.func46, Try.ntmps46
    go_wp2_with fail
    refine HM.out.mono ?_; rintro e _ ⟨rfl, rfl⟩
    go_wp2_with fail
    refine HC.out.mono ?_; rintro e _ ⟨rfl, rfl⟩
    go_wp2_with fail
    go_loopw [8, 9] (fun v i wr => v = .slice none 0 0 ∧ i = .int .i64 0 ∧ Below w.heap.size w wr) (fun _ _ _ => 0)
    case atStart => exact ⟨rfl, rfl, Below.refl _ _⟩
    case round =>
      obtain ⟨rfl, rfl, hb⟩ := hrel
      have HB := Lib.hid hb
      clear hb
      go_wp2_with fail
      go_ret2
      exact ⟨none, 0, rfl, (by intro i hi; simp at hi), (by intro g hg; cases hg), HB.out⟩
  · have hi2 : i + L ≤ 32768 := by omega
    have HIL := Lib.hid hiL
    rw [show (8 * (i : Int) / 8).toNat = i from by omega, Int.toNat_natCast]
    obtain ⟨f, hf⟩ : ∃ f : Nat → Int, f = fun j => m.hd (i + j) := ⟨_, rfl⟩
    rw [← hf]
    have HF := Lib.hid hf
    obtain ⟨nn, hnn⟩ : ∃ nn, nn = m.n := ⟨_, rfl⟩
    have HN := Lib.hid hnn
    have hnb : nn ≤ 1024 := by omega
    have hnl : i + L ≤ nn * 32 := by omega
    clear hacc ha hiL hf hnn
    go_enter Try.func46, Try.ntmps46
    go_wp2_with fail
    refine HM.out.mono ?_; rintro e _ ⟨rfl, rfl⟩
    go_wp2_with fail
    refine HC.out.mono ?_; rintro e _ ⟨rfl, rfl⟩
    go_wp2_with fail
    go_loopw [8, 9] (fun v x wr => ∃ t : Nat, t ≤ L ∧ x = .int .i64 t ∧ wr.ownsRow w.heap.size 3 1 v t (intL f t) ∧ Below w.heap.size w wr) (fun _ x _ => L - (intOf x).toNat)
    case atStart => exact ⟨0, by omega, rfl, ⟨rfl, .inl ⟨rfl, rfl⟩⟩, Below.refl _ _⟩
    case round =>
      obtain ⟨t, ht, rfl, ho, hb⟩ := hrel
      by_cases hlt : t < L
      · obtain ⟨Ax, cx, rfl⟩ := owns_form ho
        have hR := HR.out.below hb
        have c1 := hR.c1
        have g0 := hR.h.cell (i + t) (by have := HN.out; omega)
        rw [show m.hd (i + t) = f t from by rw [HF.out]] at g0
        rw [← HN.out] at c1
        have hsuc := intL_succ f t
        have HSU := Lib.hid hsuc
        generalize f t = V at g0 HSU
        have HO := Lib.hid ho
        have HB := Lib.hid hb
        clear hR ho hb hsuc
        obtain ⟨hi, hz0, hz1, hz2⟩ := HI.out
        go_wp2_with (at_builtin; go_loud (refine wpList_append_own _ rfl _ _ 49 rfl w.heap.size 3 i0 (.int .i64 0) 1 8 Try.underlying49 hi hz0 hz1 hz2 rfl (by decide) _ _ _ rfl (HO.out.alloc _) ⟨wr.heap.size, 0, none⟩ 1 1 [.int .i64 V] rfl rfl (cells1_new wr _ _) (by simp [Value.oneCell']) (by unfold maxLen; omega) (by omega) (by have := HB.out.size; simp; omega) ?_); intro v' w5 hown' hgrow _; have hB5 : Below w.heap.size w w5 := (HB.out.alloc HB.out.size _).grown hgrow (by have := HB.out.size; simp; omega) (fun k e => (HO.out.lt k e).1); have HO5 := Lib.hid hown'; have HB5 := Lib.hid hB5; clear hown' hgrow hB5)
        go_roundw
        case rel => exact ⟨t + 1, by omega, by go_num, by rw [HSU.out]; exact HO5.out, HB5.out⟩
        case measure => simp [intOf]; omega
      · obtain rfl : t = L := by omega
        obtain ⟨A, c, rfl, hI, hA⟩ := ints_of_owns ho
        have HII := Lib.hid hI
        have HAA := Lib.hid hA
        have HB := Lib.hid hb
        clear ho hb hI hA
        go_wp2_with fail
        go_ret2
        exact ⟨A, c, rfl, HII.out, HAA.out, HB.out⟩

end Go.Proofs.Ytejjendklemebaa
