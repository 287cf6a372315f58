/- Runs, New, Clone. -/
import Derived.Test.YtnmejilpifmlnaaDoorRb
import Derived.Deep.AppendLies
import Derived.Deep.RegionHeld3
namespace Go.Proofs.YtnmejilpifmlnaaDoor
open Go.RowKit

set_option maxRecDepth 100000 in
set_option maxHeartbeats 2000000 in
theorem Runs_any {O : Nat → Prop} {B : Nat} {m : Mo} {w : World} (h : Hp w O B m) : Calls Tryd.prog 43 #[.pointer (some ⟨B, 0, none⟩)] w (RunsPost w m.rs) := by
  have HM := Lib.hid (made_any h)
  have HH := Lib.hid h
  obtain ⟨i0, hi, hz0, hz1, hz2⟩ := info_parts Tryd.info92
  have HI := Lib.hid (And.intro hi (And.intro hz0 (And.intro hz1 hz2)))
  obtain ⟨n, hn⟩ : ∃ n, m.n = n := ⟨_, rfl⟩
  have HN := Lib.hid hn
  have hn2 : n ≤ 1024 := by have := h.wf.n2; omega
  have hrs : m.rs = runsL (stF m.F) 1 n := by unfold Mo.rs; rw [hn]
  rw [hrs]
  clear h hn hi hz0 hz1 hz2 hrs
  go_enter Tryd.func43, Tryd.ntmps43
  go_wp2_with (go_at_call 33; refine HM.out.mono ?_; rintro x _ ⟨rfl, rfl⟩)
  go_loopw [3, 4] (fun v i wr => ∃ k j : Nat, i = .int .i64 k ∧ j ≤ n ∧ (k = j ∨ (k = n + 1 ∧ j = n)) ∧ (j = 0 ∨ m.F (j - 1) = false ∨ k = n + 1) ∧ RunsIn w wr (stF m.F) 1 j v) (fun _ i _ => n + 1 - (intOf i).toNat)
  case atStart => exact ⟨0, 0, rfl, by omega, .inl rfl, .inl rfl, ⟨⟨rfl, .inl ⟨rfl, rfl⟩⟩, Below.refl _ _⟩⟩
  case round =>
    obtain ⟨k, j, rfl, hjn, hkj, hgap, hR⟩ := hrel
    have hHp := HH.out.below hR.bel
    obtain ⟨A, cap, mb, hA⟩ := hHp
    have c0 := hA.c0
    rw [HN.out] at c0
    by_cases hlt : k < n
    · obtain rfl : k = j := by omega
      have hg2 : k = 0 ∨ m.F (k - 1) = false := by
        rcases hgap with h | h | h
        · exact .inl h
        · exact .inr h
        · omega
      have HG := Lib.hid hg2
      have hfe := freeEnd_any k n (HH.out.below hR.bel) (by omega) (by have := HN.out; omega)
      have HFE := Lib.hid hfe
      obtain ⟨Ax, cx, rfl⟩ := hR.form
      have hlen := rr_len (stF m.F) 1 k
      have HR := Lib.hid hR
      clear hA hgap hkj hg2 hfe hR
      generalize hL : (rr (stF m.F) 1 k).length = L at hlen
      have HL := Lib.hid hL
      clear hL
      go_wp2_with fail
      refine HFE.out.mono ?_
      rintro x w1 ⟨⟨r, hr, rfl⟩, hb1⟩
      have HR1 := Lib.hid (HR.out.then hb1)
      have hr1 := hr.lo
      have hr2 := hr.hi
      have HRF := Lib.hid hr
      have d0 := (hb1.cell (p := ⟨B, 0, none⟩) (World.block_lt_of_cell? _ _ c0)).trans c0
      clear hr hb1 c0
      by_cases hkr : k < r
      · have HB1 := Lib.hid HR1.out.bel
        have HO1 := HR1.out.own
        rw [HL.out] at HO1
        have HOWN := Lib.hid HO1
        obtain ⟨hi, hz0, hz1, hz2⟩ := HI.out
        clear HO1
        go_wp2_with (at_builtin; go_loud (refine wpList_append_own _ rfl _ _ 70 rfl w.heap.size 92 i0 (.agg #[.int .i64 0, .int .i64 0]) 2 16 Tryd.underlying70 hi hz0 hz1 hz2 rfl (by decide) _ _ _ rfl (HOWN.out.alloc _) ⟨w1.heap.size, 0, none⟩ 1 1 [.int .i64 k, .int .i64 ((r : Int) - (k : Int))] rfl rfl (cells2_new w1 _ _ _) (by simp [Value.oneCell']) (by unfold maxLen; omega) (by omega) (by have := HB1.out.size; simp at this ⊢; omega) ?_); intro v' w5 hown' hgrow _; have hB5 : Below w.heap.size w w5 := (HB1.out.alloc HB1.out.size _).grown hgrow (by have := HB1.out.size; simp at this ⊢; omega) (fun k e => (HOWN.out.lt k e).1); have HO5 := Lib.hid hown'; have HB5 := Lib.hid hB5; clear hown' hgrow hB5)
        go_roundw
        case rel =>
          have hpush : RunsIn w w5 (stF m.F) 1 r v' := RunsIn.push HG.out hkr HRF.out.on (by rw [HL.out]; exact HO5.out) HB5.out
          by_cases hrn : r < n
          · exact ⟨r + 1, r + 1, by go_num, by omega, .inl rfl, .inr (.inl (HRF.out.off hrn)), hpush.skip (stF_f (HRF.out.off hrn))⟩
          · exact ⟨r + 1, r, by go_num, by omega, .inr ⟨by omega, by omega⟩, .inr (.inr (by omega)), hpush⟩
        case measure => simp [intOf]; omega
      · obtain rfl : r = k := by omega
        go_wp2
        go_roundw
        case rel =>
          have hF := HRF.out.off hlt
          have := HR1.out.skip (stF_f hF)
          rw [HL.out] at this
          exact ⟨r + 1, r + 1, by go_num, by omega, .inl rfl, .inr (.inl hF), this⟩
        case measure => simp [intOf]; omega
    · clear hA
      go_wp2
      go_ret
      obtain rfl : j = n := by omega
      exact hR.done

end Go.Proofs.YtnmejilpifmlnaaDoor
