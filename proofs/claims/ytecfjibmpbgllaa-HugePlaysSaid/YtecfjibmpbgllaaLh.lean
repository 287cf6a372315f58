/- Package huge: the candidates of a plan. -/
import Derived.Test.YtecfjibmpbgllaaLg
namespace Go.Proofs.Ytecfjibmpbgllaa
open Go.RowKit Go.Shelf

theorem NatsAt.base {w : World} {N N' : Nat} {A : Option Addr} {l : List Nat} (h : NatsAt w N A l) (hN : N' ≤ N) : NatsAt w N' A l := fun i x hi => by
  obtain ⟨g, e, h1, h2⟩ := h i x hi
  exact ⟨g, e, Nat.le_trans hN h1, h2⟩

theorem ord_len_cands (S : Nat → Nat) (h : Nat) (h64 : h ≤ 64) : (ordN S h).length = (cands S h).length := by
  have hp : (ordN S h).Perm (cands S h) := (List.perm_ext_iff_of_nodup ((ordN_ok S h h64).pw.imp fun {a b} h1 e => by rw [e] at h1; omega) (cands_nodup S h)).2 fun k => by
    rw [(ordN_ok S h h64).mem, cands_mem]
  exact hp.length_eq

set_option maxRecDepth 100000 in
set_option maxHeartbeats 1000000 in
theorem candidates_any {O : Nat → Prop} {B : Nat} {m : Mo} {w : World} (h : Tk w O B m) :
    Calls Try.prog 59 #[.pointer (some ⟨B, 0, none⟩)] w (NatsPost w (ordN m.S m.h)) := by
  obtain ⟨W0, hW0⟩ : ∃ W0, w.alloc (.cells #[.pointer (some ⟨B, 0, none⟩)] 25) = W0 := ⟨_, rfl⟩
  have hb0 : Below w.heap.size w W0 := by rw [← hW0]; exact bnew _ _
  have hz0 : W0.cell? ⟨w.heap.size, 0, none⟩ = some (.pointer (some ⟨B, 0, none⟩)) := by rw [← hW0]; clear hW0; go_simp
  have hs0 : W0.heap.size = w.heap.size + 1 := by rw [← hW0]; simp
  have h2 := h.wf.h2
  have HH := Lib.hid (fun (w' : World) (hb : Below w.heap.size w w') => huges_any (h.below hb))
  obtain ⟨A, cap, hA⟩ := h
  have hOlt := hA.lt
  have HA := Lib.hid hA
  have HB0 := Lib.hid hb0
  obtain ⟨i0, hi, hz0', hz1, hz2⟩ := info_parts Try.info3
  have HI := Lib.hid (And.intro hi (And.intro hz0' (And.intro hz1 hz2)))
  clear hA hi hz0' hz1 hz2 hb0
  obtain ⟨n, hn⟩ : ∃ n, n = m.h := ⟨_, rfl⟩
  have HN := Lib.hid hn
  rw [← hn] at h2 HH
  clear hn
  go_enter Try.func59, Try.ntmps59
  go_wp2_with (go_at_call 70; refine (HH.out _ HB0.out).mono ?_; rintro e w1 ⟨rfl, rfl⟩)
  go_loopw [3, 7] (fun v i wr => ∃ k : Nat, k ≤ n ∧ i = .int .i64 k ∧ wr.ownsRow W0.heap.size 3 1 v (cands m.S k).length (natC (cands m.S k)) ∧ Below W0.heap.size W0 wr) (fun _ i _ => n - (intOf i).toNat)
  case atStart => exact ⟨0, by omega, rfl, ⟨rfl, .inl ⟨rfl, rfl⟩⟩, Below.refl _ _⟩
  case round =>
    obtain ⟨k, hk, rfl, ho, hb⟩ := hrel
    have hlen := cands_len m.S k
    have HO := Lib.hid ho
    have HB := Lib.hid hb
    have hzr := (hb.cell (p := ⟨w.heap.size, 0, none⟩) (by show w.heap.size < W0.heap.size; omega)).trans hz0
    obtain ⟨Ax, cx, rfl⟩ := owns_form ho
    have hbw := btr HB0.out (hb.mono (by rw [hs0]; omega)) (Nat.le_refl _)
    by_cases hlt : k < n
    · have hA := HA.out.below (hbw.mono (Nat.le_refl _))
      have hkm : k < m.h := by have := HN.out; omega
      have HOF := Lib.hid (of_any k hA hkm)
      have HC := Lib.hid (Contains_any A (16 * k) 16 (cap - 16 * k) 2 m.S wr (by omega) (hA.sl (by omega)))
      clear ho hb hbw hA hkm
      cases ha : anyS m.S 2 (16 * k) 16
      · have HS := Lib.hid (cands_miss ha)
        rw [ha] at HC
        clear ha
        go_wp2_with fail
        refine HOF.out.mono ?_
        rintro e _ ⟨rfl, rfl⟩
        go_wp2_with fail
        refine HC.out.mono ?_
        rintro e _ ⟨rfl, rfl⟩
        go_wp2_with fail
        go_roundw
        case rel => exact ⟨k + 1, by omega, by go_num, by rw [HS.out]; exact HO.out, HB.out⟩
        case measure => simp [intOf]; omega
      · have HS := Lib.hid (cands_hit ha)
        rw [ha] at HC
        clear ha
        generalize hL : cands m.S k = L at *
        have HL := Lib.hid hL
        clear hL
        obtain ⟨hi, hz0', hz1, hz2⟩ := HI.out
        go_wp2_with fail
        refine HOF.out.mono ?_
        rintro e _ ⟨rfl, rfl⟩
        go_wp2_with fail
        refine HC.out.mono ?_
        rintro e _ ⟨rfl, rfl⟩
        go_wp2_with (at_builtin; go_loud (refine wpList_append_own _ rfl _ _ 47 rfl W0.heap.size 3 i0 (.int .i64 0) 1 8 Try.underlying47 hi hz0' hz1 hz2 rfl (by decide) _ _ _ rfl (HO.out.alloc _) ⟨wr.heap.size, 0, none⟩ 1 1 [.int .i64 k] rfl rfl (cells1_new wr _ _) (by simp [Value.oneCell']) (by unfold maxLen; omega) (by omega) (by have := HB.out.size; simp; omega) ?_); intro v' w5 hown' hgrow _; have hB5 : Below W0.heap.size W0 w5 := (HB.out.alloc HB.out.size _).grown hgrow (by have := HB.out.size; simp; omega) (fun k e => (HO.out.lt k e).1); have HO5 := Lib.hid hown'; have HB5 := Lib.hid hB5; clear hown' hgrow hB5)
        go_roundw
        case rel => exact ⟨k + 1, by omega, by go_num, by rw [HS.out, natC_app, List.length_append]; exact HO5.out, HB5.out⟩
        case measure => simp [intOf]; omega
    · have hkn : k = m.h := by have := HN.out; omega
      subst hkn
      have hT : Tk wr O B m := ⟨A, cap, HA.out.below (hbw.mono (Nat.le_refl _))⟩
      have hol := ord_len_cands m.S m.h (by have := hT.wf.h2; omega)
      rcases HO.out.2 with ⟨hv, h0⟩ | ⟨g, cap', cur, hv, hgb, hgc, hcc, hcm, hcs, hct⟩
      · injection hv with e1 e2 e3
        subst e1 e3
        rw [e2]
        have hce : ordN m.S m.h = [] := List.eq_nil_of_length_eq_zero (by omega)
        have HCE := Lib.hid hce
        have HBW := Lib.hid hbw
        have HNO := Lib.hid (fun fv => AnyF.slices_SortFunc_none (P := Try.prog) { Try.sortHuge with } none 0 fv wr)
        clear ho hb hbw hT hce hlen hol h0 e2
        go_wp2_with fail
        refine (HNO.out _).mono ?_
        rintro e _ ⟨rfl, rfl⟩
        go_wp2_with fail
        go_ret
        rw [HCE.out]
        exact ⟨none, 0, rfl, NatsAt.nil _ _, HBW.out.mono (Nat.le_refl _)⟩
      · cases hv
        have hgs := (Array.getElem?_eq_some_iff.1 hgc).1
        have hgO : ¬ O g := fun ho => by have := hOlt g ho; omega
        have hsort := sort_any (c := cx) hT hzr hgO (by omega) hgs (fun i x hx => owns_cell HO.out (by unfold natC; rw [List.getElem?_map, hx]; rfl))
        have HSO := Lib.hid hsort
        have HOL := Lib.hid hol
        have HBW := Lib.hid hbw
        have hgb2 : w.heap.size ≤ g := by omega
        clear ho hb hbw hT hsort hol hlen hct hcs hgc
        go_wp2_with fail
        refine HSO.out.mono ?_
        rintro e w3 ⟨rfl, hK, hcell⟩
        have HK := Lib.hid hK
        have HCE := Lib.hid hcell
        clear hK hcell
        go_wp2_with fail
        go_ret
        refine ⟨some ⟨g, 0, none⟩, cx, congrArg (fun L => Ending.returned (.slice (some ⟨g, 0, none⟩) L cx)) HOL.out.symm, fun i x hx => ⟨g, rfl, by exact hgb2, Nat.lt_of_lt_of_le hgs HK.out.size, HCE.out i x hx⟩, ?_⟩
        have hKK := HK.out
        have hBB := HBW.out
        exact ⟨hKK.os.trans hBB.os, hKK.tape.trans hBB.tape, hKK.output.trans hBB.output, Nat.le_trans hBB.size hKK.size, fun j hj => (hKK.block j (by omega) (by omega)).trans (hBB.block j hj)⟩

end Go.Proofs.Ytecfjibmpbgllaa
