/- The document's list: Find. -/
import Derived.Test.YtejfoefhaphacaaGreatDc
namespace Go.Proofs.YtejfoefhaphacaaGreat
open Go.RowKit Go.Shelf

set_option maxRecDepth 100000 in
set_option maxHeartbeats 2000000 in
theorem dFind_any {O : Nat → Prop} {v : Value} {om : Option Ce} {w : World} (h : LOb true w O v om) (a : Int) :
    Calls Tryz.prog 31 #[v, .int .i64 a] w fun e w' => e = .returned (.tuple #[.int .i64 (fdV om a), .int .i64 (fdE om a)]) ∧ Below w.heap.size w w' := by
  cases om with
  | none =>
    have HM := Lib.hid (dmade_no h.1)
    clear h
    go_enter Tryz.func31, Tryz.ntmps31
    go_wp2_with (go_at_call 23; refine HM.out.mono ?_; rintro e w1 ⟨rfl, rfl⟩)
    go_ret2
    exact ⟨rfl, Below.refl _ _⟩
  | some c =>
    obtain ⟨B, V, X, rfl, h⟩ := h
    have HMD := Lib.hid (dmade_any h)
    have HH := Lib.hid h
    have hlen := h.len
    have hmax := h.wf.len
    have HWF := Lib.hid h.wf
    obtain ⟨A, cap, rfl⟩ := owns_form h.row
    obtain ⟨N, hN⟩ : ∃ N, X.length = N := ⟨_, rfl⟩
    have HN := Lib.hid hN
    have HL := Lib.hid (show c.L.length = N from by rw [← hlen]; exact hN)
    have hN4 : N ≤ 1024 := by omega
    clear h hlen hmax hN
    go_enter Tryz.func31, Tryz.ntmps31
    go_wp2_with (go_at_call 23; refine HMD.out.mono ?_; rintro e w1 ⟨rfl, rfl⟩)
    go_loopw [6] (fun i wr => ∃ k : Nat, k ≤ N ∧ i = .int .i64 k ∧ Below w.heap.size w wr ∧ ∀ j m, j < k → c.L[j]? = some m → idO m a = none) (fun i _ => N - (intOf i).toNat)
    case atStart => exact ⟨0, by omega, rfl, Below.refl _ _, fun j m hj => by omega⟩
    case round =>
      obtain ⟨k, hk, rfl, hb, hno⟩ := hrel
      have c3 := (HH.out.below hb).cells.2.2.2
      rw [HN.out] at c3
      have HB := Lib.hid hb
      have HNO := Lib.hid hno
      by_cases hlt : k < N
      · obtain ⟨x, hx⟩ : ∃ x, X[k]? = some x := ⟨_, List.getElem?_eq_getElem (by have := HN.out; omega)⟩
        obtain ⟨g, cap2, hV, hc⟩ := (HH.out.below hb).slot hx
        obtain ⟨rfl, rfl⟩ : A = some ⟨g, 0, none⟩ ∧ cap = cap2 := by injection hV; exact ⟨by assumption, by assumption⟩
        have HD := Lib.hid (rIndex_any ((HH.out.below hb).span hx) a)
        have HM := Lib.hid (HH.out.at hx)
        cases hob : idO x.m a with
        | some q =>
          have HS := Lib.hid (HWF.out.bi HM.out hob)
          have hwf := (HWF.out.at HM.out).wf
          have hqn := (idO_get hwf hob).1
          have HAT := Lib.hid (fun W (hb2 : Below wr.heap.size wr W) => at_any (((HH.out.below hb).below hb2).sp k x hx) q (Nat.le_of_lt hqn))
          have HCC := Lib.hid (fun W (hb2 : Below wr.heap.size wr W) => show W.cell? ⟨B, 3, none⟩ = some (.slice (some ⟨g, 0, none⟩) N cap) ∧ W.cell? ⟨g, k, none⟩ = some (.pointer (some ⟨x.B, 0, none⟩)) from
            ⟨(hb2.cell (p := ⟨B, 3, none⟩) (World.block_lt_of_cell? _ _ c3)).trans c3, (hb2.cell (p := ⟨g, k, none⟩) (World.block_lt_of_cell? _ _ hc)).trans hc⟩)
          rw [show ixE (some x.m) a = 0 from by simp only [ixE, hob], show ixV (some x.m) a = (q : Int) from by simp only [ixV, hob]] at HD
          have HFV := Lib.hid (show fdV (some c) a = adr x.m q ∧ fdE (some c) a = 0 from ⟨by rw [fdV_some HS.out HM.out, show ixV (some x.m) a = (q : Int) from by simp only [ixV, hob]]; rfl, fdE_some HS.out⟩)
          clear hV hx hb hno hob hwf
          go_wp2_with (first
            | (go_at_call 68; refine HD.out.mono ?_; rintro e w2 ⟨rfl, hbq⟩; have HB2 := Lib.hid (btr HB.out hbq (Nat.le_refl _)); have HBQ := Lib.hid hbq; obtain ⟨l1, l2⟩ := HCC.out _ hbq; clear hbq c3 hc)
            | (go_at_call 69; refine (HAT.out _ HBQ.out).mono ?_; rintro e w3 ⟨rfl, jd, rfl⟩))
          go_ret2
          rw [HFV.out.1, HFV.out.2]
          exact ⟨rfl, belowN HB2.out _⟩
        | none =>
          have HQ := Lib.hid (show ∀ j m, j < k + 1 → c.L[j]? = some m → idO m a = none from fun j m hj hm => by
            by_cases hjk : j = k
            · subst hjk; rw [HM.out] at hm; injection hm with hm; subst hm; exact hob
            · exact HNO.out j m (by omega) hm)
          rw [show ixE (some x.m) a = 8 from by simp only [ixE, hob]] at HD
          clear hV hx hb hno hob
          generalize ixV (some x.m) a = iv at *
          go_wp2_with (go_at_call 68; refine HD.out.mono ?_; rintro e w2 ⟨rfl, hbq⟩; have HB2 := Lib.hid (btr HB.out hbq (Nat.le_refl _)); clear hbq)
          go_roundw
          case rel => exact ⟨k + 1, by omega, by go_num, HB2.out, HQ.out⟩
          case measure => simp [intOf]; omega
      · have HS := Lib.hid (show biI c.L a = none from fi_none fun j m hm => by
          rw [hno j m (by have := (List.getElem?_eq_some_iff.1 hm).1; have := HL.out; omega) hm]; rfl)
        clear hb hno
        go_wp2_with fail
        go_ret2
        rw [fdV_none HS.out, fdE_none HS.out]
        exact ⟨rfl, HB.out⟩

end Go.Proofs.YtejfoefhaphacaaGreat
