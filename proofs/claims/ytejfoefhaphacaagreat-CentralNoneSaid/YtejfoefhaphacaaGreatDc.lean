/- The document's list: span, IsTaken. -/
import Derived.Test.YtejfoefhaphacaaGreatDb
namespace Go.Proofs.YtejfoefhaphacaaGreat
open Go.RowKit Go.Shelf

def spV : Option Nat → Int
  | none => -1
  | some i => i
set_option maxRecDepth 100000 in
set_option maxHeartbeats 2000000 in
theorem dspan_any {O : Nat → Prop} {B : Nat} {V : Value} {X : List Sn} {c : Ce} {w : World} (h : LiA true w O B V X c) (a : Int) : Calls Tryz.prog 63 #[.pointer (some ⟨B, 0, none⟩), .int .i64 a] w fun e w' => e = .returned (.int .i64 (spV (spI c.L a))) ∧ Below w.heap.size w w' := by
  have HH := Lib.hid h
  have hlen := h.len
  have hmax := h.wf.len
  have HWF := Lib.hid h.wf
  obtain ⟨A, cap, rfl⟩ := owns_form h.row
  obtain ⟨N, hN⟩ : ∃ N, X.length = N := ⟨_, rfl⟩
  have HN := Lib.hid hN
  have HL := Lib.hid (show c.L.length = N from by rw [← hlen]; exact hN)
  have hN4 : N ≤ 1024 := by omega
  clear h hlen hmax hN
  go_enter Tryz.func63, Tryz.ntmps63
  go_wp2_with fail
  go_loopw [5] (fun i wr => ∃ k : Nat, k ≤ N ∧ i = .int .i64 k ∧ Below w.heap.size w wr ∧ ∀ j m, j < k → c.L[j]? = some m → obO m a = none) (fun i _ => N - (intOf i).toNat)
  case atStart => exact ⟨0, by omega, rfl, Below.refl _ _, fun j m hj => by omega⟩
  case round =>
    obtain ⟨k, hk, rfl, hb, hno⟩ := hrel
    have c3 := (HH.out.below hb).cells.2.2.2
    rw [HN.out] at c3
    have HB := Lib.hid hb
    have HNO := Lib.hid hno
    by_cases hlt : k < N
    · obtain ⟨x, hx⟩ : ∃ x, X[k]? = some x := ⟨_, List.getElem?_eq_getElem (by have := HN.out; omega)⟩
      obtain ⟨g, cap2, hV, hc⟩ := (HH.out.below hb).slot hx
      obtain ⟨rfl, rfl⟩ : A = some ⟨g, 0, none⟩ ∧ cap = cap2 := by injection hV; exact ⟨by assumption, by assumption⟩
      have HD := Lib.hid (rIsTaken_any ((HH.out.below hb).span hx) a)
      have HM := Lib.hid (HH.out.at hx)
      cases hob : obO x.m a with
      | some q =>
        have HS := Lib.hid (HWF.out.spn HM.out hob)
        rw [show isE (some x.m) a = 0 from by simp only [isE, hob]] at HD
        clear hV hx hb hno hob
        generalize isV (some x.m) a = iv at *
        go_wp2_with (go_at_call 71; refine HD.out.mono ?_; rintro e w2 ⟨rfl, hbq⟩; have HB2 := Lib.hid (btr HB.out hbq (Nat.le_refl _)); clear hbq)
        go_ret
        rw [HS.out]
        exact ⟨rfl, HB2.out⟩
      | none =>
        have HQ := Lib.hid (show ∀ j m, j < k + 1 → c.L[j]? = some m → obO m a = none from fun j m hj hm => by
          by_cases hjk : j = k
          · subst hjk; rw [HM.out] at hm; injection hm with hm; subst hm; exact hob
          · exact HNO.out j m (by omega) hm)
        rw [show isE (some x.m) a = 8 from by simp only [isE, hob]] at HD
        clear hV hx hb hno hob
        generalize isV (some x.m) a = iv at *
        go_wp2_with (go_at_call 71; refine HD.out.mono ?_; rintro e w2 ⟨rfl, hbq⟩; have HB2 := Lib.hid (btr HB.out hbq (Nat.le_refl _)); clear hbq)
        go_roundw
        case rel => exact ⟨k + 1, by omega, by go_num, HB2.out, HQ.out⟩
        case measure => simp [intOf]; omega
    · have HS := Lib.hid (show spI c.L a = none from fi_none fun j m hm => by
        rw [hno j m (by have := (List.getElem?_eq_some_iff.1 hm).1; have := HL.out; omega) hm]; rfl)
      clear hb hno
      go_wp2_with fail
      go_ret
      rw [HS.out]
      exact ⟨rfl, HB.out⟩

set_option maxRecDepth 100000 in
set_option maxHeartbeats 2000000 in
theorem dIsTaken_any {O : Nat → Prop} {v : Value} {om : Option Ce} {w : World} (h : LOb true w O v om) (a : Int) :
    Calls Tryz.prog 33 #[v, .int .i64 a] w fun e w' => e = .returned (.tuple #[.bool (liV om a), .int .i64 (liE om a)]) ∧ Below w.heap.size w w' := by
  cases om with
  | none =>
    have HM := Lib.hid (dmade_no h.1)
    clear h
    go_enter Tryz.func33, Tryz.ntmps33
    go_wp2_with (go_at_call 23; refine HM.out.mono ?_; rintro e w1 ⟨rfl, rfl⟩)
    go_ret2
    exact ⟨rfl, Below.refl _ _⟩
  | some c =>
    obtain ⟨B, V, X, rfl, h⟩ := h
    have HM := Lib.hid (dmade_any h)
    have HSP := Lib.hid (dspan_any h a)
    cases hs : spI c.L a with
    | none =>
      rw [hs] at HSP
      rw [liV_none hs, liE_none hs, show spV none = -1 from rfl] at *
      clear h hs
      go_enter Tryz.func33, Tryz.ntmps33
      go_wp2_with (first
        | (go_at_call 23; refine HM.out.mono ?_; rintro e w1 ⟨rfl, rfl⟩)
        | (go_at_call 63; refine HSP.out.mono ?_; rintro e w2 ⟨rfl, hb⟩; have HB := Lib.hid hb; clear hb))
      go_ret2
      exact ⟨rfl, HB.out⟩
    | some i =>
      obtain ⟨m, hm, hp⟩ := fi_get hs
      obtain ⟨q, hq⟩ := Option.isSome_iff_exists.1 hp
      obtain ⟨x, hx⟩ := h.get (i := i) (List.getElem?_eq_some_iff.1 hm).1
      have hxm : x.m = m := by have := h.at hx; rw [hm] at this; injection this with this; exact this.symm
      rw [hs] at HSP
      rw [liV_some hs hm, show liE (some c) a = isE (some m) a from by rw [liE_some hs]; simp only [isE, hq]]
      rw [show spV (some i) = (i : Int) from rfl] at HSP
      have HD := Lib.hid (fun W (hb : Below w.heap.size w W) => rIsTaken_any ((h.below hb).span hx) a)
      rw [hxm] at HD
      have HH := Lib.hid h
      have hil : i < X.length := (List.getElem?_eq_some_iff.1 hx).1
      have hmax : X.length ≤ 1024 := by rw [h.len]; exact h.wf.len
      have HC := Lib.hid (fun W (hb : Below w.heap.size w W) => show ∃ g cap, V = .slice (some ⟨g, 0, none⟩) X.length cap ∧ W.cell? ⟨B, 3, none⟩ = some V ∧ W.cell? ⟨g, i, none⟩ = some (.pointer (some ⟨x.B, 0, none⟩)) from by
        obtain ⟨g, cap2, hV, hc⟩ := (h.below hb).slot hx
        exact ⟨g, cap2, hV, (h.below hb).cells.2.2.2, hc⟩)
      generalize isV (some m) a = iv at *
      generalize isE (some m) a = ie at *
      clear h hs hm hp hq hx hxm
      go_enter Tryz.func33, Tryz.ntmps33
      go_wp2_with (first
        | (go_at_call 23; refine HM.out.mono ?_; rintro e w1 ⟨rfl, rfl⟩)
        | (go_at_call 63; refine HSP.out.mono ?_; rintro e w2 ⟨rfl, hb⟩; have HB := Lib.hid hb; obtain ⟨g, cap2, hV, k1, k2⟩ := HC.out _ hb; subst hV; clear hb)
        | (go_at_call 71; refine (HD.out _ HB.out).mono ?_; rintro e w3 ⟨rfl, hb⟩; have HB3 := Lib.hid (btr HB.out hb (Nat.le_refl _)); clear hb))
      go_ret2
      exact ⟨rfl, HB3.out⟩

end Go.Proofs.YtejfoefhaphacaaGreat
