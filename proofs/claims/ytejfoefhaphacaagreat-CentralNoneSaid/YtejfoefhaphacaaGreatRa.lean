/- The document's span: Objects, object, Take, Put, IsTaken, Index. -/
import Derived.Test.YtejfoefhaphacaaGreatZa
namespace Go.Proofs.YtejfoefhaphacaaGreat
open Go.RowKit

set_option maxHeartbeats 1000000 in
theorem rObjects_any {O : Nat → Prop} {v : Value} {om : Option Mo} {w : World} (h : Ob true w O v om) :
    Calls Tryz.prog 61 #[v] w fun e w' => e = .returned (.int .i64 (numO om)) ∧ w = w' := by
  cases om with
  | none =>
    have HM := Lib.hid (rmade_no h.1)
    clear h
    go_enter Tryz.func61, Tryz.ntmps61
    go_wp2_with (go_at_call 58; refine HM.out.mono ?_; rintro e w1 ⟨rfl, rfl⟩)
    go_ret
    exact ⟨rfl, rfl⟩
  | some m =>
    obtain ⟨B, A, c, rfl, h⟩ := h
    have HM := Lib.hid (rmade_any h)
    have c4 : w.cell? ⟨B, 4, none⟩ = some (.slice (some ⟨A, 0, none⟩) m.n c) := h.cells.2.2.2.2
    clear h
    go_enter Tryz.func61, Tryz.ntmps61
    go_wp2_with (go_at_call 58; refine HM.out.mono ?_; rintro e w1 ⟨rfl, rfl⟩)
    go_ret
    exact ⟨rfl, rfl⟩

def objI (m : Mo) (a : Int) : Int := match obO m a with
  | some k => k
  | none => -1
theorem objI_some {m : Mo} {a : Int} {k : Nat} (h : obO m a = some k) : objI m a = k := by simp only [objI, h]
theorem objI_none {m : Mo} {a : Int} (h : obO m a = none) : objI m a = -1 := by simp only [objI, h]

set_option maxRecDepth 100000 in
set_option maxHeartbeats 1000000 in
theorem object_any {O : Nat → Prop} {B A c : Nat} {m : Mo} {w : World} (h : SpA true w O B A c m) (a : Int) :
    Calls Tryz.prog 92 #[.pointer (some ⟨B, 0, none⟩), .int .i64 a] w fun e w' => e = .returned (.int .i64 (objI m a)) ∧ Below w.heap.size w w' := by
  have HA := Lib.hid (fun (W : World) (hb : Below w.heap.size w W) (k : Nat) (hk : k ≤ m.n) => at_any (h.below hb) k hk)
  have HC := Lib.hid (fun (W : World) (hb : Below w.heap.size w W) => show W.cell? ⟨B, 4, none⟩ = some (.slice (some ⟨A, 0, none⟩) m.n c) from (h.below hb).cells.2.2.2.2)
  have HN := Lib.hid (fun (hn : ∀ j, j < m.n → a ≠ adr m j) => objI_none (obO_none h.wf hn))
  have HS := Lib.hid (fun (k : Nat) (hk : k < m.n) (e : a = adr m k) => objI_some (obO_some h.wf hk e))
  have hn2 := h.wf.n2
  clear h
  generalize objI m a = I at *
  generalize hD : adr m = D at *
  clear hD
  generalize m.n = n at *
  go_enter Tryz.func92, Tryz.ntmps92
  go_wp2_with fail
  go_loopw [5] (fun i wr => ∃ k : Nat, k ≤ n ∧ i = .int .i64 k ∧ Below w.heap.size w wr ∧ ∀ j, j < k → a ≠ D j) (fun i _ => n - (intOf i).toNat)
  case atStart => exact ⟨0, by omega, rfl, Below.refl _ _, fun j hj => by omega⟩
  case round =>
    obtain ⟨k, hk, rfl, hb, hon⟩ := hrel
    have c4 := HC.out wr hb
    have HB := Lib.hid hb
    have HON := Lib.hid hon
    clear hb hon
    by_cases hlt : k < n
    · have HAK := Lib.hid (HA.out wr HB.out k (by omega))
      by_cases he : a = (D k : Int)
      · have HE := Lib.hid (HS.out k hlt he)
        have ht : ((D k : Int) == a) = true := by simp [he]
        clear he
        go_wp2_with (go_at_call 69; refine HAK.out.mono ?_; rintro e w1 ⟨rfl, nq, rfl⟩)
        go_ret
        exact ⟨ret_int HE.out.symm, belowN HB.out _⟩
      · have ht : ((D k : Int) == a) = false := by simp; omega
        have HNE := Lib.hid he
        clear he
        go_wp2_with (go_at_call 69; refine HAK.out.mono ?_; rintro e w1 ⟨rfl, nq, rfl⟩)
        go_roundw
        case rel => exact ⟨k + 1, by omega, by go_num, belowN HB.out _, fun j hj => by
          by_cases e : j = k
          · rw [e]; exact HNE.out
          · exact HON.out j (by omega)⟩
        case measure => simp [intOf]; omega
    · have HE := Lib.hid (HN.out fun j hj => HON.out j (by omega))
      go_wp2_with fail
      go_ret
      exact ⟨ret_int HE.out.symm, HB.out⟩

set_option maxRecDepth 100000 in
set_option maxHeartbeats 1000000 in
theorem rTake_any {O : Nat → Prop} {v : Value} {om : Option Mo} {w : World} (h : Ob true w O v om) :
    Calls Tryz.prog 62 #[v] w fun e w' => e = .returned (.tuple #[.int .i64 (tkV om), .int .i64 (tkE om)]) ∧ Mut true w O v (tkD om) w' := by
  have H := Lib.hid h
  cases om with
  | none =>
    have HM := Lib.hid (rmade_no h.1)
    clear h
    go_enter Tryz.func62, Tryz.ntmps62
    go_wp2_with (go_at_call 58; refine HM.out.mono ?_; rintro e w1 ⟨rfl, rfl⟩)
    go_ret2
    exact ⟨rfl, H.out, Keep.refl _ _⟩
  | some m =>
    obtain ⟨B, A, c, rfl, h⟩ := h
    have HM := Lib.hid (rmade_any h)
    have c4 : w.cell? ⟨B, 4, none⟩ = some (.slice (some ⟨A, 0, none⟩) m.n c) := h.cells.2.2.2.2
    have hn2 := h.wf.n2
    have HH := Lib.hid h
    clear h
    obtain ⟨n, hn⟩ : ∃ n, m.n = n := ⟨_, rfl⟩
    have HN := Lib.hid hn
    rw [hn] at c4 hn2
    clear hn
    go_enter Tryz.func62, Tryz.ntmps62
    go_wp2_with (go_at_call 58; refine HM.out.mono ?_; rintro e w1 ⟨rfl, rfl⟩)
    go_loopw [4] (fun i wr => ∃ k : Nat, k ≤ n ∧ i = .int .i64 k ∧ wr = w ∧ ∀ j, j < k → m.f j = true) (fun i _ => n - (intOf i).toNat)
    case atStart => exact ⟨0, by omega, rfl, rfl, fun j hj => by omega⟩
    case round =>
      obtain ⟨k, hk, rfl, rfl, hon⟩ := hrel
      by_cases hlt : k < n
      · have cy := HH.out.a.cell k (by rw [HN.out]; exact hlt)
        have cf := HH.out.a.free k (by rw [HN.out]; exact hlt)
        cases hf : m.f k with
        | true =>
          rw [hf] at cy
          replace cy : wr.cell? ⟨A, k, none⟩ = some (.bool true) := cy
          have HON := Lib.hid hon
          have HF := Lib.hid hf
          clear hon hf
          go_wp2_with fail
          go_roundw
          case rel => exact ⟨k + 1, by omega, by go_num, trivial, fun j hj => by
            by_cases e : j = k
            · rw [e]; exact HF.out
            · exact HON.out j (by omega)⟩
          case measure => simp [intOf]; omega
        | false =>
          rw [hf] at cy
          replace cy : wr.cell? ⟨A, k, none⟩ = some (.bool false) := cy
          have hff := ff_some (m := m) (k := k) (by rw [HN.out]; exact hlt) hf hon
          have HV := Lib.hid (tkV_some hff)
          have HE := Lib.hid (tkE_some hff)
          have HD := Lib.hid (tkD_some hff)
          have hst := HH.out.set k true
          rw [show aF true true = .bool true from rfl] at hst
          have hdN : (m.set k true).n = n := HN.out
          have HST := Lib.hid hst
          have hd4 : (wr.setCell ⟨A, k, none⟩ (.bool true)).cell? ⟨B, 4, none⟩ = some (.slice (some ⟨A, 0, none⟩) n c) := by rw [← hdN]; exact hst.cells.2.2.2.2
          have HAT := Lib.hid (at_any hst k (by rw [hdN]; omega))
          have HAD := Lib.hid (show adr (m.set k true) k = adr m k from rfl)
          clear hon hf hff hst hdN
          go_wp2_with (go_at_call 69; refine HAT.out.mono ?_; rintro e w1 ⟨rfl, nq, rfl⟩)
          go_ret2
          refine ⟨?_, ?_, ?_⟩
          · rw [HV.out, HE.out, ← HAD.out]; rfl
          · rw [HD.out]; exact (HST.out.below (belowN (Below.refl _ _) _)).ob'
          · exact ((Keep.refl O wr).set (a := ⟨A, k, none⟩) (.inl HH.out.oa) _).trans (Keep.of (belowN (Below.refl _ _) _))
      · have hff := ff_none (m := m) (fun j hj => hon j (by have := HN.out; omega))
        have HV := Lib.hid (tkV_none hff)
        have HE := Lib.hid (tkE_none hff)
        have HD := Lib.hid (tkD_none hff)
        clear hon hff
        go_wp2_with fail
        go_ret2
        exact ⟨by rw [HV.out, HE.out]; rfl, by rw [HD.out]; exact H.out, Keep.refl _ _⟩

set_option maxRecDepth 100000 in
set_option maxHeartbeats 1000000 in
theorem rPut_any {O : Nat → Prop} {v : Value} {om : Option Mo} {w : World} (h : Ob true w O v om) (a : Int) :
    Calls Tryz.prog 64 #[v, .int .i64 a] w fun e w' => e = .returned (.int .i64 (ptE om a)) ∧ Mut true w O v (ptD om a) w' := by
  have H := Lib.hid h
  cases om with
  | none =>
    have HM := Lib.hid (rmade_no h.1)
    clear h
    go_enter Tryz.func64, Tryz.ntmps64
    go_wp2_with (go_at_call 58; refine HM.out.mono ?_; rintro e w1 ⟨rfl, rfl⟩)
    go_ret
    exact ⟨rfl, H.out, Keep.refl _ _⟩
  | some m =>
    obtain ⟨B, A, c, rfl, h⟩ := h
    have HM := Lib.hid (rmade_any h)
    have HO := object_any h a
    have hwf := h.wf
    cases e : obO m a with
    | none =>
      rw [objI_none e] at HO
      have HO := Lib.hid HO
      rw [ptE_none e, ptD_none e]
      clear h hwf e
      go_enter Tryz.func64, Tryz.ntmps64
      go_wp2_with (first | (go_at_call 58; refine HM.out.mono ?_; rintro e w1 ⟨rfl, rfl⟩) | (go_at_call 92; refine HO.out.mono ?_; rintro e w1 ⟨rfl, hb1⟩; have HB1 := Lib.hid hb1; clear hb1))
      go_ret
      exact ⟨rfl, Mut.same H.out HB1.out⟩
    | some k =>
      rw [objI_some e] at HO
      have HO := Lib.hid HO
      have hk := (obO_get hwf e).1
      have hkn := hwf.n2
      have HC4 := Lib.hid fun (w1 : World) (hb : Below w.heap.size w w1) => (show w1.cell? ⟨B, 4, none⟩ = some (.slice (some ⟨A, 0, none⟩) m.n c) from (h.below hb).cells.2.2.2.2)
      have HCK := Lib.hid fun (w1 : World) (hb : Below w.heap.size w w1) => And.intro ((h.below hb).a.cell k hk) ((h.below hb).a.free k hk)
      have HS := Lib.hid h
      cases hf : m.f k with
      | true =>
        rw [ptE_on e hf, ptD_on e hf]
        rw [hf] at HCK
        have HU := Lib.hid fun w1 hb => (show w1.cell? ⟨A, k, none⟩ = some (.bool true) ∧ w1.frozen? ⟨A, k, none⟩ = false from HCK.out w1 hb)
        clear h hwf e hf HCK
        go_enter Tryz.func64, Tryz.ntmps64
        go_wp2_with (first | (go_at_call 58; refine HM.out.mono ?_; rintro e w1 ⟨rfl, rfl⟩) | (go_at_call 92; refine HO.out.mono ?_; rintro e w1 ⟨rfl, hb1⟩; have HB1 := Lib.hid hb1; have c4 := HC4.out _ hb1; obtain ⟨ck, fk⟩ := HU.out _ hb1; clear hb1))
        go_ret
        have hst := (HS.out.below HB1.out).set k false
        exact ⟨rfl, hst.ob', (Keep.of HB1.out).set (a := ⟨A, k, none⟩) (.inl HS.out.oa) _⟩
      | false =>
        rw [ptE_off e hf, ptD_off e hf]
        rw [hf] at HCK
        have HU := Lib.hid fun w1 hb => (show w1.cell? ⟨A, k, none⟩ = some (.bool false) ∧ w1.frozen? ⟨A, k, none⟩ = false from HCK.out w1 hb)
        clear h hwf e hf HCK
        go_enter Tryz.func64, Tryz.ntmps64
        go_wp2_with (first | (go_at_call 58; refine HM.out.mono ?_; rintro e w1 ⟨rfl, rfl⟩) | (go_at_call 92; refine HO.out.mono ?_; rintro e w1 ⟨rfl, hb1⟩; have HB1 := Lib.hid hb1; have c4 := HC4.out _ hb1; obtain ⟨ck, fk⟩ := HU.out _ hb1; clear hb1))
        go_ret
        exact ⟨rfl, Mut.same H.out HB1.out⟩

set_option maxRecDepth 100000 in
set_option maxHeartbeats 1000000 in
theorem rIsTaken_any {O : Nat → Prop} {v : Value} {om : Option Mo} {w : World} (h : Ob true w O v om) (a : Int) :
    Calls Tryz.prog 71 #[v, .int .i64 a] w fun e w' => e = .returned (.tuple #[.bool (isV om a), .int .i64 (isE om a)]) ∧ Below w.heap.size w w' := by
  cases om with
  | none =>
    have HM := Lib.hid (rmade_no h.1)
    clear h
    go_enter Tryz.func71, Tryz.ntmps71
    go_wp2_with (go_at_call 58; refine HM.out.mono ?_; rintro e w1 ⟨rfl, rfl⟩)
    go_ret2
    exact ⟨rfl, Below.refl _ _⟩
  | some m =>
    obtain ⟨B, A, c, rfl, h⟩ := h
    have HM := Lib.hid (rmade_any h)
    have HO := object_any h a
    have hwf := h.wf
    cases e : obO m a with
    | none =>
      rw [objI_none e] at HO
      have HO := Lib.hid HO
      rw [isV_none e, isE_none e]
      clear h hwf e
      go_enter Tryz.func71, Tryz.ntmps71
      go_wp2_with (first | (go_at_call 58; refine HM.out.mono ?_; rintro e w1 ⟨rfl, rfl⟩) | (go_at_call 92; refine HO.out.mono ?_; rintro e w1 ⟨rfl, hb1⟩; have HB1 := Lib.hid hb1; clear hb1))
      go_ret2
      exact ⟨rfl, HB1.out⟩
    | some k =>
      rw [objI_some e] at HO
      have HO := Lib.hid HO
      rw [isV_some e, isE_some e]
      have hk := (obO_get hwf e).1
      have hkn := hwf.n2
      have HC4 := Lib.hid fun (w1 : World) (hb : Below w.heap.size w w1) => (show w1.cell? ⟨B, 4, none⟩ = some (.slice (some ⟨A, 0, none⟩) m.n c) from (h.below hb).cells.2.2.2.2)
      have HCK := Lib.hid fun (w1 : World) (hb : Below w.heap.size w w1) => (show w1.cell? ⟨A, k, none⟩ = some (.bool (m.f k)) from (h.below hb).a.cell k hk)
      clear h hwf e
      generalize m.f k = fk at *
      go_enter Tryz.func71, Tryz.ntmps71
      go_wp2_with (first | (go_at_call 58; refine HM.out.mono ?_; rintro e w1 ⟨rfl, rfl⟩) | (go_at_call 92; refine HO.out.mono ?_; rintro e w1 ⟨rfl, hb1⟩; have HB1 := Lib.hid hb1; have c4 := HC4.out _ hb1; have ck := HCK.out _ hb1; clear hb1))
      go_ret2
      exact ⟨rfl, HB1.out⟩

theorem adr_succ (m : Mo) (k : Nat) : adr m (k + 1) = adr m k + m.z := by unfold adr; rw [Nat.add_mul, Nat.one_mul]; omega

set_option maxRecDepth 100000 in
set_option maxHeartbeats 1000000 in
theorem rIndex_any {O : Nat → Prop} {v : Value} {om : Option Mo} {w : World} (h : Ob true w O v om) (a : Int) :
    Calls Tryz.prog 68 #[v, .int .i64 a] w fun e w' => e = .returned (.tuple #[.int .i64 (ixV om a), .int .i64 (ixE om a)]) ∧ Below w.heap.size w w' := by
  cases om with
  | none =>
    have HM := Lib.hid (rmade_no h.1)
    clear h
    go_enter Tryz.func68, Tryz.ntmps68
    go_wp2_with (go_at_call 58; refine HM.out.mono ?_; rintro e w1 ⟨rfl, rfl⟩)
    go_ret2
    exact ⟨rfl, Below.refl _ _⟩
  | some m =>
    obtain ⟨B, A, c, rfl, h⟩ := h
    have HM := Lib.hid (rmade_any h)
    have HA := Lib.hid (fun (W : World) (hb : Below w.heap.size w W) (k : Nat) (hk : k ≤ m.n) => at_any (h.below hb) k hk)
    have HC := Lib.hid (fun (W : World) (hb : Below w.heap.size w W) => show W.cell? ⟨B, 4, none⟩ = some (.slice (some ⟨A, 0, none⟩) m.n c) from (h.below hb).cells.2.2.2.2)
    have HN := Lib.hid (fun (hn : ∀ j, j < m.n → ¬ ((adr m j : Int) ≤ a ∧ a < (adr m (j + 1) : Int))) => (show ixV (some m) a = 0 ∧ ixE (some m) a = 8 from by
      have e := idO_none h.wf (a := a) (fun k hk => by have := hn k hk; rw [adr_succ] at this; omega)
      exact ⟨ixV_none e, ixE_none e⟩))
    have HS := Lib.hid (fun (k : Nat) (hk : k < m.n) (e1 : (adr m k : Int) ≤ a) (e2 : a < (adr m (k + 1) : Int)) => (show ixV (some m) a = k ∧ ixE (some m) a = 0 from by
      have e := idO_some h.wf hk e1 (by rw [adr_succ] at e2; omega)
      exact ⟨ixV_some e, ixE_some e⟩))
    have hn2 := h.wf.n2
    have HBD := Lib.hid (fun (k : Nat) (hk : k ≤ m.n) => (adr_bd h.wf hk).1)
    clear h
    generalize ixV (some m) a = IV at *
    generalize ixE (some m) a = IE at *
    generalize hD : adr m = D at *
    clear hD
    generalize m.n = n at *
    go_enter Tryz.func68, Tryz.ntmps68
    go_wp2_with (go_at_call 58; refine HM.out.mono ?_; rintro e w1 ⟨rfl, rfl⟩)
    go_loopw [6] (fun i wr => ∃ k : Nat, k ≤ n ∧ i = .int .i64 k ∧ Below w.heap.size w wr ∧ ∀ j, j < k → ¬ ((D j : Int) ≤ a ∧ a < (D (j + 1) : Int))) (fun i _ => n - (intOf i).toNat)
    case atStart => exact ⟨0, by omega, rfl, Below.refl _ _, fun j hj => by omega⟩
    case round =>
      obtain ⟨k, hk, rfl, hb, hon⟩ := hrel
      have c4 := HC.out wr hb
      have HB := Lib.hid hb
      have HON := Lib.hid hon
      clear hb hon
      by_cases hlt : k < n
      · have HAK := Lib.hid (HA.out wr HB.out k (by omega))
        have HAS := Lib.hid (fun (W : World) (hb : Below wr.heap.size wr W) => HA.out W (HB.out.trans (hb.mono HB.out.size)) (k + 1) (by omega))
        obtain ⟨K1, hK1⟩ : ∃ K1 : Int, (k : Int) + 1 = K1 := ⟨_, rfl⟩
        rw [show (((k + 1 : Nat)) : Int) = K1 from by omega] at HAS
        obtain ⟨D0, hD0⟩ : ∃ D0, D k = D0 := ⟨_, rfl⟩
        obtain ⟨D1, hD1⟩ : ∃ D1, D (k + 1) = D1 := ⟨_, rfl⟩
        have HSk := HS.out k hlt
        have HNk := Lib.hid (fun (hn : ¬ ((D0 : Int) ≤ a ∧ a < (D1 : Int))) j (hj : j < k + 1) => (show ¬ ((D j : Int) ≤ a ∧ a < (D (j + 1) : Int)) from by
          by_cases e : j = k
          · rw [e, hD0, hD1]; exact hn
          · exact HON.out j (by omega)))
        rw [hD0] at HAK
        rw [hD1] at HAS
        rw [hD0, hD1] at HSk
        clear hD0 hD1 HS HN HBD HA HC
        by_cases h1 : (D0 : Int) ≤ a
        · by_cases h2 : a < (D1 : Int)
          · have HE := Lib.hid (HSk h1 h2)
            clear HSk
            go_wp2_with (first | (go_at_call 69; refine HAK.out.mono ?_; rintro e w1 ⟨rfl, nq, rfl⟩; clear HAK) | (go_at_call 69; refine (HAS.out _ (belowN (Below.refl _ _) _)).mono ?_; rintro e w1 ⟨rfl, nr, rfl⟩))
            go_ret2
            exact ⟨by rw [HE.out.1, HE.out.2]; rfl, belowN HB.out _⟩
          · have HNE := Lib.hid (show ¬ ((D0 : Int) ≤ a ∧ a < (D1 : Int)) from fun h => h2 h.2)
            have hq : decide (a < (D1 : Int)) = false := decide_eq_false h2
            have HK1 := Lib.hid hK1
            clear h2 HSk
            go_wp2_with (first | (go_at_call 69; refine HAK.out.mono ?_; rintro e w1 ⟨rfl, nq, rfl⟩; clear HAK) | (go_at_call 69; refine (HAS.out _ (belowN (Below.refl _ _) _)).mono ?_; rintro e w1 ⟨rfl, nr, rfl⟩))
            go_roundw
            case rel => exact ⟨k + 1, by omega, by have := HK1.out; congr 1; omega, belowN HB.out _, HNk.out HNE.out⟩
            case measure => have := HK1.out; simp [intOf]; omega
        · have HNE := Lib.hid (show ¬ ((D0 : Int) ≤ a ∧ a < (D1 : Int)) from fun h => h1 h.1)
          have HK1 := Lib.hid hK1
          clear HSk
          go_wp2_with (go_at_call 69; refine HAK.out.mono ?_; rintro e w1 ⟨rfl, nq, rfl⟩)
          go_roundw
          case rel => exact ⟨k + 1, by omega, by have := HK1.out; congr 1; omega, belowN HB.out _, HNk.out HNE.out⟩
          case measure => have := HK1.out; simp [intOf]; omega
      · have HE := Lib.hid (HN.out fun j hj => HON.out j (by omega))
        go_wp2_with fail
        go_ret2
        exact ⟨by rw [HE.out.1, HE.out.2]; rfl, HB.out⟩

end Go.Proofs.YtejfoefhaphacaaGreat
