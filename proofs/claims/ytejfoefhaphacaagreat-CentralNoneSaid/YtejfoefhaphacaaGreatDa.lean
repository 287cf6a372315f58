/- The document's list: made, Class, Spans. -/
import Derived.Test.YtejfoefhaphacaaGreatCm
import Derived.Test.YtejfoefhaphacaaGreatRc
namespace Go.Proofs.YtejfoefhaphacaaGreat
open Go.RowKit Go.Shelf

set_option maxHeartbeats 400000 in
theorem dmade_any {O : Nat → Prop} {B : Nat} {V : Value} {X : List Sn} {c : Ce} {w : World} (h : LiA true w O B V X c) : Calls Tryz.prog 23 #[.pointer (some ⟨B, 0, none⟩)] w fun e w' => e = .returned (.bool true) ∧ w = w' := by
  have c0 := h.cells.1
  have hz := h.wf.z1
  clear h
  go_enter Tryz.func23, Tryz.ntmps23
  go_wp2
  go_ret
  exact ⟨ret_bool (by simp; omega), rfl⟩
set_option maxHeartbeats 400000 in
theorem dmade_no {O : Nat → Prop} {v : Value} {w : World} (h : NoL w O v) : Calls Tryz.prog 23 #[v] w fun e w' => e = .returned (.bool false) ∧ w = w' := by
  rcases h with rfl | ⟨B, rfl, _, hc⟩
  · go_enter Tryz.func23, Tryz.ntmps23
    go_wp2
    go_ret
    exact ⟨rfl, rfl⟩
  · go_enter Tryz.func23, Tryz.ntmps23
    go_wp2
    go_ret
    exact ⟨rfl, rfl⟩

set_option maxRecDepth 100000 in
set_option maxHeartbeats 1000000 in
theorem dClass_any {O : Nat → Prop} {v : Value} {om : Option Ce} {w : World} (h : LOb true w O v om) :
    Calls Tryz.prog 39 #[v] w fun e w' => e = .returned (clC om) ∧ Below w.heap.size w w' := by
  have hb := bnew w (.cells #[.int .i64 0, .int .i64 0, .int .i64 0] 23)
  replace h := h.below hb
  clear hb
  cases om with
  | none =>
    have HM := Lib.hid (dmade_no h.1)
    clear h
    go_enter Tryz.func39, Tryz.ntmps39
    go_wp2_with (go_at_call 23; refine HM.out.mono ?_; rintro e w1 ⟨rfl, rfl⟩)
    exact bodyPost_ret (v := .agg #[.int .i64 0, .int .i64 0, .int .i64 0]) (by simp [results, Tryz.results39, go_sem]) rfl ⟨rfl, bnew _ _⟩
  | some c =>
    obtain ⟨B, V, X, rfl, h⟩ := h
    have HM := Lib.hid (dmade_any h)
    obtain ⟨W0, hW⟩ : ∃ W0, W0 = w.alloc (.cells #[.int .i64 0, .int .i64 0, .int .i64 0] 23) := ⟨_, rfl⟩
    rw [← hW] at h
    obtain ⟨d0, d1, d2, d3⟩ := h.cells
    rw [hW] at d0 d1 d2
    clear h d3 hW W0
    go_enter Tryz.func39, Tryz.ntmps39
    go_wp2_with (go_at_call 23; refine HM.out.mono ?_; rintro e w1 ⟨rfl, rfl⟩)
    exact bodyPost_ret (v := .agg #[.int .i64 c.z, .int .i64 c.g, .int .i64 c.t]) (by simp [results, Tryz.results39, go_sem]) rfl ⟨rfl, bnew _ _⟩

set_option maxRecDepth 100000 in
set_option maxHeartbeats 2000000 in
theorem dSpans_any {O : Nat → Prop} {v : Value} {om : Option Ce} {w : World} (h : LOb true w O v om) : Calls Tryz.prog 40 #[v] w (RsP w (runs om)) := by
  cases om with
  | none =>
    have HM := Lib.hid (dmade_no h.1)
    clear h
    go_enter Tryz.func40, Tryz.ntmps40
    go_wp2_with (go_at_call 23; refine HM.out.mono ?_; rintro e w1 ⟨rfl, rfl⟩)
    go_ret
    exact ⟨none, 0, rfl, fun i a b hi => by simp [runs] at hi, (fun x hx => nomatch hx), Below.refl _ _⟩
  | some c =>
    obtain ⟨i0, hi, hz0, hz1, hz2⟩ := info_parts infoRun
    obtain ⟨B, V, X, rfl, h⟩ := h
    have HM := Lib.hid (dmade_any h)
    have HH := Lib.hid h
    have hlen := h.len
    have hmax := h.wf.len
    obtain ⟨A, cap, rfl⟩ := owns_form h.row
    have c3 := h.cells.2.2.2
    obtain ⟨N, hN⟩ : ∃ N, X.length = N := ⟨_, rfl⟩
    have HN := Lib.hid hN
    have HE := Lib.hid (show runs (some c) = c.L.map (fun m => (m.s, m.g)) from rfl)
    rw [hN] at c3 hlen
    have HL := Lib.hid hlen
    have hN4 : N ≤ 1024 := by omega
    generalize runs (some c) = R at *
    clear h hlen hmax hN
    go_enter Tryz.func40, Tryz.ntmps40
    go_wp2_with (go_at_call 23; refine HM.out.mono ?_; rintro e w1 ⟨rfl, rfl⟩)
    clear c3
    go_loopw [3, 4] (fun t i wr => ∃ k : Nat, k ≤ N ∧ i = .int .i64 k ∧ wr.ownsRow w.heap.size 55 2 t (R.take k).length (cellsR (R.take k)) ∧ Below w.heap.size w wr) (fun _ i _ => N - (intOf i).toNat)
    case atStart => exact ⟨0, by omega, rfl, World.ownsRow_nil _ _ _ _, Below.refl _ _⟩
    case round =>
      obtain ⟨k, hk, rfl, hrow, hb⟩ := hrel
      have c3 := (HH.out.below hb).cells.2.2.2
      rw [HN.out] at c3
      obtain ⟨A', c', rfl⟩ := owns_form hrow
      have HR := Lib.hid hrow
      have HB := Lib.hid hb
      have hll : (R.take k).length ≤ 1024 := by rw [List.length_take]; omega
      by_cases hlt : k < N
      · obtain ⟨x, hx⟩ : ∃ x, X[k]? = some x := ⟨_, List.getElem?_eq_getElem (by have := HN.out; omega)⟩
        obtain ⟨g, cap2, hV, hc⟩ := (HH.out.below hb).slot hx
        obtain ⟨rfl, rfl⟩ : A = some ⟨g, 0, none⟩ ∧ cap = cap2 := by injection hV; exact ⟨by assumption, by assumption⟩
        have HD := Lib.hid (rRun_any ((HH.out.below hb).span hx))
        have hs2 : R.take (k + 1) = R.take k ++ [(x.m.s, x.m.g)] := by
          rw [List.take_add_one, HE.out, List.getElem?_map, HH.out.at hx]; rfl
        have HS := Lib.hid hs2
        rw [show runV (some x.m) = .agg #[.int .i64 x.m.s, .int .i64 x.m.g] from rfl] at HD
        clear hV hx hs2 hrow hb
        generalize R.take k = L at *
        generalize x.m.s = sx at *
        generalize x.m.g = gx at *
        go_wp2_with (first
          | (go_at_call 66; refine HD.out.mono ?_; rintro e w2 ⟨rfl, hbq⟩; have hB2 := HB.out.trans (hbq.mono HB.out.size); have hr2 := owns_below HR.out hbq; clear hbq; have HB2 := Lib.hid hB2; have HR2 := Lib.hid hr2; clear hr2 hB2)
          | (at_builtin; refine wpList_append_own _ rfl _ _ 49 rfl w.heap.size 55 i0 (.agg #[.int .i64 0, .int .i64 0]) 2 16 undRuns hi hz0 hz1 hz2 rfl (by decide) _ _ _ rfl (HR2.out.alloc _) ⟨w2.heap.size, 0, none⟩ 1 1 [.int .i64 sx, .int .i64 gx] rfl rfl (cells2_new w2 _ _ _) (by simp [Value.oneCell']) (by unfold maxLen; omega) (by omega) (by have := HB2.out.size; simp; omega) ?_; intro v' w3 hown' hgrow _; have HB3 := Lib.hid ((HB2.out.alloc HB2.out.size _).grown hgrow (by have := HB2.out.size; simp; omega) (fun k e => (HR2.out.lt k e).1)); have HO3 := Lib.hid hown'; clear hown' hgrow))
        go_roundw
        case rel => exact ⟨k + 1, by omega, by go_num, by rw [HS.out, cellsR_app, List.length_append]; exact HO3.out, HB3.out⟩
        case measure => simp [intOf]; omega
      · obtain rfl : k = N := by omega
        have e : R.take k = R := List.take_of_length_le (by rw [HE.out, List.length_map, ← HL.out]; exact Nat.le_refl _)
        rw [e] at HR
        obtain ⟨A2, c2, hv⟩ := owns_form HR.out
        have hl : (R.take k).length = R.length := by rw [e]
        rw [hl] at *
        have HF := Lib.hid (rs_of HR.out)
        clear hrow hb hv e hl
        go_wp2_with fail
        go_ret
        exact ⟨A', c', rfl, HF.out.1, HF.out.2, HB.out⟩

end Go.Proofs.YtejfoefhaphacaaGreat
