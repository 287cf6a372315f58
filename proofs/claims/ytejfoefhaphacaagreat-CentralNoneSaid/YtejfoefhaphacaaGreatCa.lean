/- Package central: made, Class, Spans, Room, Taken. -/
import Derived.Test.YtejfoefhaphacaaGreatMf
namespace Go.Proofs.YtejfoefhaphacaaGreat
open Go.RowKit Go.Shelf

set_option maxHeartbeats 400000 in
theorem cmade_any {O : Nat → Prop} {B : Nat} {V : Value} {X : List Sn} {c : Ce} {w : World} (h : LiA false w O B V X c) : Calls Tryz.prog 21 #[.pointer (some ⟨B, 0, none⟩)] w fun e w' => e = .returned (.bool true) ∧ w = w' := by
  have c0 := h.cells.1
  have hz := h.wf.z1
  clear h
  go_enter Tryz.func21, Tryz.ntmps21
  go_wp2
  go_ret
  exact ⟨ret_bool (by simp; omega), rfl⟩
set_option maxHeartbeats 400000 in
theorem cmade_no {O : Nat → Prop} {v : Value} {w : World} (h : NoL w O v) : Calls Tryz.prog 21 #[v] w fun e w' => e = .returned (.bool false) ∧ w = w' := by
  rcases h with rfl | ⟨B, rfl, _, hc⟩
  · go_enter Tryz.func21, Tryz.ntmps21
    go_wp2
    go_ret
    exact ⟨rfl, rfl⟩
  · go_enter Tryz.func21, Tryz.ntmps21
    go_wp2
    go_ret
    exact ⟨rfl, rfl⟩

set_option maxRecDepth 100000 in
set_option maxHeartbeats 1000000 in
theorem cClass_any {O : Nat → Prop} {v : Value} {om : Option Ce} {w : World} (h : LOb false w O v om) :
    Calls Tryz.prog 38 #[v] w fun e w' => e = .returned (clC om) ∧ Below w.heap.size w w' := by
  have hb := bnew w (.cells #[.int .i64 0, .int .i64 0, .int .i64 0] 23)
  replace h := h.below hb
  clear hb
  cases om with
  | none =>
    have HM := Lib.hid (cmade_no h.1)
    clear h
    go_enter Tryz.func38, Tryz.ntmps38
    go_wp2_with (go_at_call 21; refine HM.out.mono ?_; rintro e w1 ⟨rfl, rfl⟩)
    exact bodyPost_ret (v := .agg #[.int .i64 0, .int .i64 0, .int .i64 0]) (by simp [results, Tryz.results38, go_sem]) rfl ⟨rfl, bnew _ _⟩
  | some c =>
    obtain ⟨B, V, X, rfl, h⟩ := h
    have HM := Lib.hid (cmade_any h)
    obtain ⟨W0, hW⟩ : ∃ W0, W0 = w.alloc (.cells #[.int .i64 0, .int .i64 0, .int .i64 0] 23) := ⟨_, rfl⟩
    rw [← hW] at h
    obtain ⟨d0, d1, d2, d3⟩ := h.cells
    rw [hW] at d0 d1 d2
    clear h d3 hW W0
    go_enter Tryz.func38, Tryz.ntmps38
    go_wp2_with (go_at_call 21; refine HM.out.mono ?_; rintro e w1 ⟨rfl, rfl⟩)
    exact bodyPost_ret (v := .agg #[.int .i64 c.z, .int .i64 c.g, .int .i64 c.t]) (by simp [results, Tryz.results38, go_sem]) rfl ⟨rfl, bnew _ _⟩

/-! Runs, as lists in memory. -/
def cellsR (l : List (Nat × Nat)) : List Value := l.flatMap fun r => [.int .i64 r.1, .int .i64 r.2]
theorem cellsR_app (l k : List (Nat × Nat)) : cellsR (l ++ k) = cellsR l ++ cellsR k := by simp [cellsR]
theorem cellsR_at : ∀ (l : List (Nat × Nat)) (i a b : Nat), l[i]? = some (a, b) → (cellsR l)[i * 2]? = some (.int .i64 a) ∧ (cellsR l)[i * 2 + 1]? = some (.int .i64 b)
  | [], i, a, b, h => by simp at h
  | x :: t, 0, a, b, h => by
    simp at h
    subst h
    exact ⟨rfl, rfl⟩
  | x :: t, i + 1, a, b, h => by
    obtain ⟨h1, h2⟩ := cellsR_at t i a b (by simpa using h)
    have e : cellsR (x :: t) = .int .i64 x.1 :: .int .i64 x.2 :: cellsR t := rfl
    rw [e, show (i + 1) * 2 = i * 2 + 1 + 1 from by omega]
    exact ⟨by simpa using h1, by simpa using h2⟩
theorem cells2_new (w : World) (a b : Value) (t : TypeId) : ∀ j u, [a, b][j]? = some u → (w.alloc (.cells #[a, b] t)).cell? ((⟨w.heap.size, 0, none⟩ : Addr).add j) = some u := by
  intro j u hj
  have hj2 := (List.getElem?_eq_some_iff.1 hj).1
  simp at hj2
  have h01 : j = 0 ∨ j = 1 := by omega
  rcases h01 with rfl | rfl
  · simp at hj; subst hj; simp [Addr.add]
  · simp at hj; subst hj; simp [Addr.add]
theorem infoRun : (Tryz.prog.info? 55).map (fun i => (i.zero, i.size, i.bytes)) = some (some (.agg #[.int .i64 0, .int .i64 0]), 2, 16) := by kernel_rfl
theorem undRuns : Tryz.prog.underlying 49 = some (.slice 55) := by kernel_rfl
/-- A list of runs in memory. -/
def RsAt (w : World) (A : Option Addr) (l : List (Nat × Nat)) : Prop := ∀ i a b, l[i]? = some (a, b) → ∃ g, A = some ⟨g, 0, none⟩ ∧ g < w.heap.size ∧ w.cell? ⟨g, i * 2, none⟩ = some (.int .i64 (a : Nat)) ∧ w.cell? ⟨g, i * 2 + 1, none⟩ = some (.int .i64 (b : Nat))
theorem RsAt.below {w w' : World} {A : Option Addr} {l : List (Nat × Nat)} (h : RsAt w A l) (hb : Below w.heap.size w w') : RsAt w' A l := fun i a b hi => by
  obtain ⟨g, e, h1, h2, h3⟩ := h i a b hi
  exact ⟨g, e, Nat.lt_of_lt_of_le h1 hb.size, (hb.cell (p := ⟨g, _, none⟩) h1).trans h2, (hb.cell (p := ⟨g, _, none⟩) h1).trans h3⟩
/-- The blocks of a list are new since w. -/
def NewA (w : World) (A : Option Addr) : Prop := ∀ x, A = some x → w.heap.size ≤ x.block
def RsP (w : World) (l : List (Nat × Nat)) (e : Ending) (w' : World) : Prop := ∃ A c, e = .returned (.slice A l.length c) ∧ RsAt w' A l ∧ NewA w A ∧ Below w.heap.size w w'
theorem rs_of {w w' : World} {A : Option Addr} {c : Nat} {l : List (Nat × Nat)} (h : w'.ownsRow w.heap.size 55 2 (.slice A l.length c) l.length (cellsR l)) : RsAt w' A l ∧ NewA w A := by
  refine ⟨fun i a b hi => ?_, fun x hx => ?_⟩
  · obtain ⟨h1, h2⟩ := cellsR_at l i a b hi
    obtain ⟨g, cap, e1, e2, e3, e4⟩ := owns_cell h h1
    obtain ⟨g', cap', f1, _, _, f4⟩ := owns_cell h h2
    cases e1
    cases f1
    exact ⟨g, rfl, e3, e4, f4⟩
  · subst hx
    rcases h.2 with ⟨h0, _⟩ | ⟨g, cap, _, e, hb, _⟩
    · cases h0
    · cases e; exact hb

set_option maxRecDepth 100000 in
set_option maxHeartbeats 2000000 in
theorem cSpans_any {O : Nat → Prop} {v : Value} {om : Option Ce} {w : World} (h : LOb false w O v om) : Calls Tryz.prog 18 #[v] w (RsP w (runs om)) := by
  cases om with
  | none =>
    have HM := Lib.hid (cmade_no h.1)
    clear h
    go_enter Tryz.func18, Tryz.ntmps18
    go_wp2_with (go_at_call 21; refine HM.out.mono ?_; rintro e w1 ⟨rfl, rfl⟩)
    go_ret
    exact ⟨none, 0, rfl, fun i a b hi => by simp [runs] at hi, (fun x hx => nomatch hx), Below.refl _ _⟩
  | some c =>
    obtain ⟨i0, hi, hz0, hz1, hz2⟩ := info_parts infoRun
    obtain ⟨B, V, X, rfl, h⟩ := h
    have HM := Lib.hid (cmade_any h)
    have HH := Lib.hid h
    have hlen := h.len
    have hmax := h.wf.len
    obtain ⟨A, cap, rfl⟩ := owns_form h.row
    have c3 := h.cells.2.2.2
    obtain ⟨N, hN⟩ : ∃ N, X.length = N := ⟨_, rfl⟩
    have HN := Lib.hid hN
    have HE := Lib.hid (show runs (some c) = c.L.map (fun m => (m.s, m.g)) from rfl)
    rw [hN] at c3 hlen
    have HL := Lib.hid hlen
    have hN4 : N ≤ 1024 := by omega
    generalize runs (some c) = R at *
    clear h hlen hmax hN
    go_enter Tryz.func18, Tryz.ntmps18
    go_wp2_with (go_at_call 21; refine HM.out.mono ?_; rintro e w1 ⟨rfl, rfl⟩)
    clear c3
    go_loopw [3, 14] (fun t i wr => ∃ k : Nat, k ≤ N ∧ i = .int .i64 k ∧ wr.ownsRow w.heap.size 55 2 t (R.take k).length (cellsR (R.take k)) ∧ Below w.heap.size w wr) (fun _ i _ => N - (intOf i).toNat)
    case atStart => exact ⟨0, by omega, rfl, World.ownsRow_nil _ _ _ _, Below.refl _ _⟩
    case round =>
      obtain ⟨k, hk, rfl, hrow, hb⟩ := hrel
      obtain ⟨A', c', rfl⟩ := owns_form hrow
      have HR := Lib.hid hrow
      have HB := Lib.hid hb
      have hll : (R.take k).length ≤ 1024 := by rw [List.length_take]; omega
      by_cases hlt : k < N
      · obtain ⟨x, hx⟩ : ∃ x, X[k]? = some x := ⟨_, List.getElem?_eq_getElem (by have := HN.out; omega)⟩
        obtain ⟨g, cap2, hV, hc⟩ := (HH.out.below hb).slot hx
        obtain ⟨rfl, rfl⟩ : A = some ⟨g, 0, none⟩ ∧ cap = cap2 := by injection hV; exact ⟨by assumption, by assumption⟩
        have HD := Lib.hid (Run_any ((HH.out.below hb).span hx))
        have hs2 : R.take (k + 1) = R.take k ++ [(x.m.s, x.m.g)] := by
          rw [List.take_add_one, HE.out, List.getElem?_map, HH.out.at hx]; rfl
        have HS := Lib.hid hs2
        rw [show runV (some x.m) = .agg #[.int .i64 x.m.s, .int .i64 x.m.g] from rfl] at HD
        clear hV hx hs2 hrow hb
        generalize R.take k = L at *
        generalize x.m.s = sx at *
        generalize x.m.g = gx at *
        go_wp2_with (first
          | (go_at_call 51; refine HD.out.mono ?_; rintro e w2 ⟨rfl, hbq⟩; have hB2 := HB.out.trans (hbq.mono HB.out.size); have hr2 := owns_below HR.out hbq; clear hbq; have HB2 := Lib.hid hB2; have HR2 := Lib.hid hr2; clear hr2 hB2)
          | (at_builtin; refine wpList_append_own _ rfl _ _ 49 rfl w.heap.size 55 i0 (.agg #[.int .i64 0, .int .i64 0]) 2 16 undRuns hi hz0 hz1 hz2 rfl (by decide) _ _ _ rfl (HR2.out.alloc _) ⟨w2.heap.size, 0, none⟩ 1 1 [.int .i64 sx, .int .i64 gx] rfl rfl (cells2_new w2 _ _ _) (by simp [Value.oneCell']) (by unfold maxLen; omega) (by omega) (by have := HB2.out.size; simp; omega) ?_; intro v' w3 hown' hgrow _; have HB3 := Lib.hid ((HB2.out.alloc HB2.out.size _).grown hgrow (by have := HB2.out.size; simp; omega) (fun k e => (HR2.out.lt k e).1)); have HO3 := Lib.hid hown'; clear hown' hgrow))
        go_roundw
        case rel => exact ⟨k + 1, by omega, by go_num, by rw [HS.out, cellsR_app, List.length_append]; exact HO3.out, HB3.out⟩
        case measure => simp [intOf]; omega
      · obtain rfl : k = N := by omega
        have e : R.take k = R := List.take_of_length_le (by rw [HE.out, List.length_map, ← HL.out]; exact Nat.le_refl _)
        rw [e] at HR
        obtain ⟨A2, c2, hv⟩ := owns_form HR.out
        have hl : (R.take k).length = R.length := by rw [e]
        rw [hl] at *
        have HF := Lib.hid (rs_of HR.out)
        clear hrow hb hv e hl
        go_wp2_with fail
        go_ret
        exact ⟨A', c', rfl, HF.out.1, HF.out.2, HB.out⟩

set_option maxRecDepth 100000 in
set_option maxHeartbeats 1000000 in
theorem sum_any {O : Nat → Prop} {B : Nat} {V : Value} {X : List Sn} {c : Ce} {w : World} (g : Nat) (F : Mo → Nat) (hF : ∀ m, m ∈ c.L → F m ≤ 128) (eg : ∀ args w, (callFunc g args).run Tryz.prog w = .ok (.enter g args) w)
    (hg : ∀ (W : World) (P : Nat → Prop) (b : Nat) (m : Mo), Ob false W P (.pointer (some ⟨b, 0, none⟩)) (some m) → Calls Tryz.prog g #[.pointer (some ⟨b, 0, none⟩)] W fun e w' => e = .returned (.int .i64 (F m : Nat)) ∧ Below W.heap.size W w')
    (h : LiA false w O B V X c) : Calls Tryz.prog 72 #[.pointer (some ⟨B, 0, none⟩), .func (.func g) #[] #[]] w fun e w' => e = .returned (.int .i64 (sumL F c.L : Nat)) ∧ Below w.heap.size w w' := by
  have HM := Lib.hid (cmade_any h)
  have HH := Lib.hid h
  have HG := Lib.hid hg
  have HF := Lib.hid hF
  have hlen := h.len
  have hmax := h.wf.len
  obtain ⟨A, cap, rfl⟩ := owns_form h.row
  have c3 := h.cells.2.2.2
  obtain ⟨N, hN⟩ : ∃ N, X.length = N := ⟨_, rfl⟩
  have HN := Lib.hid hN
  rw [hN] at c3 hlen
  have HL := Lib.hid hlen
  have hN4 : N ≤ 1024 := by omega
  clear h hg hF hlen hmax hN
  go_enter Tryz.func72, Tryz.ntmps72
  go_wp2_with (go_at_call 21; refine HM.out.mono ?_; rintro e w1 ⟨rfl, rfl⟩)
  clear c3
  go_loopw [5, 16] (fun s i wr => ∃ k S : Nat, k ≤ N ∧ i = .int .i64 k ∧ s = .int .i64 S ∧ S = sumL F (c.L.take k) ∧ Below w.heap.size w wr) (fun _ i _ => N - (intOf i).toNat)
  case atStart => exact ⟨0, 0, by omega, rfl, rfl, rfl, Below.refl _ _⟩
  case round =>
    obtain ⟨k, S, hk, rfl, rfl, hS, hb⟩ := hrel
    have HS := Lib.hid hS
    have HB := Lib.hid hb
    by_cases hlt : k < N
    · obtain ⟨x, hx⟩ : ∃ x, X[k]? = some x := ⟨_, List.getElem?_eq_getElem (by have := HN.out; omega)⟩
      obtain ⟨b, cap2, hV, hc⟩ := (HH.out.below hb).slot hx
      obtain ⟨rfl, rfl⟩ : A = some ⟨b, 0, none⟩ ∧ cap = cap2 := by injection hV; exact ⟨by assumption, by assumption⟩
      have hbd : S ≤ 131072 := by
        have := sumL_le (f := F) (b := 128) (c.L.take k) (fun m hm => HF.out m (List.mem_of_mem_take hm))
        rw [List.length_take] at this
        have := Nat.mul_le_mul_right 128 (show min k c.L.length ≤ 1024 by omega)
        omega
      have hfx : F x.m ≤ 128 := HF.out x.m (List.mem_of_getElem? (HH.out.at hx))
      have HD := Lib.hid (HG.out _ _ _ _ ((HH.out.below hb).span hx))
      have HS2 := Lib.hid (sumL_take (f := F) (HH.out.at hx))
      clear hV hx hb hS
      generalize F x.m = fx at *
      obtain ⟨f1, f2⟩ := w64 ((S : Int) + (fx : Int)) (by omega)
      go_wp2_with (go_at_fn g; refine HD.out.mono ?_; rintro e w2 ⟨rfl, hb2⟩; have HB2 := Lib.hid (btr HB.out hb2 (Nat.le_refl _)); clear hb2)
      clear f1 f2
      go_roundw
      case rel => exact ⟨k + 1, S + fx, by omega, by go_num, by go_num, by rw [HS2.out, HS.out], HB2.out⟩
      case measure => simp [intOf]; omega
    · obtain rfl : k = N := by omega
      have e : S = sumL F c.L := by rw [hS, List.take_of_length_le (by have := HL.out; omega)]
      have HEQ := Lib.hid e
      clear hS hb e
      go_wp2_with fail
      go_ret
      exact ⟨ret_int (congrArg (fun n : Nat => (n : Int)) HEQ.out), HB.out⟩

set_option maxRecDepth 100000 in
set_option maxHeartbeats 1000000 in
theorem sum_no {O : Nat → Prop} {v f : Value} {w : World} (h : NoL w O v) : Calls Tryz.prog 72 #[v, f] w fun e w' => e = .returned (.int .i64 0) ∧ w = w' := by
  have HM := Lib.hid (cmade_no h)
  clear h
  go_enter Tryz.func72, Tryz.ntmps72
  go_wp2_with (go_at_call 21; refine HM.out.mono ?_; rintro e w1 ⟨rfl, rfl⟩)
  go_ret
  exact ⟨rfl, rfl⟩

set_option maxHeartbeats 1000000 in
theorem Taken1_any (W : World) (P : Nat → Prop) (b : Nat) (m : Mo) (h : Ob false W P (.pointer (some ⟨b, 0, none⟩)) (some m)) :
    Calls Tryz.prog 75 #[.pointer (some ⟨b, 0, none⟩)] W fun e w' => e = .returned (.int .i64 (tc m : Nat)) ∧ Below W.heap.size W w' := by
  have HT := Lib.hid (Taken_any h)
  rw [show (tkO (some m)).length = tc m from rfl] at HT
  clear h
  generalize tc m = t at *
  go_enter Tryz.func75, Tryz.ntmps75
  go_wp2_with (go_at_call 65; refine HT.out.mono ?_; rintro e w1 ⟨rfl, hb⟩; have HB := Lib.hid hb; clear hb)
  go_ret
  exact ⟨rfl, HB.out⟩
set_option maxHeartbeats 1000000 in
theorem Room1_any (W : World) (P : Nat → Prop) (b : Nat) (m : Mo) (h : Ob false W P (.pointer (some ⟨b, 0, none⟩)) (some m)) :
    Calls Tryz.prog 73 #[.pointer (some ⟨b, 0, none⟩)] W fun e w' => e = .returned (.int .i64 ((m.n - tc m : Nat) : Nat)) ∧ Below W.heap.size W w' := by
  have HT := Lib.hid (Taken_any h)
  have HO := Lib.hid (Objects_any h)
  rw [show (tkO (some m)).length = tc m from rfl] at HT
  rw [show numO (some m) = m.n from rfl] at HO
  have h1 := tc_le m
  have h2 : m.n ≤ 128 := by obtain ⟨_, _, _, _, hs⟩ := h; exact hs.wf.n2
  have e : ((m.n - tc m : Nat) : Int) = (m.n : Int) - (tc m : Int) := by omega
  rw [e]
  clear h e
  generalize tc m = t at *
  generalize m.n = n at *
  obtain ⟨f1, f2⟩ := w64 ((n : Int) - (t : Int)) (by omega)
  go_enter Tryz.func73, Tryz.ntmps73
  go_wp2_with (first | (go_at_call 74; refine HO.out.mono ?_; rintro e _ ⟨rfl, rfl⟩) | (go_at_call 65; refine HT.out.mono ?_; rintro e w1 ⟨rfl, hb⟩; have HB := Lib.hid hb; clear hb))
  go_ret
  exact ⟨rfl, HB.out⟩

set_option maxHeartbeats 1000000 in
theorem cTaken_any {O : Nat → Prop} {v : Value} {om : Option Ce} {w : World} (h : LOb false w O v om) : Calls Tryz.prog 36 #[v] w fun e w' => e = .returned (.int .i64 (tkC om : Nat)) ∧ Below w.heap.size w w' := by
  have HS : Hid (Calls Tryz.prog 72 #[v, .func (.func 75) #[] #[]] w fun e w' => e = .returned (.int .i64 (tkC om : Nat)) ∧ Below w.heap.size w w') := by
    refine Lib.hid ?_
    cases om with
    | none => exact (sum_no h.1).mono fun e w' hp => ⟨hp.1, by rw [← hp.2]; exact Below.refl _ _⟩
    | some c =>
      obtain ⟨B, V, X, rfl, h⟩ := h
      exact sum_any 75 tc (fun m hm => by have := tc_le m; have := (h.wf.sp m hm).wf.n2; omega) (enters_of Tryz.func75 (by kernel_rfl) rfl) Taken1_any h
  clear h
  go_enter Tryz.func36, Tryz.ntmps36
  go_wp2_with (go_at_call 72; refine HS.out.mono ?_; rintro e w1 ⟨rfl, hb⟩; have HB := Lib.hid hb; clear hb)
  go_ret
  exact ⟨rfl, HB.out⟩
set_option maxHeartbeats 1000000 in
theorem cRoom_any {O : Nat → Prop} {v : Value} {om : Option Ce} {w : World} (h : LOb false w O v om) : Calls Tryz.prog 34 #[v] w fun e w' => e = .returned (.int .i64 (rmC om : Nat)) ∧ Below w.heap.size w w' := by
  have HS : Hid (Calls Tryz.prog 72 #[v, .func (.func 73) #[] #[]] w fun e w' => e = .returned (.int .i64 (rmC om : Nat)) ∧ Below w.heap.size w w') := by
    refine Lib.hid ?_
    cases om with
    | none => exact (sum_no h.1).mono fun e w' hp => ⟨hp.1, by rw [← hp.2]; exact Below.refl _ _⟩
    | some c =>
      obtain ⟨B, V, X, rfl, h⟩ := h
      exact sum_any 73 (fun m => m.n - tc m) (fun m hm => by have := (h.wf.sp m hm).wf.n2; omega) (enters_of Tryz.func73 (by kernel_rfl) rfl) Room1_any h
  clear h
  go_enter Tryz.func34, Tryz.ntmps34
  go_wp2_with (go_at_call 72; refine HS.out.mono ?_; rintro e w1 ⟨rfl, hb⟩; have HB := Lib.hid hb; clear hb)
  go_ret
  exact ⟨rfl, HB.out⟩

end Go.Proofs.YtejfoefhaphacaaGreat
