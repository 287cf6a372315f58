/- Package central: ranking; what a run of takes comes to. -/
import Derived.Test.YtejfoefhaphacaaGreatCh
namespace Go.Proofs.YtejfoefhaphacaaGreat
open Go.RowKit Go.Sort Go.Shelf Go.Lib

set_option maxRecDepth 100000 in
set_option maxHeartbeats 4000000 in
theorem ranking_any {O : Nat → Prop} {B : Nat} {V : Value} {X : List Sn} {c : Ce} {w : World} (h : LiA false w O B V X c) : Calls Tryz.prog 46 #[.pointer (some ⟨B, 0, none⟩)] w (RkP w X) := by
  obtain ⟨i0, hi, hz0, hz1, hz2⟩ := info_parts infoRk
  have HH := Lib.hid h
  have hmax : X.length ≤ 1024 := by rw [h.len]; exact h.wf.len
  obtain ⟨A, cap, rfl⟩ := owns_form h.row
  have c3 := h.cells.2.2.2
  have HSO := Lib.hid (fun (W : World) (g c2 : Nat) (hN : w.heap.size ≤ W.heap.size) (hown : W.ownsRow w.heap.size 83 3 (.slice (some ⟨g, 0, none⟩) X.length c2) X.length (cellsS X)) => sort_any hN X hmax hown)
  have HSN := Lib.hid (fun (W : World) (p : Option Addr) (c2 : Nat) => AnyF.slices_SortFunc_none Tryz.sortRk p c2 (.func (.func 81) #[] #[]) W)
  obtain ⟨N, hN⟩ : ∃ N, X.length = N := ⟨_, rfl⟩
  have HN := Lib.hid hN
  rw [hN] at c3 hmax
  clear h hN
  go_enter Tryz.func46, Tryz.ntmps46
  go_wp2
  clear c3
  go_loopw [3, 11] (fun t i wr => ∃ k : Nat, k ≤ N ∧ i = .int .i64 k ∧ wr.ownsRow w.heap.size 83 3 t k (cellsS (X.take k)) ∧ Below w.heap.size w wr) (fun _ i _ => N - (intOf i).toNat)
  case atStart => exact ⟨0, by omega, rfl, World.ownsRow_nil _ _ _ _, Below.refl _ _⟩
  case round =>
    obtain ⟨k, hk, rfl, hrow, hb⟩ := hrel
    obtain ⟨A', c', rfl⟩ := owns_form hrow
    have HR := Lib.hid hrow
    have HB := Lib.hid hb
    by_cases hlt : k < N
    · obtain ⟨x, hx⟩ : ∃ x, X[k]? = some x := ⟨_, List.getElem?_eq_getElem (by have := HN.out; omega)⟩
      obtain ⟨g, cap2, hV, hc⟩ := (HH.out.below hb).slot hx
      obtain ⟨rfl, rfl⟩ : A = some ⟨g, 0, none⟩ ∧ cap = cap2 := by injection hV; exact ⟨by assumption, by assumption⟩
      have HT := Lib.hid (Taken_any ((HH.out.below hb).span hx))
      rw [show (tkO (some x.m)).length = tc x.m from rfl] at HT
      have HD := Lib.hid (fun W (hbW : Below w.heap.size w W) => Run_any ((HH.out.below hbW).span hx))
      rw [show runV (some x.m) = .agg #[.int .i64 x.m.s, .int .i64 x.m.g] from rfl] at HD
      have HS := Lib.hid (show cellsS (X.take (k + 1)) = cellsS (X.take k) ++ [.int .i64 (tc x.m : Nat), .int .i64 (x.m.s : Nat), .pointer (some ⟨x.B, 0, none⟩)] by rw [List.take_add_one, hx, cellsS_app]; rfl)
      have hfld := fld0 (x.m.s : Nat) (x.m.g : Nat)
      clear hV hx hrow hb
      generalize cellsS (X.take k) = L at *
      generalize tc x.m = tx at *
      generalize x.m.s = sx at *
      generalize x.m.g = gx at *
      generalize x.B = xb at *
      go_wp2_with (first
        | (go_at_call 65; refine HT.out.mono ?_; rintro e w2 ⟨rfl, hbq⟩; have HB2 := Lib.hid (btr HB.out hbq (Nat.le_refl _)); have HQ2 := Lib.hid hbq; clear hbq)
        | (go_at_call 51; refine (HD.out _ HB2.out).mono ?_; rintro e w3 ⟨rfl, hbq⟩; have HB3 := Lib.hid (btr HB2.out hbq (Nat.le_refl _)); have hr3 := owns_below HR.out (btr HQ2.out hbq (Nat.le_refl _)); have HR3 := Lib.hid hr3; clear hbq hr3)
        | (at_builtin; refine wpList_append_own _ rfl _ _ 78 rfl w.heap.size 83 i0 (.agg #[.int .i64 0, .int .i64 0, .pointer none]) 3 24 undRks hi hz0 hz1 hz2 rfl (by decide) _ _ _ rfl (HR3.out.alloc _) ⟨w3.heap.size, 0, none⟩ 1 1 [.int .i64 tx, .int .i64 sx, .pointer (some ⟨xb, 0, none⟩)] rfl rfl (cells3_new w3 _ _ _ _) (by simp [Value.oneCell']) (by unfold maxLen; omega) (by omega) (by have := HB3.out.size; simp; omega) ?_; intro v' w4 hown' hgrow _; have HB4 := Lib.hid ((HB3.out.alloc HB3.out.size _).grown hgrow (by have := HB3.out.size; simp; omega) (fun k e => (HR3.out.lt k e).1)); have HO4 := Lib.hid hown'; clear hown' hgrow))
      go_roundw
      case rel => exact ⟨k + 1, by omega, by go_num, by rw [HS.out]; exact HO4.out, HB4.out⟩
      case measure => simp [intOf]; omega
    · obtain rfl : k = N := by omega
      have e : X.take k = X := List.take_of_length_le (by rw [HN.out]; exact Nat.le_refl _)
      rw [e] at HR
      clear hrow hb e
      rcases Nat.eq_zero_or_pos k with rfl | hpos
      · have hX : X = [] := List.eq_nil_of_length_eq_zero HN.out
        have HE := Lib.hid hX
        clear hX
        go_wp2_with (go_at_call 80; refine (HSN.out _ _ _).mono ?_; rintro e w2 ⟨rfl, rfl⟩)
        go_ret
        rcases HR.out.2 with ⟨h0, _⟩ | ⟨g, cp, _, h0, hg, _⟩
        · cases h0
          exact ⟨none, 0, [], by rw [HE.out]; rfl, by rw [HE.out]; exact ⟨List.Perm.refl _, List.Pairwise.nil⟩, (fun i x hx => by simp at hx), (fun x hx => nomatch hx), HB.out⟩
        · cases h0
          exact ⟨_, _, [], by rw [HE.out]; rfl, by rw [HE.out]; exact ⟨List.Perm.refl _, List.Pairwise.nil⟩, (fun i x hx => by simp at hx), (fun x hx => by cases hx; exact hg), HB.out⟩
      · obtain ⟨g, rfl⟩ : ∃ g, A' = some ⟨g, 0, none⟩ := by
          rcases HR.out.2 with ⟨_, h0⟩ | ⟨g, cp, _, h0, hg, _⟩
          · omega
          · cases h0; exact ⟨g, rfl⟩
        have HS := Lib.hid (HSO.out wr g c' HB.out.size (by rw [HN.out]; exact HR.out))
        rw [HN.out] at HS
        have HGE := Lib.hid (show w.heap.size ≤ g from (owns_at HR.out rfl).1)
        go_wp2_with (go_at_call 80; refine HS.out.mono ?_; rintro e w2 ⟨rfl, Y, hY, hA, hb2⟩; have HY := Lib.hid (And.intro hY (And.intro hA (HB.out.trans (hb2.mono (Nat.le_refl _))))); clear hY hA hb2)
        go_ret
        exact ⟨some ⟨g, 0, none⟩, c', Y, by rw [HN.out]; rfl, HY.out.1, HY.out.2.1, (fun x hx => by cases hx; exact HGE.out), HY.out.2.2⟩

/-! What a run of takes has come to, span by span. -/
structure TkA (X X' Y : List Sn) (p : Nat) : Prop where
  full : ∀ (q j : Nat) (y x' : Sn), q < p → Y[q]? = some y → X[j]? = some y → X'[j]? = some x' → tc x'.m = x'.m.n
  same : ∀ (q j : Nat) (y x' : Sn), p < q → Y[q]? = some y → X[j]? = some y → X'[j]? = some x' → x'.m = y.m
/-- .. while objects are taken of the span at place p; before that. -/
structure TkI (X X' Y : List Sn) (p : Nat) : Prop extends TkA X X' Y p where
  more : ∀ (j : Nat) (y x' : Sn), Y[p]? = some y → X[j]? = some y → X'[j]? = some x' → tc y.m ≤ tc x'.m
structure TkB (X X' Y : List Sn) (p : Nat) : Prop extends TkA X X' Y p where
  here : ∀ (j : Nat) (y x' : Sn), Y[p]? = some y → X[j]? = some y → X'[j]? = some x' → x'.m = y.m
section
variable {X X' Y : List Sn} {p : Nat}
theorem TkB.start (X Y : List Sn) : TkB X X Y 0 := ⟨⟨fun q j y x' hq => by omega, fun q j y x' _ _ h1 h2 => by rw [h1] at h2; cases h2; rfl⟩, fun j y x' _ h1 h2 => by rw [h1] at h2; cases h2; rfl⟩
theorem TkB.inner (h : TkB X X' Y p) : TkI X X' Y p := ⟨h.toTkA, fun j y x' h1 h2 h3 => by rw [h.here j y x' h1 h2 h3]; exact Nat.le_refl _⟩
theorem TkI.next (h : TkI X X' Y p) {j : Nat} {y x' : Sn} (hd : ∀ (a b : Nat) (y : Sn), X[a]? = some y → X[b]? = some y → a = b) (h1 : Y[p]? = some y) (h2 : X[j]? = some y) (h3 : X'[j]? = some x') (hf : tc x'.m = x'.m.n) : TkB X X' Y (p + 1) := by
  refine ⟨⟨fun q i z z' hq e1 e2 e3 => ?_, fun q i z z' hq => h.same q i z z' (by omega)⟩, fun i z z' => h.same (p + 1) i z z' (by omega)⟩
  rcases Nat.lt_or_eq_of_le (Nat.le_of_lt_succ hq) with hlt | rfl
  · exact h.full q i z z' hlt e1 e2 e3
  · rw [h1] at e1; cases e1
    obtain rfl := hd j i y h2 e2
    rw [h3] at e3; cases e3
    exact hf
theorem TkI.take (h : TkI X X' Y p) {j : Nat} {y x' x2 : Sn} (hdy : ∀ (a b : Nat) (y : Sn), Y[a]? = some y → Y[b]? = some y → a = b) (h1 : Y[p]? = some y) (h2 : X[j]? = some y) (h3 : X'[j]? = some x') (hm : tc x'.m ≤ tc x2.m) : TkI X (X'.set j x2) Y p := by
  have hlt := (List.getElem?_eq_some_iff.1 h3).1
  refine ⟨⟨fun q i z z' hq e1 e2 e3 => ?_, fun q i z z' hq e1 e2 e3 => ?_⟩, fun i z z' e1 e2 e3 => ?_⟩
  · rw [List.getElem?_set] at e3
    split at e3
    · rename_i hji
      subst hji
      rw [h2] at e2; cases e2
      have := hdy q p y e1 h1
      omega
    · exact h.full q i z z' hq e1 e2 e3
  · rw [List.getElem?_set] at e3
    split at e3
    · rename_i hji
      subst hji
      rw [h2] at e2; cases e2
      have := hdy q p y e1 h1
      omega
    · exact h.same q i z z' hq e1 e2 e3
  · rw [List.getElem?_set] at e3
    split at e3
    · rename_i hji
      subst hji
      rw [h2] at e2; cases e2
      have := h.more j y x' h1 h2 h3
      cases e3
      omega
    · exact h.more i z z' e1 e2 e3
theorem TkI.best (h : TkI X X' Y p) {c : Ce} (hX : X.map (·.m) = c.L) (hwf : CWf c) (hl : X'.length = X.length) (hY : Rkd X Y) {j : Nat} {y x' : Sn} (h1 : Y[p]? = some y) (h2 : X[j]? = some y) (h3 : X'[j]? = some x') (hf : tc x'.m < x'.m.n) :
    bst (X'.map (·.m)) (X'.map (·.m)).length = some j := by
  have hg : ∀ (i : Nat) (z : Sn), X'[i]? = some z → (X'.map (·.m))[i]? = some z.m := fun i z e => by rw [List.getElem?_map, e]; rfl
  refine bst_eq ⟨by rw [List.length_map]; exact (List.getElem?_eq_some_iff.1 h3).1, ⟨x'.m, hg j x' h3, hf⟩, fun i m hi hm hfm => ?_⟩
  rw [tcA_at (hg j x' h3)]
  rw [List.getElem?_map] at hm
  obtain ⟨z', hz', rfl⟩ : ∃ z', X'[i]? = some z' ∧ z'.m = m := by
    cases e : X'[i]? with
    | none => rw [e] at hm; cases hm
    | some z' => rw [e] at hm; cases hm; exact ⟨z', rfl, rfl⟩
  obtain ⟨z, hz⟩ : ∃ z, X[i]? = some z := ⟨_, List.getElem?_eq_getElem (by rw [← hl]; exact (List.getElem?_eq_some_iff.1 hz').1)⟩
  obtain ⟨q, hq⟩ : ∃ q : Nat, Y[q]? = some z := List.mem_iff_getElem?.1 (hY.1.mem_iff.2 (List.mem_of_getElem? hz))
  rcases Nat.lt_trichotomy q p with hlt | heq | hgt
  · have := h.full q i z z' hlt hq hz hz'
    omega
  · subst heq
    rw [h1] at hq; cases hq
    rcases Nat.lt_trichotomy i j with h4 | h4 | h4
    · have := hwf.ord h4 (show c.L[i]? = some y.m by rw [← hX, List.getElem?_map, hz]; rfl) (show c.L[j]? = some y.m by rw [← hX, List.getElem?_map, h2]; rfl)
      have := hwf.g1
      omega
    · subst h4
      rw [h3] at hz'; cases hz'
      exact ⟨Nat.le_refl _, fun h => by omega⟩
    · have := hwf.ord h4 (show c.L[j]? = some y.m by rw [← hX, List.getElem?_map, h2]; rfl) (show c.L[i]? = some y.m by rw [← hX, List.getElem?_map, hz]; rfl)
      have := hwf.g1
      omega
  · have e1 := h.same q i z z' hgt hq hz hz'
    have e2 := h.more j y x' h1 h2 h3
    obtain ⟨hp, rfl⟩ := List.getElem?_eq_some_iff.1 h1
    obtain ⟨hq', rfl⟩ := List.getElem?_eq_some_iff.1 hq
    have hs := List.pairwise_iff_getElem.1 hY.2 p q hp hq' hgt
    rw [ltS, decide_eq_false_iff_not] at hs
    rw [e1]
    refine ⟨by omega, fun hij => ?_⟩
    have h5 := hwf.ord hij (show c.L[i]? = some Y[q].m by rw [← hX, List.getElem?_map, hz]; rfl) (show c.L[j]? = some Y[p].m by rw [← hX, List.getElem?_map, h2]; rfl)
    have := hwf.g1
    omega
theorem TkB.done (h : TkB X X' Y p) (hp : Y.length ≤ p) (hl : X'.length = X.length) (hY : Rkd X Y) : stp (X'.map (·.m)) = none := by
  refine stp_none (bst_no fun i m hi hm => ?_)
  rw [List.getElem?_map] at hm
  obtain ⟨z', hz', rfl⟩ : ∃ z', X'[i]? = some z' ∧ z'.m = m := by
    cases e : X'[i]? with
    | none => rw [e] at hm; cases hm
    | some z' => rw [e] at hm; cases hm; exact ⟨z', rfl, rfl⟩
  obtain ⟨z, hz⟩ : ∃ z, X[i]? = some z := ⟨_, List.getElem?_eq_getElem (by rw [← hl]; exact (List.getElem?_eq_some_iff.1 hz').1)⟩
  obtain ⟨q, hq⟩ : ∃ q : Nat, Y[q]? = some z := List.mem_iff_getElem?.1 (hY.1.mem_iff.2 (List.mem_of_getElem? hz))
  have := h.full q i z z' (by have := (List.getElem?_eq_some_iff.1 hq).1; omega) hq hz hz'
  omega
end
theorem nodup_at {L : List Sn} (h : L.Nodup) (a b : Nat) (y : Sn) (ha : L[a]? = some y) (hb : L[b]? = some y) : a = b := by
  obtain ⟨h1, e1⟩ := List.getElem?_eq_some_iff.1 ha
  obtain ⟨h2, e2⟩ := List.getElem?_eq_some_iff.1 hb
  rcases Nat.lt_trichotomy a b with h3 | h3 | h3
  · exact absurd (e1.trans e2.symm) (List.pairwise_iff_getElem.1 h a b h1 h2 h3)
  · exact h3
  · exact absurd (e2.trans e1.symm) (List.pairwise_iff_getElem.1 h b a h2 h1 h3)
theorem LiA.nodup {r : Bool} {w : World} {O : Nat → Prop} {B : Nat} {V : Value} {X : List Sn} {c : Ce} (h : LiA r w O B V X c) : X.Nodup :=
  h.dj.imp (S := fun a b => a ≠ b) fun {a b} hab => by intro e; subst e; exact hab a.B (.inl rfl) (.inl rfl)
theorem stp_sum {L L' : List Mo} {a : Nat} (h : stp L = some (a, L')) : sumL tc L' = sumL tc L + 1 := by
  obtain ⟨b, o, m, _, hm, ho, _, rfl⟩ := stp_get h
  have := sumL_set (f := tc) (x := m.set o true) hm
  rw [tc_on (ff_get ho).1 (ff_get ho).2.1] at this
  omega
theorem tkL_sum : ∀ (k : Nat) (L : List Mo), sumL tc (tkL k L).2 = sumL tc L + (tkL k L).1.length
  | 0, L => rfl
  | k + 1, L => by
    cases h : stp L with
    | none => rw [tkL_none h]; rfl
    | some x =>
      obtain ⟨a, L'⟩ := x
      rw [tkL_some h]
      have h1 := tkL_sum k L'
      have h2 := stp_sum h
      simp only [List.length_cons]
      omega

end Go.Proofs.YtejfoefhaphacaaGreat
