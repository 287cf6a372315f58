/- The document's cache: first, Tick, Drain. -/
import Derived.Test.YtaefhhkdfepgmaaRa
namespace Go.Proofs.Ytaefhhkdfepgmaa
open Go.RowKit Go.Lib

theorem owns_off {w : World} {base n : Nat} {e : TypeId} {v : Value} {xs : List Value} (h : w.ownsRow base e 1 v n xs) : OffR w e v xs := OffR.of_own h
theorem take_snoc {X : List Bt} {k : Nat} {x : Bt} (h : X[k]? = some x) : X.take (k + 1) = X.take k ++ [x] := by rw [List.take_add_one, h]; rfl
theorem bV_snoc (X : List Bt) (x : Bt) : bV (X ++ [x]) = bV X ++ [x.v] := by unfold bV; rw [List.map_append]; rfl
theorem dt_snoc {X : List Bt} {k n : Nat} {x : Bt} (h : X[k]? = some x) (hk : n ≤ k) : (X.take (k + 1)).drop n = (X.take k).drop n ++ [x] := by
  have hl := (List.getElem?_eq_some_iff.1 h).1
  rw [take_snoc h, List.drop_append_of_le_length (by rw [List.length_take]; omega)]
theorem dt_none {X : List Bt} {k n : Nat} (hk : k ≤ n) : (X.take k).drop n = [] := List.drop_eq_nil_of_le (by rw [List.length_take]; omega)

/-- What first leaves. -/
def FiP (w : World) (O : Nat → Prop) (B n : Nat) (X : List Bt) (c : Tc) (e : Ending) (w' : World) : Prop := ∃ A c' V', e = .returned (.slice A n c') ∧ LAt (fun k => Ext O w w' k ∧ k ≠ B) w' A (c.L.take n) ∧
  TcB true w' (Ext O w w') B V' (X.drop n) { c with L := c.L.drop n, lo := (c.L.drop n).length } c.lo ∧ Keep (fun k => k = B) w w'
/-- .. in the midst of it. -/
structure FiM (w wr : World) (n k : Nat) (X : List Bt) (o l : Value) : Prop where
  out : wr.ownsRow w.heap.size 32 1 o (X.take (min k n)).length (bV (X.take (min k n)))
  left : wr.ownsRow w.heap.size 32 1 l ((X.take k).drop n).length (bV ((X.take k).drop n))
  dj : ∀ g, o.ownBlock = some g → l.ownBlock ≠ some g
  bel : Below w.heap.size w wr
theorem own_lt {w : World} {base e size n : Nat} {v : Value} {xs : List Value} (h : w.ownsRow base e size v n xs) {g : Nat} (hg : v.ownBlock = some g) : base ≤ g ∧ g < w.heap.size := h.lt g hg
theorem FiM.stepO {w wr w5 : World} {n k : Nat} {X : List Bt} {o l o' : Value} {x : Bt} {tmp : Obj} (h : FiM w wr n k X o l) (hx : X[k]? = some x) (hk : k < n)
    (hrow : w5.ownsRow w.heap.size 32 1 o' ((X.take (min k n)).length + 1) (bV (X.take (min k n)) ++ [x.v])) (hgr : (wr.alloc tmp).grownBy w5 o.ownBlock) (hat : o'.ownBlock = o.ownBlock ∨ o'.ownBlock = some (wr.alloc tmp).heap.size) : FiM w w5 n (k + 1) X o' l := by
  have e1 : X.take (min (k + 1) n) = X.take (min k n) ++ [x] := by
    rw [show min (k + 1) n = k + 1 from by omega, show min k n = k from by omega]; exact take_snoc hx
  refine ⟨?_, ?_, fun g hg e => ?_, Below.grown (h.bel.alloc h.bel.size tmp) hgr (by have := h.bel.size; simp; omega) (fun g hg => (own_lt h.out hg).1)⟩
  · rw [e1, bV_snoc, List.length_append]; exact hrow
  · rw [dt_none (by omega)]
    have hl := h.left
    rw [dt_none (by omega)] at hl
    have h2 := hl.alloc tmp
    exact h2.kept hgr (by
      cases hl2 : l.ownBlock with
      | none => exact .inl rfl
      | some g => exact .inr (fun e => h.dj g e.symm hl2))
  · rcases hat with e2 | e2
    · exact h.dj g (by rw [← e2]; exact hg) e
    · rw [e2] at hg
      injection hg with hg
      have := (own_lt h.left e).2
      simp at hg
      omega
theorem FiM.stepL {w wr w5 : World} {n k : Nat} {X : List Bt} {o l l' : Value} {x : Bt} {tmp : Obj} (h : FiM w wr n k X o l) (hx : X[k]? = some x) (hk : n ≤ k)
    (hrow : w5.ownsRow w.heap.size 32 1 l' (((X.take k).drop n).length + 1) (bV ((X.take k).drop n) ++ [x.v])) (hgr : (wr.alloc tmp).grownBy w5 l.ownBlock) (hat : l'.ownBlock = l.ownBlock ∨ l'.ownBlock = some (wr.alloc tmp).heap.size) : FiM w w5 n (k + 1) X o l' := by
  refine ⟨?_, ?_, fun g hg e => ?_, Below.grown (h.bel.alloc h.bel.size tmp) hgr (by have := h.bel.size; simp; omega) (fun g hg => (own_lt h.left hg).1)⟩
  · have ho := h.out
    rw [show min k n = n from by omega] at ho
    rw [show min (k + 1) n = n from by omega]
    exact (ho.alloc tmp).kept hgr (by
      cases ho2 : o.ownBlock with
      | none => exact .inl rfl
      | some g => exact .inr (fun e => h.dj g ho2 e.symm))
  · rw [dt_snoc hx hk, bV_snoc, List.length_append]; exact hrow
  · rcases hat with e2 | e2
    · exact h.dj g hg (by rw [← e2]; exact e)
    · rw [e2] at e
      injection e with e
      have := (own_lt h.out hg).2
      simp at e
      omega
theorem fi_post {w wr w6 : World} {O : Nat → Prop} {B n c' : Nat} {V l : Value} {A : Option Addr} {X : List Bt} {c : Tc} (h : TcA true w O B V X c) (hn : n ≤ c.L.length) (hm : FiM w wr n X.length X (.slice A n c') l) (hs : w6 = wr.setCell ⟨B, 2, none⟩ l) : FiP w O B n X c (.returned (.slice A n c')) w6 := by
  have hlen := h.len
  have hB := h.lt _ h.ob
  have s1 := hm.bel.size
  have s6 : w6.heap.size = wr.heap.size := by rw [hs, World.size_setCell]
  have ho := hm.out
  have hl := hm.left
  rw [show min X.length n = n from by omega] at ho
  rw [List.take_of_length_le (Nat.le_refl _)] at hl
  have six : ∀ k, k ≠ B → w6.heap[k]? = wr.heap[k]? := fun k hk => by rw [hs]; exact Below.heap_setCell _ _ _ _ hk
  have hk6 : Keep (fun k => k = B) w w6 := by rw [hs]; exact keep_set (F := fun k => k = B) (Keep.of hm.bel) rfl _
  have hbt : ∀ x ∈ X, BtAt w6 x := fun x hx => (h.bt x hx).block (hk6.block _ (h.bt x hx).lt (h.bo x hx).2.1)
  have ho6 : OffR w6 32 (.slice A n c') (bV (X.take n)) := (owns_off ho).block fun g hg _ => six g (by have := (own_lt ho hg).1; omega)
  have hl6 : OffR w6 32 l (bV (X.drop n)) := (owns_off hl).block fun g hg _ => six g (by have := (own_lt hl hg).1; omega)
  refine ⟨A, c', l, rfl, ?_, ⟨h.wf.out n, ?_, hl6, fun g hg => ⟨.inr ⟨(own_lt hl hg).1, by rw [s6]; exact (own_lt hl hg).2⟩, by have := (own_lt hl hg).1; omega⟩, .inl h.ob, fun x hx => hbt x (List.mem_of_mem_drop hx), fun x hx => ?_, by show (X.drop n).map _ = c.L.drop n; rw [List.map_drop, h.ms], Ext.lt h.lt hk6.size⟩, hk6⟩
  · have := lat_of (P := fun k => Ext O w w6 k ∧ k ≠ B) (g := 0) (o := 0) ho6 (fun x hx => by
      subst hx
      have := own_lt ho (g := x.block) rfl
      exact ⟨.inr ⟨this.1, by rw [s6]; exact this.2⟩, by omega⟩) (fun x hx => ⟨hbt x (List.mem_of_mem_take hx), .inl (h.bo x (List.mem_of_mem_take hx)).1, (h.bo x (List.mem_of_mem_take hx)).2.1⟩)
    rw [List.map_take, h.ms] at this
    exact this
  · rw [hs]
    refine ((h.hd.of_block (hm.bel.block B hB)).set 2 l).congr fun i hi => ?_
    have : i = 0 ∨ i = 1 ∨ i = 2 ∨ i = 3 := by omega
    rcases this with rfl | rfl | rfl | rfl <;> simp [tF]
  · have hm2 := List.mem_of_mem_drop hx
    refine ⟨.inl (h.bo x hm2).1, (h.bo x hm2).2.1, fun e => ?_⟩
    have := (own_lt hl e).1
    have := (h.bt x hm2).lt
    omega

set_option maxRecDepth 100000 in
set_option maxHeartbeats 8000000 in
theorem dfirst_any {w : World} {O : Nat → Prop} {B n : Nat} {V : Value} {X : List Bt} {c : Tc} (h : TcA true w O B V X c) (hn : n ≤ c.L.length) :
    Calls Try.prog 41 #[.pointer (some ⟨B, 0, none⟩), .int .i64 n] w (FiP w O B n X c) := by
  obtain ⟨j0, hj, hy0, hy1, hy2⟩ := info_parts infoInts
  obtain ⟨A, cap, rfl, h1, h2⟩ := h.form
  have hmax := h.n8
  obtain ⟨N, hN⟩ : ∃ N, X.length = N := ⟨_, rfl⟩
  have HN := Lib.hid hN
  rw [hN] at h h1 hmax
  have HH := Lib.hid h
  have HSL := Lib.hid (fun (W : World) (hb : Below w.heap.size w W) (k : Nat) (x : Bt) (hx : X[k]? = some x) => (h.below hb).slot hx)
  have HC2 := Lib.hid (fun (W : World) (hb : Below w.heap.size w W) => And.intro (h.below hb).dc.1 ((h.below hb).hd.free 2 (by omega)))
  have HBN := Lib.hid (show B < w.heap.size from h.lt _ h.ob)
  have hnN : n ≤ N := by rw [← hN, h.len]; exact hn
  have HNL := Lib.hid hn
  clear h hN hn
  go_enter Try.func41, Try.ntmps41
  go_wp2
  go_loopw [5, 6, 7] (fun o l i wr => ∃ k : Nat, k ≤ N ∧ i = .int .i64 k ∧ FiM w wr n k X o l) (fun _ _ i _ => N - (intOf i).toNat)
  case atStart => exact ⟨0, by omega, rfl, World.ownsRow_nil _ _ _ _, (by rw [dt_none (Nat.zero_le _)]; exact World.ownsRow_nil _ _ _ _), (fun g hg => nomatch hg), Below.refl _ _⟩
  case round =>
    obtain ⟨k, hk, rfl, hM⟩ := hrel
    have HM := Lib.hid hM
    have b2 := (HC2.out _ hM.bel).1
    by_cases hlt : k < N
    · obtain ⟨x, hx⟩ : ∃ x, X[k]? = some x := ⟨_, List.getElem?_eq_getElem (by have := HN.out; omega)⟩
      obtain ⟨g, o, cap2, hV, hc⟩ := HSL.out _ hM.bel k x hx
      obtain ⟨rfl, rfl⟩ : A = some ⟨g, o, none⟩ ∧ cap = cap2 := by injection hV; exact ⟨by assumption, by assumption⟩
      have HX := Lib.hid hx
      have HS := Lib.hid (show w.heap.size ≤ wr.heap.size from hM.bel.size)
      by_cases hkn : k < n
      · obtain ⟨A1, c1, rfl⟩ := owns_form hM.out
        have hln : (X.take (min k n)).length = k := by rw [List.length_take]; have := HN.out; omega
        have HO := Lib.hid hM.out
        have HLN := Lib.hid hln
        rw [hln] at HO HM
        rw [hln]
        clear hM hV hx hln
        go_wp2_with (at_builtin; refine wpList_append_own_at _ rfl _ _ 40 rfl w.heap.size 32 j0 (.slice none 0 0) 1 24 undLL hj hy0 hy1 hy2 rfl (by decide) (.slice A1 k c1) k _ rfl (HO.out.alloc _) ⟨wr.heap.size, 0, none⟩ 1 1 [.slice (some ⟨x.g, 0, none⟩) x.l.length x.c] rfl rfl (World.news_of_block (World.alloc_heap_new wr _)) (by simp [Value.oneCell']) (by unfold maxLen; omega) (by omega) (by have := HS.out; simp; omega) ?_; intro v' w3 hown' hgrow _ hat; have HA := Lib.hid (And.intro hown' (And.intro hgrow hat)); clear hown' hgrow hat)
        have HF := Lib.hid (HM.out.stepO HX.out hkn (by rw [HLN.out]; exact HA.out.1) HA.out.2.1 HA.out.2.2)
        go_roundw
        case rel => exact ⟨k + 1, by omega, by go_num, HF.out⟩
        case measure => simp [intOf]; omega
      · obtain ⟨A1, c1, rfl⟩ := owns_form hM.left
        have hln : ((X.take k).drop n).length = k - n := by rw [List.length_drop, List.length_take]; have := HN.out; omega
        have HO := Lib.hid hM.left
        have HLN := Lib.hid hln
        obtain ⟨q, hq⟩ : ∃ q, k - n = q := ⟨_, rfl⟩
        rw [hln, hq] at HO HM
        rw [hq] at HLN
        rw [hln, hq]
        clear hM hV hx hln
        go_wp2_with (at_builtin; refine wpList_append_own_at _ rfl _ _ 40 rfl w.heap.size 32 j0 (.slice none 0 0) 1 24 undLL hj hy0 hy1 hy2 rfl (by decide) (.slice A1 q c1) q _ rfl (HO.out.alloc _) ⟨wr.heap.size, 0, none⟩ 1 1 [.slice (some ⟨x.g, 0, none⟩) x.l.length x.c] rfl rfl (World.news_of_block (World.alloc_heap_new wr _)) (by simp [Value.oneCell']) (by unfold maxLen; omega) (by omega) (by have := HS.out; simp; omega) ?_; intro v' w3 hown' hgrow _ hat; have HA := Lib.hid (And.intro hown' (And.intro hgrow hat)); clear hown' hgrow hat)
        have HF := Lib.hid (HM.out.stepL HX.out (by omega) (by rw [HLN.out]; exact HA.out.1) HA.out.2.1 HA.out.2.2)
        go_roundw
        case rel => exact ⟨k + 1, by omega, by go_num, HF.out⟩
        case measure => simp [intOf]; omega
    · obtain rfl : k = N := by omega
      obtain ⟨A1, c1, rfl⟩ := owns_form hM.out
      obtain ⟨A3, c3, rfl⟩ := owns_form hM.left
      have hln : (X.take (min k n)).length = n := by rw [List.length_take]; have := HN.out; omega
      have g2 := (HC2.out _ hM.bel).2
      rw [hln] at HM
      rw [hln]
      generalize ((X.take k).drop n).length = q at *
      clear hM hln
      go_wp2_with fail
      go_ret
      refine fi_post (V := .slice A k cap) HH.out HNL.out ?_ rfl
      rw [HN.out]
      exact HM.out

/-- Low's cell is written at last. -/
theorem fi_low {w w1 w' : World} {O : Nat → Prop} {B n : Nat} {V' : Value} {X : List Bt} {c : Tc} (h : TcB true w1 (Ext O w w1) B V' (X.drop n) { c with L := c.L.drop n, lo := (c.L.drop n).length } c.lo) (hk : Keep (fun k => k = B) w w1) (hs : w' = w1.setCell ⟨B, 3, none⟩ (.int .i64 (c.L.drop n).length)) : TMut true (isB (.pointer (some ⟨B, 0, none⟩))) w O (.pointer (some ⟨B, 0, none⟩)) (outD n (some c)) w' ∧ Keep (fun k => k = B) w1 w' := by
  have hk1 : Keep (fun k => k = B) w1 w' := by rw [hs]; exact keep_set (F := fun k => k = B) (Keep.refl _ _) rfl _
  have s1 : w'.heap.size = w1.heap.size := by rw [hs, World.size_setCell]
  have six : ∀ k, k ≠ B → w'.heap[k]? = w1.heap[k]? := fun k hk => by rw [hs]; exact Below.heap_setCell _ _ _ _ hk
  have hE : Ext O w w1 = Ext O w w' := by funext k; unfold Ext; rw [s1]
  rw [hE] at h
  refine ⟨⟨⟨B, V', X.drop n, rfl, h.wf, ?_, h.row.block fun g hg _ => six g (h.rowO g hg).2, h.rowO, h.ob, fun x hx => (h.bt x hx).block (six _ (h.bo x hx).2.1), h.bo, h.ms, fun k hk => by rw [s1]; exact h.lt k hk⟩, ?_⟩, hk1⟩
  · rw [hs]
    refine (h.hd.set 3 _).congr fun i hi => ?_
    have : i = 0 ∨ i = 1 ∨ i = 2 ∨ i = 3 := by omega
    rcases this with rfl | rfl | rfl | rfl <;> simp [tF]
  · exact (hk.trans (hk1.mono fun k _ e => .inl e)).mono fun k _ e => by subst e; rfl

set_option maxHeartbeats 2000000 in
theorem dTick_any {O : Nat → Prop} {v : Value} {om : Option Tc} {w : World} (h : TOb true w O v om) : Calls Try.prog 34 #[v] w (OutP true w O v (half om) om) := by
  cases om with
  | none =>
    have HM := Lib.hid (dmade_no h.1)
    have HH := Lib.hid h
    clear h
    go_enter Try.func34, Try.ntmps34
    go_wp2_with (go_at_call 31; refine HM.out.mono ?_; rintro e w1 ⟨rfl, rfl⟩)
    go_ret
    exact ⟨none, 0, rfl, fun _ => rfl, LAt.nil _ _ _, TMut.same HH.out (Below.refl _ _)⟩
  | some c =>
    obtain ⟨B, V, X, rfl, h⟩ := h
    have HM := Lib.hid (dmade_any h)
    have HO := Lib.hid (dfirst_any h (half_le h.wf))
    have HQ := Lib.hid (half_le h.wf)
    have HX := Lib.hid h.len
    have c2 := h.dc.2
    have h8 : c.lo ≤ 8 := by have := h.wf.low; have := h.wf.len; have := h.wf.r2; omega
    rw [show half (some c) = (c.lo + 1) / 2 from rfl]
    obtain ⟨q, hq⟩ : ∃ q, (c.lo + 1) / 2 = q := ⟨_, rfl⟩
    rw [hq] at HO HQ ⊢
    obtain ⟨lo, hlo⟩ : ∃ lo, c.lo = lo := ⟨_, rfl⟩
    rw [hlo] at c2 h8 hq
    obtain ⟨f1, f2⟩ := w64 ((lo : Int) + 1) (by omega)
    have e1 : ((lo : Int) + 1).tdiv 2 = (q : Int) := by rw [Int.tdiv_eq_ediv_of_nonneg (by omega)]; omega
    have e1' : ((lo : Int) + 1) / 2 = (q : Int) := by omega
    obtain ⟨f3, f4⟩ := w64 (q : Int) (by omega)
    clear h hq hlo
    go_enter Try.func34, Try.ntmps34
    go_wp2_with (first
      | (go_at_call 31; refine HM.out.mono ?_; rintro e w1 ⟨rfl, rfl⟩)
      | (go_at_call 41; refine HO.out.mono ?_; rintro e w1 ⟨A, c5, V', rfl, hl, hm, hk⟩; obtain ⟨A6, cp6, e6, _, _⟩ := hm.row.form; rw [bV_len] at e6; subst e6; have b2 : w1.cell? ⟨B, 2, none⟩ = some (.slice A6 (X.drop q).length cp6) := hm.hd.cell 2 (by omega); have b3 : w1.cell? ⟨B, 3, none⟩ = some (.int .i64 c.lo) := hm.hd.cell 3 (by omega); have k3 := hm.hd.free 3 (by omega); have HP := Lib.hid (And.intro hl (And.intro hm hk)); clear hl hm hk c2))
    go_ret
    have hl : (outV q (some c)).length = q := by show (c.L.take q).length = q; rw [List.length_take]; have := HQ.out; omega
    have hdl : X.length - q = (c.L.drop q).length := by rw [List.length_drop, HX.out]
    obtain ⟨h5, h6⟩ := fi_low HP.out.2.1 HP.out.2.2 (w' := w1.setCell ⟨B, 3, none⟩ (.int .i64 (X.length - q : Nat))) (by rw [hdl])
    refine ⟨A, c5, by rw [hl]; rfl, (fun h => nomatch h), (HP.out.1.keep h6 (fun k h1 h2 => h1.2 h2)).mono fun k _ h1 => ?_, h5⟩
    refine ⟨?_, fun e => h1.2 (isB_eq e)⟩
    rcases h1.1 with h2 | h2
    · exact .inl h2
    · exact .inr ⟨h2.1, by rw [World.size_setCell]; exact h2.2⟩

set_option maxHeartbeats 2000000 in
theorem dDrain_any {O : Nat → Prop} {v : Value} {om : Option Tc} {w : World} (h : TOb true w O v om) : Calls Try.prog 35 #[v] w (OutP true w O v (lenT om) om) := by
  cases om with
  | none =>
    have HM := Lib.hid (dmade_no h.1)
    have HH := Lib.hid h
    clear h
    go_enter Try.func35, Try.ntmps35
    go_wp2_with (go_at_call 31; refine HM.out.mono ?_; rintro e w1 ⟨rfl, rfl⟩)
    go_ret
    exact ⟨none, 0, rfl, fun _ => rfl, LAt.nil _ _ _, TMut.same HH.out (Below.refl _ _)⟩
  | some c =>
    obtain ⟨B, V, X, rfl, h⟩ := h
    have HM := Lib.hid (dmade_any h)
    have HO := Lib.hid (dfirst_any h (Nat.le_refl _))
    obtain ⟨A, cap, rfl, h1, h2⟩ := h.form
    have c2 := h.dc.1
    rw [h.len] at c2
    rw [show lenT (some c) = c.L.length from rfl]
    have HZ := Lib.hid (show (c.L.drop c.L.length).length = 0 by rw [List.length_drop]; omega)
    obtain ⟨q, hq⟩ : ∃ q, c.L.length = q := ⟨_, rfl⟩
    have HQ := Lib.hid hq
    rw [hq] at c2 HO HZ ⊢
    clear h h1 h2 hq
    go_enter Try.func35, Try.ntmps35
    go_wp2_with (first
      | (go_at_call 31; refine HM.out.mono ?_; rintro e w1 ⟨rfl, rfl⟩)
      | (go_at_call 41; refine HO.out.mono ?_; rintro e w1 ⟨A, c5, V', rfl, hl, hm, hk⟩; have b3 : w1.cell? ⟨B, 3, none⟩ = some (.int .i64 c.lo) := hm.hd.cell 3 (by omega); have k3 := hm.hd.free 3 (by omega); have HP := Lib.hid (And.intro hl (And.intro hm hk)); clear hl hm hk c2))
    go_ret
    have hl : (outV q (some c)).length = q := by show (c.L.take q).length = q; rw [List.length_take]; have := HQ.out; omega
    obtain ⟨h5, h6⟩ := fi_low HP.out.2.1 HP.out.2.2 (w' := w1.setCell ⟨B, 3, none⟩ (.int .i64 0)) (by rw [HZ.out]; rfl)
    refine ⟨_, c5, by rw [hl]; rfl, (fun h => nomatch h), (HP.out.1.keep h6 (fun k h1 h2 => h1.2 h2)).mono fun k _ h1 => ?_, h5⟩
    refine ⟨?_, fun e => h1.2 (isB_eq e)⟩
    rcases h1.1 with h2 | h2
    · exact .inl h2
    · exact .inr ⟨h2.1, by rw [World.size_setCell]; exact h2.2⟩
end Go.Proofs.Ytaefhhkdfepgmaa
