/- The statement about stacks: its helper batch; what the statement holds. -/
import Derived.Test.YtaefhhkdfepgmaaWe
namespace Go.Proofs.Ytaefhhkdfepgmaa
open Go.RowKit Go.Lib

def btL (f : Int) (n : Nat) : List Int := (List.range n).map (fun i : Nat => f + (i : Int))
theorem btL_len (f : Int) (n : Nat) : (btL f n).length = n := by unfold btL; simp
theorem btL_next (f : Int) (n : Nat) : btL f (n + 1) = btL f n ++ [f + (n : Int)] := by unfold btL; rw [List.range_succ, List.map_append]; rfl
theorem btL_in {f : Int} {n : Nat} (hf : 0 ≤ f ∧ f ≤ 100000) (hn : n ≤ 1000) : ∀ a ∈ btL f n, InR a := fun a ha => by
  unfold btL at ha
  obtain ⟨i, hi, rfl⟩ := List.mem_map.1 ha
  have := List.mem_range.1 hi
  exact ⟨by omega, by omega⟩
/-- What batch leaves: a batch of one's own, whose cells may be written to. -/
def BaP (w : World) (l : List Int) (n : Nat) (e : Ending) (w' : World) : Prop := ∃ g c', e = .returned (.slice (some ⟨g, 0, none⟩) n c') ∧ w.heap.size ≤ g ∧ BtAt w' ⟨g, l, c'⟩ ∧ (∀ i, w'.frozen? ⟨g, i, none⟩ = false) ∧ Below w.heap.size w w'
theorem row_free {w : World} {base n c g : Nat} {xs : List Value} {e : TypeId} (h : w.ownsRow base e 1 (.slice (some ⟨g, 0, none⟩) n c) n xs) : ∀ i, w.frozen? ⟨g, i, none⟩ = false := fun i => by
  rcases h.2 with ⟨h0, _⟩ | ⟨g', cap, cur, h0, _, hg, _⟩
  · cases h0
  · cases h0
    exact free_block hg
set_option maxRecDepth 100000 in
set_option maxHeartbeats 4000000 in
theorem batch_any (n : Nat) (f : Int) (w : World) (h1 : 1 ≤ n) (h2 : n ≤ 32) (hf : 0 ≤ f ∧ f ≤ 100000) : Calls Try.prog 18 #[.int .i64 n, .int .i64 f] w (BaP w (btL f n) n) := by
  obtain ⟨i0, hi, hz0, hz1, hz2⟩ := info_parts info3
  have HF := Lib.hid hf
  clear hf
  go_enter Try.func18, Try.ntmps18
  go_wp2
  go_loopw [5, 6] (fun s i wr => ∃ q : Nat, q ≤ n ∧ i = .int .i64 q ∧ wr.ownsRow w.heap.size 3 1 s q (cZ (btL f q)) ∧ Below w.heap.size w wr) (fun _ i _ => n - (intOf i).toNat)
  case atStart => exact ⟨0, by omega, rfl, World.ownsRow_nil _ _ _ _, Below.refl _ _⟩
  case round =>
    obtain ⟨q, hq, rfl, hrow, hb⟩ := hrel
    obtain ⟨A5, c5, rfl⟩ := owns_form hrow
    have HR5 := Lib.hid hrow
    have HB := Lib.hid hb
    by_cases hlt : q < n
    · have HS := Lib.hid (show w.heap.size ≤ wr.heap.size from hb.size)
      have hf := HF.out
      obtain ⟨f1, f2⟩ := w64 (f + (q : Int)) (by omega)
      clear hrow hb hf
      go_wp2_with (at_builtin; refine wpList_append_own _ rfl _ _ 32 rfl w.heap.size 3 i0 (.int .i64 0) 1 8 undInts hi hz0 hz1 hz2 rfl (by decide) _ _ _ rfl (HR5.out.alloc _) ⟨wr.heap.size, 0, none⟩ 1 1 [.int .i64 (f + (q : Int))] rfl rfl (World.news_of_block (World.alloc_heap_new wr _)) (by simp [Value.oneCell']) (by unfold maxLen; omega) (by omega) (by have := HS.out; simp; omega) ?_; intro v' w3 hown' hgrow _; have HO := Lib.hid hown'; have HB3 := Lib.hid ((HB.out.alloc HB.out.size _).grown hgrow (by have := HS.out; simp; omega) (fun k hk => (HR5.out.lt k hk).1)); clear hown' hgrow)
      clear f1 f2
      go_roundw
      case rel => exact ⟨q + 1, by omega, by go_num, by rw [btL_next, cZ_app]; exact HO.out, HB3.out⟩
      case measure => simp [intOf]; omega
    · obtain rfl : q = n := by omega
      have hin := btL_in (n := q) HF.out (by omega)
      obtain ⟨⟨xg, xl, xc⟩, e, e1, e2, e3⟩ := bt_of hrow (btL_len f q).symm (by rw [btL_len]; omega) hin
      dsimp only at e1 e2
      subst e1
      have e' : Value.slice A5 q c5 = .slice (some ⟨xg, 0, none⟩) q xc := by rw [e]; show Value.slice _ (btL f q).length _ = _; rw [btL_len]
      have HP := Lib.hid (And.intro e2 (And.intro e3 (row_free (by rw [e'] at hrow; exact hrow))))
      injection e' with e5 _ e6
      subst e5 e6
      clear hrow hb e hin e2 e3
      go_wp2_with fail
      go_ret
      exact ⟨xg, _, rfl, HP.out.1, HP.out.2.1, HP.out.2.2, HB.out⟩

/-- What the statement holds beside the cache: the batches in it, in memory of its own. -/
structure StM (w wr : World) (v : Value) (c : Tc) (O : Nat → Prop) (V : Value) (Y : List Bt) : Prop where
  own : Own false w wr v (some c) O
  row : OffR wr 32 V (bV Y)
  rowO : ∀ g, V.ownBlock = some g → ¬ O g ∧ w.heap.size ≤ g
  bt : ∀ y ∈ Y, BtAt wr y
  bo : ∀ y ∈ Y, ¬ O y.g ∧ V.ownBlock ≠ some y.g
section
variable {w wr w2 : World} {v V V' : Value} {c c' : Tc} {O F : Nat → Prop} {Y : List Bt}
theorem StM.keep (h : StM w wr v c O V Y) (hk : Keep F wr w2) (hO : ∀ k, O k → F k → False) (hw : ∀ k, F k → w.heap.size ≤ k) (hV : ∀ g, V.ownBlock = some g → ¬ F g) (hY : ∀ y ∈ Y, ¬ F y.g) : StM w w2 v c O V Y :=
  ⟨⟨h.own.ob.keep hk hO, h.own.nw, h.own.bel.trans (hk.below h.own.bel.size hw)⟩, h.row.block fun g hg hl => hk.block g hl (hV g hg), h.rowO, fun y hy => (h.bt y hy).block (hk.block _ (h.bt y hy).lt (hY y hy)), h.bo⟩
theorem StM.below (h : StM w wr v c O V Y) (hb : Below wr.heap.size wr w2) : StM w w2 v c O V Y :=
  h.keep (F := fun _ => False) (Keep.of hb) (fun _ _ h => h) (fun _ h => h.elim) (fun _ _ h => h) (fun _ _ h => h)
theorem StM.call (h : StM w wr v c O V Y) (hM : TMut false F wr O v (some c') w2) (hF : ∀ k, F k → O k) : StM w w2 v c' (Ext O wr w2) V Y :=
  ⟨h.own.mut hM hF, h.row.block fun g hg hl => hM.2.block g hl (fun hx => (h.rowO g hg).1 (hF g hx)), fun g hg => ⟨fun hx => by
      rcases hx with hx | hx
      · exact (h.rowO g hg).1 hx
      · have := h.row.lt g hg; omega, (h.rowO g hg).2⟩, fun y hy => (h.bt y hy).block (hM.2.block _ (h.bt y hy).lt (fun hx => (h.bo y hy).1 (hF _ hx))), fun y hy => ⟨fun hx => by
      rcases hx with hx | hx
      · exact (h.bo y hy).1 hx
      · have := (h.bt y hy).lt; omega, (h.bo y hy).2⟩⟩
theorem StM.sub (h : StM w wr v c O V Y) {Z : List Bt} (hZ : ∀ y ∈ Z, y ∈ Y) (hr : OffR wr 32 V' (bV Z)) (ho : ∀ g, V'.ownBlock = some g → V.ownBlock = some g) : StM w wr v c O V' Z :=
  ⟨h.own, hr, fun g hg => h.rowO g (ho g hg), fun y hy => h.bt y (hZ y hy), fun y hy => ⟨(h.bo y (hZ y hy)).1, fun e => (h.bo y (hZ y hy)).2 (ho _ e)⟩⟩
/-- A batch is put behind the others. -/
theorem StM.push (h : StM w wr v c O V Y) {x : Bt} {tmp : Obj} (hx : BtAt wr x) (hxo : ¬ O x.g ∧ V.ownBlock ≠ some x.g) (hrow : OffR w2 32 V' (bV Y ++ [x.v])) (hgr : (wr.alloc tmp).grownBy w2 V.ownBlock) (hat : V'.ownBlock = V.ownBlock ∨ V'.ownBlock = some (wr.alloc tmp).heap.size) : StM w w2 v c O V' (Y ++ [x]) := by
  have hk : Keep (fun k => V.ownBlock = some k) wr w2 := ((Keep.refl _ wr).alloc tmp).grown (v := V) hgr (fun g hg => .inl hg)
  have hblk : ∀ k, k < wr.heap.size → V.ownBlock ≠ some k → w2.heap[k]? = wr.heap[k]? := fun k hk' hn => hk.block k hk' hn
  have hS : StM w w2 v c O V Y → False ∨ True := fun _ => .inr trivial
  have hvo : ∀ g, V'.ownBlock = some g → (¬ O g ∧ w.heap.size ≤ g) ∧ (V.ownBlock = some g ∨ wr.heap.size ≤ g) := fun g hg => by
    rcases hat with e | e
    · rw [e] at hg; exact ⟨h.rowO g hg, .inl hg⟩
    · rw [e] at hg
      injection hg with hg
      simp at hg
      have := h.own.bel.size
      exact ⟨⟨fun ho => by have := h.own.ob.lt g ho; omega, by omega⟩, .inr (by omega)⟩
  refine ⟨⟨h.own.ob.keep hk (fun k h1 h2 => (h.rowO k h2).1 h1), h.own.nw, h.own.bel.trans (hk.below h.own.bel.size (fun k hk => (h.rowO k hk).2))⟩, ?_, fun g hg => (hvo g hg).1, fun y hy => ?_, fun y hy => ?_⟩
  · rw [bV_snoc]; exact hrow
  · rcases List.mem_append.1 hy with h1 | h1
    · exact (h.bt y h1).block (hblk _ (h.bt y h1).lt (h.bo y h1).2)
    · rw [List.mem_singleton.1 h1]
      exact hx.block (hblk _ hx.lt hxo.2)
  · rcases List.mem_append.1 hy with h1 | h1
    · refine ⟨(h.bo y h1).1, fun e => ?_⟩
      rcases (hvo _ e).2 with h2 | h2
      · exact (h.bo y h1).2 h2
      · have := (h.bt y h1).lt; omega
    · rw [List.mem_singleton.1 h1]
      refine ⟨hxo.1, fun e => ?_⟩
      rcases (hvo _ e).2 with h2 | h2
      · exact hxo.2 h2
      · have := hx.lt; omega
end

/-! Lists of batches as values. -/
theorem LAt.vals {P : Nat → Prop} {w : World} {A : Option Addr} {L : List (List Int)} (h : LAt P w A L) : ∃ vs : List Value, vs.length = L.length ∧ (∀ b, A = some b → ∀ j u, vs[j]? = some u → w.cell? (b.add j) = some u) ∧ ∀ (j : Nat) (u : Value) (l : List Int), vs[j]? = some u → L[j]? = some l → ∃ A' c', u = .slice A' l.length c' ∧ IAt P w A' l := by
  cases L with
  | nil => exact ⟨[], rfl, fun b _ j u hj => by simp at hj, fun j u l hj => by simp at hj⟩
  | cons l0 t =>
    obtain ⟨g, o, _, _, rfl, hg, hP, _⟩ := h 0 l0 rfl
    refine ⟨(List.range (l0 :: t).length).map (fun i => (w.cell? ⟨g, o + i, none⟩).getD (.slice none 0 0)), by rw [List.length_map, List.length_range], fun b hb j u hj => ?_, fun j u l hj hl => ?_⟩
    · cases hb
      rw [List.getElem?_map] at hj
      rcases Nat.lt_or_ge j (l0 :: t).length with hlt | hge
      · rw [List.getElem?_range hlt, Option.map_some] at hj
        obtain ⟨l, hl⟩ : ∃ l, (l0 :: t)[j]? = some l := ⟨_, List.getElem?_eq_getElem hlt⟩
        obtain ⟨g', o', A', c', e, _, _, h1, _⟩ := h j l hl
        cases e
        rw [h1] at hj
        injection hj with hj
        rw [Addr.add_lit, h1]
        exact congrArg some hj
      · rw [List.getElem?_eq_none (by rw [List.length_range]; exact hge)] at hj
        cases hj
    · obtain ⟨hlt, _⟩ := List.getElem?_eq_some_iff.1 hl
      rw [List.getElem?_map, List.getElem?_range hlt, Option.map_some] at hj
      obtain ⟨g', o', A', c', e, _, _, h1, h2⟩ := h j l hl
      cases e
      rw [h1] at hj
      injection hj with hj
      exact ⟨A', c', hj.symm, h2⟩
theorem vals_one {w : World} {P : Nat → Prop} {vs : List Value} {L : List (List Int)} (hl : vs.length = L.length) (h : ∀ (j : Nat) (u : Value) (l : List Int), vs[j]? = some u → L[j]? = some l → ∃ A' c', u = .slice A' l.length c' ∧ IAt P w A' l) : ∀ u ∈ vs, u.oneCell' = true := fun u hu => by
  obtain ⟨j, hj⟩ := List.mem_iff_getElem?.1 hu
  obtain ⟨hlt, _⟩ := List.getElem?_eq_some_iff.1 hj
  obtain ⟨A', c', rfl, _⟩ := h j u L[j] hj (List.getElem?_eq_getElem (by omega))
  rfl
/-- A row of one's own of such values. -/
theorem lat_vals {w w3 : World} {P : Nat → Prop} {vs : List Value} {L : List (List Int)} {A : Option Addr} {n c : Nat} (hr : OffR w3 32 (.slice A n c) vs) (hk : ∀ A' l, IAt P w A' l → IAt (fun _ => True) w3 A' l) (hl : vs.length = L.length) (h : ∀ (j : Nat) (u : Value) (l : List Int), vs[j]? = some u → L[j]? = some l → ∃ A' c', u = .slice A' l.length c' ∧ IAt P w A' l) : LAt (fun _ => True) w3 A L := fun i l hi => by
  have hlt := (List.getElem?_eq_some_iff.1 hi).1
  obtain ⟨u, hu⟩ : ∃ u, vs[i]? = some u := ⟨_, List.getElem?_eq_getElem (by omega)⟩
  obtain ⟨g, o, cap, e1, e2, e3⟩ := hr.slot hu
  injection e1 with e1 _ _
  obtain ⟨A', c', rfl, h2⟩ := h i u l hu hi
  exact ⟨g, o, A', c', e1, e3, trivial, e2, hk _ _ h2⟩
end Go.Proofs.Ytaefhhkdfepgmaa
