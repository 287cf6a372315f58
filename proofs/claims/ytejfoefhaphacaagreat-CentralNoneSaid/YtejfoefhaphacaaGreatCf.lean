/- Package central: Add. -/
import Derived.Test.YtejfoefhaphacaaGreatCe
namespace Go.Proofs.YtejfoefhaphacaaGreat
open Go.RowKit Go.Shelf

def insA {α : Type} (L : List α) (i : Nat) (m : α) : List α := L.take i ++ m :: L.drop i
theorem insA_get {α : Type} {L : List α} {i : Nat} {m : α} (hi : i ≤ L.length) (j : Nat) : (insA L i m)[j]? = if j < i then L[j]? else if j = i then some m else L[j - 1]? := by
  unfold insA
  by_cases h : j < i
  · rw [if_pos h, List.getElem?_append_left (by rw [List.length_take]; omega), List.getElem?_take_of_lt h]
  · rw [if_neg h, List.getElem?_append_right (by rw [List.length_take]; omega), List.length_take, Nat.min_eq_left hi]
    by_cases h2 : j = i
    · rw [if_pos h2, h2, Nat.sub_self]; rfl
    · rw [if_neg h2, show j - i = (j - i - 1) + 1 from by omega, List.getElem?_cons_succ, List.getElem?_drop, show i + (j - i - 1) = j - 1 from by omega]
theorem insA_mem {α : Type} {L : List α} {i : Nat} {m : α} (hi : i ≤ L.length) {j : Nat} {y : α} (h : (insA L i m)[j]? = some y) : y = m ∨ ∃ k : Nat, L[k]? = some y := by
  rw [insA_get hi] at h
  split at h
  · exact .inr ⟨_, h⟩
  · split at h
    · cases h; exact .inl rfl
    · exact .inr ⟨_, h⟩

/-- What Add leaves where a span is added. -/
theorem add_post {r : Bool} {O : Nat → Prop} {B P : Nat} {V v' : Value} {X : List Sn} {c : Ce} {w w4 w5 : World} {x : Sn} (h : LiA r w O B V X c) (hb : Below w.heap.size w w4) (hP : P ≤ X.length)
    (hs : SpA r w4 x.own x.B x.A x.c x.m) (hx : ∀ k, x.own k → w.heap.size ≤ k ∧ k < w4.heap.size) (hw : CWf { c with L := ins c.L P x.m })
    (hrow : w5.ownsRow 0 (eT r) 1 v' (X.length + 1) ((pV X).take P ++ x.v :: (pV X).drop P)) (hgr : w4.grownBy w5 V.ownBlock) (hat : v'.ownBlock = V.ownBlock ∨ v'.ownBlock = some w4.heap.size) :
    LMut r w O (.pointer (some ⟨B, 0, none⟩)) (some { c with L := ins c.L P x.m }) (w5.setCell ⟨B, 3, none⟩ v') := by
  have h4 := h.below hb
  have sz := hb.size
  have hBw := h.lt B h.ob
  have hVB : ∀ g, V.ownBlock = some g → g ≠ B := fun g hg => (h.rowO g hg).2
  have hVw : ∀ g, V.ownBlock = some g → g < w.heap.size := fun g hg => h.lt g (h.rowO g hg).1
  have hv'B : ∀ g, v'.ownBlock = some g → g ≠ B := fun g hg => by
    rcases hat with e | e
    · exact hVB g (e ▸ hg)
    · rw [e] at hg; cases hg; omega
  have hB5 : w5.heap[B]? = w4.heap[B]? := hgr.block B (by omega) (fun e => hVB B e.symm rfl)
  have blk : ∀ k, k < w4.heap.size → V.ownBlock ≠ some k → k ≠ B → (w5.setCell ⟨B, 3, none⟩ v').heap[k]? = w4.heap[k]? := fun k hk hv hkB => (Below.heap_setCell _ _ _ _ hkB).trans (hgr.block k hk (fun e => hv e.symm))
  have hkeep : Keep O w (w5.setCell ⟨B, 3, none⟩ v') := by
    refine ((Keep.of hb).trans (w2 := w5) ⟨hgr.os, hgr.tape, hgr.output, hgr.size, fun k hk ho => hgr.block k hk (fun e => ho (.inl (h.rowO k e.symm).1))⟩).set (.inl h.ob) _
  have hsz6 : (w5.setCell ⟨B, 3, none⟩ v').heap.size = w5.heap.size := World.size_setCell _ _ _
  have sz5 := hgr.size
  have hsp : ∀ (k : Nat) (y : Sn), X[k]? = some y → SpA r (w5.setCell ⟨B, 3, none⟩ v') y.own y.B y.A y.c y.m := fun k y hy => by
    have hso := h4.so k y hy
    exact (h4.sp k y hy).blocks (blk _ (h4.lt _ (hso _ (.inl rfl)).1) (hso _ (.inl rfl)).2.2 (hso _ (.inl rfl)).2.1) (blk _ (h4.lt _ (hso _ (.inr rfl)).1) (hso _ (.inr rfl)).2.2 (hso _ (.inr rfl)).2.1) (by rw [hsz6]; exact hgr.size)
  have hnew : ∀ k, x.own k → V.ownBlock ≠ some k ∧ k ≠ B := fun k hk => ⟨fun e => by have := hVw k e; have := hx k hk; omega, fun e => by have := hx k hk; omega⟩
  have hspx : SpA r (w5.setCell ⟨B, 3, none⟩ v') x.own x.B x.A x.c x.m := hs.blocks (blk _ (hx _ (.inl rfl)).2 (hnew _ (.inl rfl)).1 (hnew _ (.inl rfl)).2) (blk _ (hx _ (.inr rfl)).2 (hnew _ (.inr rfl)).1 (hnew _ (.inr rfl)).2) (by rw [hsz6]; exact hgr.size)
  refine ⟨⟨B, v', insA X P x, rfl, hw, ?_, ?_, fun g hg => ⟨?_, hv'B g hg⟩, .inl h.ob, fun i y hy => ?_, fun i y hy k hk => ?_, ?_, ?_, fun k hk => ?_⟩, hkeep⟩
  · exact ((h4.hd.of_block hB5).set 3 v').congr fun i hi => by
      have : i = 0 ∨ i = 1 ∨ i = 2 ∨ i = 3 := by omega
      rcases this with rfl | rfl | rfl | rfl <;> rfl
  · have e1 : (insA X P x).length = X.length + 1 := by unfold insA; simp; omega
    have e2 : pV (insA X P x) = (pV X).take P ++ x.v :: (pV X).drop P := by unfold pV insA; simp
    rw [e1, e2]
    exact owns_block hrow fun g hg _ => Below.heap_setCell _ _ _ _ (hv'B g hg)
  · rcases hat with e | e
    · exact .inl (h.rowO g (e ▸ hg)).1
    · rw [e] at hg
      cases hg
      obtain ⟨_, h2, _⟩ := owns_at hrow e
      exact .inr ⟨sz, by rw [hsz6]; exact h2⟩
  · rcases insA_mem hP hy with rfl | ⟨k, hk⟩
    · exact hspx
    · exact hsp k y hk
  · rcases insA_mem hP hy with rfl | ⟨j, hj⟩
    · refine ⟨.inr ⟨(hx k hk).1, by rw [hsz6]; have := (hx k hk).2; omega⟩, (hnew k hk).2, fun e => ?_⟩
      rcases hat with e2 | e2
      · exact (hnew k hk).1 (e2 ▸ e)
      · rw [e2] at e; cases e; have := (hx _ hk).2; omega
    · have hso := h.so j y hj k hk
      refine ⟨.inl hso.1, hso.2.1, fun e => ?_⟩
      rcases hat with e2 | e2
      · exact hso.2.2 (e2 ▸ e)
      · rw [e2] at e; cases e; have := h.lt _ hso.1; omega
  · have hold : ∀ y ∈ X, ∀ k, y.own k → k < w.heap.size := fun y hy k hk => by
      obtain ⟨j, hj⟩ := List.mem_iff_getElem?.1 hy
      exact h.lt k (h.so j y hj k hk).1
    refine List.pairwise_append.2 ⟨h.dj.sublist (List.take_sublist _ _), List.pairwise_cons.2 ⟨fun y hy k h1 h2 => ?_, h.dj.sublist (List.drop_sublist _ _)⟩, fun y hy z hz => ?_⟩
    · have := hold y (List.mem_of_mem_drop hy) k h2
      have := (hx k h1).1
      omega
    · rw [List.mem_cons] at hz
      rcases hz with rfl | hz
      · intro k h1 h2
        have := hold y (List.mem_of_mem_take hy) k h1
        have := (hx k h2).1
        omega
      · obtain ⟨i, hi⟩ := List.mem_iff_getElem?.1 hy
        obtain ⟨j, hj⟩ := List.mem_iff_getElem?.1 hz
        have hip : i < P := by
          have := (List.getElem?_eq_some_iff.1 hi).1
          rw [List.length_take] at this
          omega
        rw [List.getElem?_take_of_lt hip] at hi
        rw [List.getElem?_drop] at hj
        exact dj_of h.dj (by omega) hi hj
  · show (insA X P x).map (·.m) = ins c.L P x.m
    unfold insA ins
    rw [List.map_append, List.map_cons, List.map_take, List.map_drop, h.ms]
  · rcases hk with hk | hk
    · rw [hsz6]; have := h.lt k hk; omega
    · exact hk.2

theorem ob_sn {r : Bool} {w : World} {O : Nat → Prop} {v : Value} {m : Mo} (h : Ob r w O v (some m)) : ∃ x : Sn, v = .pointer (some ⟨x.B, 0, none⟩) ∧ x.m = m ∧ SpA r w x.own x.B x.A x.c x.m ∧ ∀ k, x.own k → O k := by
  obtain ⟨B, A, c, e, h⟩ := h
  refine ⟨⟨B, A, c, m⟩, e, rfl, ⟨h.wf, h.b, h.a, .inl rfl, .inr rfl, h.ne, fun k hk => ?_, h.cp⟩, fun k hk => ?_⟩
  · rcases hk with rfl | rfl
    · exact h.b.lt
    · exact h.a.lt
  · rcases hk with rfl | rfl
    · exact h.ob
    · exact h.oa
theorem pV_one (X : List Sn) : ∀ u ∈ pV X, u.oneCell' = true := fun u hu => by
  unfold pV at hu
  rw [List.mem_map] at hu
  obtain ⟨x, _, rfl⟩ := hu
  rfl

set_option maxRecDepth 100000 in
set_option maxHeartbeats 4000000 in
theorem cAdd_any {O : Nat → Prop} {v : Value} {om : Option Ce} {w : World} (h : LOb false w O v om) (st : Int) :
    Calls Tryz.prog 13 #[v, .int .i64 st] w fun e w' => e = .returned (.int .i64 (adE om st)) ∧ LMut false w O v (adD om st) w' := by
  cases om with
  | none =>
    have HH := Lib.hid h
    have HM := Lib.hid (cmade_no h.1)
    rw [show adE none st = 5 from rfl, show adD none st = none from rfl]
    clear h
    go_enter Tryz.func13, Tryz.ntmps13
    go_wp2_with (go_at_call 21; refine HM.out.mono ?_; rintro e w1 ⟨rfl, rfl⟩)
    go_ret
    exact ⟨rfl, LMut.same HH.out (Below.refl _ _)⟩
  | some c =>
    obtain ⟨B, V, X, rfl, h⟩ := h
    have HM := Lib.hid (cmade_any h)
    have HN := Lib.hid (New_any st c.z c.g c.t w)
    have HH := Lib.hid h
    obtain ⟨d0, d1, d2, d3⟩ := h.cells
    by_cases hf : fitB st (cls c) = true
    · have e1 : newE st ⟨c.z, c.g, c.t⟩ = 0 := if_pos hf
      have e2 : newO st ⟨c.z, c.g, c.t⟩ = some (newM st (cls c)) := if_pos hf
      rw [e1, e2] at HN
      have hst : 0 ≤ st ∧ st ≤ 1024 := by
        obtain ⟨_, h2, h3⟩ := fit_get hf
        have := h.wf.g1
        have h4 : (cls c).p = (c.g : Int) := rfl
        omega
      have hPl : pos c.L st ≤ X.length := by rw [h.len]; exact pos_le _ _
      have HBH := Lib.hid (fun W (hb : Below w.heap.size w W) => behind_any (h.below hb) st)
      have HOV := Lib.hid (fun W (hb : Below w.heap.size w W) => overlaps_any (h.below hb) st hst.1 hst.2 (pos c.L st) hPl)
      rw [← ovl_eq h.wf st] at HOV
      cases ho : ovl c.L c.g st with
      | true =>
        rw [show adE (some c) st = 9 by simp [adE, hf, ho], show adD (some c) st = some c by simp [adD, hf, ho]]
        rw [ho] at HOV
        generalize pos c.L st = P at *
        clear h hf e1 e2 ho d3
        go_enter Tryz.func13, Tryz.ntmps13
        go_wp2_with (first
          | (go_at_call 21; refine HM.out.mono ?_; rintro e w1 ⟨rfl, rfl⟩)
          | (go_at_call 42; refine HN.out.mono ?_; rintro e w1 ⟨v1, rfl, _, _, hb⟩; have HB1 := Lib.hid hb; clear hb)
          | (go_at_call 43; refine (HBH.out _ HB1.out).mono ?_; rintro e w2 ⟨rfl, hb⟩; have HB2 := Lib.hid (btr HB1.out hb (Nat.le_refl _)); clear hb)
          | (go_at_call 44; refine (HOV.out _ HB2.out).mono ?_; rintro e w3 ⟨rfl, hb⟩; have HB3 := Lib.hid (btr HB2.out hb (Nat.le_refl _)); clear hb))
        go_ret
        exact ⟨rfl, LMut.same HH.out.lob HB3.out⟩
      | false =>
        rw [show adE (some c) st = 0 by simp [adE, hf, ho], show adD (some c) st = some { c with L := ins c.L (pos c.L st) (newM st (cls c)) } by simp [adD, hf, ho]]
        rw [ho] at HOV
        have HW := Lib.hid (h.wf.add hf ho)
        generalize hM0 : newM st (cls c) = m0 at *
        generalize hP0 : pos c.L st = P at *
        obtain ⟨A, cap, rfl⟩ := owns_form h.row
        have hmax : X.length ≤ 1024 := by rw [h.len]; exact h.wf.len
        have HI := Lib.hid (fun (w3 : World) (hb : Below w.heap.size w w3) (x : Option Addr) => Insert_any (w := w3.alloc (.cells #[.pointer x] 63)) (owns_block ((h.below hb).row) (fun g _ hl => Below.heap_alloc _ _ _ hl)) (pV_one X) P hPl hmax w3.heap.size x (World.alloc_heap_new w3 _)
          (fun e => by have := h.lt _ (h.rowO _ e).1; have := hb.size; omega) (Nat.zero_le _))
        have HD := Lib.hid (fun (w3 : World) (hb : Below w.heap.size w w3) => (hb.cell (p := ⟨B, 3, none⟩) (World.block_lt_of_cell? _ _ d3)).trans d3)
        have HD5 := Lib.hid (fun (w4 w5 : World) (hb : Below w.heap.size w w4) (hgr : w4.grownBy w5 (Value.slice A X.length cap).ownBlock) => show w5.cell? ⟨B, 3, none⟩ = some (.slice A X.length cap) ∧ w5.frozen? ⟨B, 3, none⟩ = false from by
          have hB5 : w5.heap[B]? = w4.heap[B]? := hgr.block B (by have := h.lt B h.ob; have := hb.size; omega) (fun e => (h.rowO B e.symm).2 rfl)
          have h5 := (h.below hb).hd.of_block hB5
          exact ⟨h5.cell 3 (by omega), h5.free 3 (by omega)⟩)
        have HPO := Lib.hid (fun (w4 w5 : World) (x : Sn) (v' : Value) (hb : Below w.heap.size w w4) (hs : SpA false w4 x.own x.B x.A x.c x.m) (hm : x.m = m0) (hx : ∀ k, x.own k → w.heap.size ≤ k ∧ k < w4.heap.size) (hr : w5.ownsRow 0 (eT false) 1 v' (X.length + 1) ((pV X).take P ++ x.v :: (pV X).drop P)) (hgr : w4.grownBy w5 (Value.slice A X.length cap).ownBlock) (hat : v'.ownBlock = (Value.slice A X.length cap).ownBlock ∨ v'.ownBlock = some w4.heap.size) => by
          have := add_post h hb hPl hs hx (by rw [hm]; exact HW.out) hr hgr hat
          rw [hm] at this
          exact this)
        clear h hf e1 e2 ho hM0 hP0
        go_enter Tryz.func13, Tryz.ntmps13
        go_wp2_with (first
          | (go_at_call 21; refine HM.out.mono ?_; rintro e w1 ⟨rfl, rfl⟩)
          | (go_at_call 42; refine HN.out.mono ?_; rintro e w1 ⟨v1, rfl, ho, _, hb⟩; have HB1 := Lib.hid hb; obtain ⟨x, rfl, hxm, hxs, hxo⟩ := ob_sn ho; have HX := Lib.hid (And.intro hxm (And.intro hxs hxo)); clear ho hb hxm hxs hxo)
          | (go_at_call 43; refine (HBH.out _ HB1.out).mono ?_; rintro e w2 ⟨rfl, hb⟩; have HB2 := Lib.hid (btr HB1.out hb (Nat.le_refl _)); have HB12 := Lib.hid hb; clear hb)
          | (go_at_call 44; refine (HOV.out _ HB2.out).mono ?_; rintro e w3 ⟨rfl, hb⟩; have HB3 := Lib.hid (btr HB2.out hb (Nat.le_refl _)); have HB13 := Lib.hid (btr HB12.out hb (Nat.le_refl _)); have d33 := HD.out _ HB3.out; clear hb)
          | (go_at_call 45; refine (HI.out _ HB3.out _).mono ?_; rintro e w5 ⟨v', rfl, how, hgr, hat⟩; obtain ⟨A', c', rfl⟩ := owns_form how; obtain ⟨k1, k2⟩ := HD5.out _ _ (HB3.out.alloc HB3.out.size _) hgr; have HR := Lib.hid (And.intro how (And.intro hgr hat)); clear how hgr hat d33))
        go_ret
        refine ⟨rfl, HPO.out (w3.alloc (.cells #[.pointer (some ⟨x.B, 0, none⟩)] 63)) w5 x (.slice A' (X.length + 1) c') (HB3.out.alloc HB3.out.size _) (HX.out.2.1.below (HB13.out.alloc HB13.out.size _)) HX.out.1 (fun k hk => ?_) HR.out.1 HR.out.2.1 HR.out.2.2⟩
        have h1 := HX.out.2.2 k hk
        have h2 := HB13.out.size
        exact ⟨h1.1, by have := h1.2; simp; omega⟩
    · have e1 : newE st ⟨c.z, c.g, c.t⟩ = 1 := if_neg hf
      have e2 : newO st ⟨c.z, c.g, c.t⟩ = none := if_neg hf
      rw [e1, e2] at HN
      rw [show adE (some c) st = 1 by simp [adE, hf], show adD (some c) st = some c by simp [adD, hf]]
      clear h hf e1 e2 d3
      go_enter Tryz.func13, Tryz.ntmps13
      go_wp2_with (first
        | (go_at_call 21; refine HM.out.mono ?_; rintro e w1 ⟨rfl, rfl⟩)
        | (go_at_call 42; refine HN.out.mono ?_; rintro e w1 ⟨v1, rfl, _, _, hb⟩; have HB1 := Lib.hid hb; clear hb))
      go_ret
      exact ⟨rfl, LMut.same HH.out.lob HB1.out⟩

end Go.Proofs.YtejfoefhaphacaaGreat
