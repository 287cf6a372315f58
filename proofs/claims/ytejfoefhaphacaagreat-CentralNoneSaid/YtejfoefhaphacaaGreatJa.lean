/- A list beside the document's; a call on both. -/
import Derived.Test.YtejfoefhaphacaaGreatDk
import Derived.Test.YtejfoefhaphacaaGreatFd
import Derived.Deep.RegionHeld3
namespace Go.Proofs.YtejfoefhaphacaaGreat
open Go.RowKit Go.Sort Go.Shelf Go.Lib

/-- A list of either kind, of one's own since w0, in the blocks O. -/
structure OwnR (r : Bool) (w0 w : World) (v : Value) (om : Option Ce) (O : Nat → Prop) : Prop where
  ob : LOb r w O v om
  nw : ∀ k, O k → w0.heap.size ≤ k
  bel : Below w0.heap.size w0 w
/-- The program's and the document's, apart. -/
structure TwR (w0 w : World) (a b : Value) (oa ob : Option Ce) (O1 O2 : Nat → Prop) : Prop where
  a : OwnR false w0 w a oa O1
  b : OwnR true w0 w b ob O2
  d : ∀ k, O1 k → O2 k → False
section
variable {r : Bool} {w00 w0 w w' w1 w2 : World} {v a b : Value} {om o2 oa ob oa' ob' : Option Ce} {O O1 O2 : Nat → Prop} {A : Option Addr}
theorem OwnR.new (h : LOb r w' (Nw w w') v om) (hb : Below w.heap.size w w') : OwnR r w w' v om (Nw w w') := ⟨h, fun _ hk => hk.1, hb⟩
theorem OwnR.below (h : OwnR r w0 w v om O) (hb : Below w.heap.size w w') : OwnR r w0 w' v om O := ⟨h.ob.below hb, h.nw, btr h.bel hb (Nat.le_refl _)⟩
theorem OwnR.later (h : OwnR r w0 w v om O) (hb : Below w00.heap.size w00 w0) : OwnR r w00 w v om O := ⟨h.ob, fun k hk => Nat.le_trans hb.size (h.nw k hk), hb.trans (h.bel.mono hb.size)⟩
theorem OwnR.mut (h : OwnR r w0 w v om O) (hM : LMut r w O v o2 w') : OwnR r w0 w' v o2 (Ext O w w') := by
  have s := h.bel.size
  exact ⟨hM.1, fun k hk => by rcases hk with hk | hk; exact h.nw k hk; omega, h.bel.trans (hM.2.below s h.nw)⟩
theorem OwnR.keep (h : OwnR r w0 w v om O) (hk : Keep O1 w w') (hd : ∀ k, O k → O1 k → False) (hn : ∀ k, O1 k → w0.heap.size ≤ k) : OwnR r w0 w' v om O := ⟨h.ob.keep hk hd, h.nw, h.bel.trans (hk.below h.bel.size hn)⟩
theorem TwR.below (h : TwR w0 w a b oa ob O1 O2) (hb : Below w.heap.size w w') : TwR w0 w' a b oa ob O1 O2 := ⟨h.a.below hb, h.b.below hb, h.d⟩
theorem TwR.later (h : TwR w0 w a b oa ob O1 O2) (hb : Below w00.heap.size w00 w0) : TwR w00 w a b oa ob O1 O2 := ⟨h.a.later hb, h.b.later hb, h.d⟩
theorem TwR.left (h : TwR w0 w a b oa ob O1 O2) (hM : LMut false w O1 a oa' w') : TwR w0 w' a b oa' ob (Ext O1 w w') O2 :=
  ⟨h.a.mut hM, h.b.keep hM.2 (fun k x y => h.d k y x) h.a.nw, fun k x y => by
    rcases x with x | x
    · exact h.d k x y
    · have := h.b.ob.lt k y; omega⟩
theorem TwR.right (h : TwR w0 w a b oa ob O1 O2) (hM : LMut true w O2 b ob' w') : TwR w0 w' a b oa ob' O1 (Ext O2 w w') :=
  ⟨h.a.keep hM.2 h.d h.b.nw, h.b.mut hM, fun k x y => by
    rcases y with y | y
    · exact h.d k x y
    · have := h.a.ob.lt k x; omega⟩
theorem TwR.of (h1 : OwnR false w w1 a oa (Nw w w1)) (h2 : OwnR true w1 w2 b ob (Nw w1 w2)) : TwR w w2 a b oa ob (Nw w w1) (Nw w1 w2) :=
  ⟨h1.below h2.bel, h2.later h1.bel, fun k x y => by have := x.2; have := y.1; omega⟩
theorem lat_keep {L : List Nat} (h : LAt w A L) (hk : Keep O w w') (hd : ∀ x : Addr, A = some x → ¬ O x.block) : LAt w' A L := fun i x hi => by
  obtain ⟨g, e, hg, hc⟩ := h i x hi
  exact ⟨g, e, Nat.lt_of_lt_of_le hg hk.size, (World.cell?_of_block (a := ⟨g, i, none⟩) (hk.block g hg (hd _ e))).trans hc⟩
theorem rs_keep {L : List (Nat × Nat)} (h : RsAt w A L) (hk : Keep O w w') (hd : ∀ x : Addr, A = some x → ¬ O x.block) : RsAt w' A L := fun i p q hi => by
  obtain ⟨g, e, hg, h1, h2⟩ := h i p q hi
  have hb := hk.block g hg (hd _ e)
  exact ⟨g, e, Nat.lt_of_lt_of_le hg hk.size, (World.cell?_of_block (a := ⟨g, _, none⟩) hb).trans h1, (World.cell?_of_block (a := ⟨g, _, none⟩) hb).trans h2⟩
/-- What is returned is new: so it is none of the other list's. -/
theorem TwR.apart (h : TwR w0 w a b oa ob O1 O2) (hA : NewA w A) : ∀ x : Addr, A = some x → ¬ O2 x.block := fun x hx ho => by
  have := h.b.ob.lt _ ho
  have := hA x hx
  omega
end
theorem CWf.le_sg {c : Ce} (h : CWf c) : ∀ (i : Nat) (m : Mo), c.L[i]? = some m → i * c.g ≤ m.s
  | 0, _, _ => by rw [Nat.zero_mul]; exact Nat.zero_le _
  | i + 1, m, e => by
    obtain ⟨x, hx⟩ : ∃ x, c.L[i]? = some x := ⟨_, List.getElem?_eq_getElem (by have := (List.getElem?_eq_some_iff.1 e).1; omega)⟩
    have h1 := h.le_sg i x hx
    have h2 := h.ord (Nat.lt_succ_self i) hx e
    rw [Nat.succ_mul]
    omega
theorem CWf.lg {c : Ce} (h : CWf c) : c.L.length * c.g ≤ 1024 := by
  cases hl : c.L.length with
  | zero => rw [Nat.zero_mul]; exact Nat.zero_le _
  | succ k =>
    obtain ⟨x, hx⟩ : ∃ x, c.L[k]? = some x := ⟨_, List.getElem?_eq_getElem (by omega)⟩
    have h1 := h.le_sg k x hx
    have h2 := (h.at hx).wf.s1
    have h3 := (h.at hx).g
    rw [Nat.succ_mul]
    omega
theorem tkR_le {r : Bool} {w : World} {O : Nat → Prop} {v : Value} {om : Option Ce} {n : Int} (h : LOb r w O v (tkDr om n)) : (tkR om n).length ≤ 32768 := by
  cases om with
  | none => exact Nat.zero_le _
  | some c =>
    by_cases hn : n < 0
    · rw [show tkR (some c) n = [] from if_pos hn]; exact Nat.zero_le _
    · rw [show tkDr (some c) n = some { c with L := (tkL n.toNat c.L).2 } from if_neg hn] at h
      rw [show tkR (some c) n = (tkL n.toNat c.L).1 from if_neg hn]
      obtain ⟨_, _, _, _, h⟩ := h
      have hw := h.wf
      have h1 := tkL_sum n.toNat c.L
      generalize tkL n.toNat c.L = T at *
      have h2 := sumL_le (f := tc) (b := c.n) T.2 (fun m hm => by have h3 := tc_le m; rw [(hw.sp m hm).n] at h3; exact h3)
      have h4 : T.2.length * c.g ≤ 1024 := hw.lg
      have h5 : c.n * c.z ≤ c.g * 256 := hw.n1.2.2
      have h6 : 8 ≤ c.z := hw.z1
      have h7 := Nat.mul_le_mul_left c.n h6
      have h8 : c.n ≤ c.g * 32 := by omega
      have h9 := Nat.mul_le_mul_left T.2.length h8
      rw [← Nat.mul_assoc] at h9
      omega
theorem dead_le {L : List Mo} (h : L.length ≤ 1024) : ((dead L).map (fun m => (m.s, m.g))).length ≤ 1024 := by
  rw [List.length_map]
  unfold dead
  exact Nat.le_trans (List.length_filter_le _ _) h
theorem lob_len {r : Bool} {w : World} {O : Nat → Prop} {v : Value} {c : Ce} (h : LOb r w O v (some c)) : c.L.length ≤ 1024 := by
  obtain ⟨_, _, _, _, h⟩ := h
  exact h.wf.len
theorem ptVr_le {r : Bool} {w : World} {O : Nat → Prop} {v : Value} {om : Option Ce} (h : LOb r w O v om) (zs : List Int) : (ptVr om zs).length ≤ 1024 := by
  cases om with
  | none => exact Nat.zero_le _
  | some c =>
    by_cases he : ptEr (some c) zs = 0
    · rw [show ptVr (some c) zs = _ from if_pos he]
      exact dead_le (by unfold offL; rw [List.length_map]; exact lob_len h)
    · rw [show ptVr (some c) zs = [] from if_neg he]; exact Nat.zero_le _
theorem swV_le {r : Bool} {w : World} {O : Nat → Prop} {v : Value} {om : Option Ce} (h : LOb r w O v om) : (swV om).length ≤ 1024 := by
  cases om with
  | none => exact Nat.zero_le _
  | some c => exact dead_le (lob_len h)
theorem runs_le {r : Bool} {w : World} {O : Nat → Prop} {v : Value} {om : Option Ce} (h : LOb r w O v om) : (runs om).length ≤ 1024 := by
  cases om with
  | none => exact Nat.zero_le _
  | some c => show (c.L.map _).length ≤ _; rw [List.length_map]; exact lob_len h
end Go.Proofs.YtejfoefhaphacaaGreat
