/- Lists of one's own, and what was returned before, kept apart from them. -/
import Derived.Test.YtejfoefhaphacaaGreatFb
namespace Go.Proofs.YtejfoefhaphacaaGreat
open Go.RowKit Go.Shelf

/-- A list of one's own since w0, in the blocks O. -/
structure Own2 (w0 w : World) (v : Value) (om : Option Ce) (O : Nat → Prop) : Prop where
  ob : LOb false w O v om
  nw : ∀ k, O k → w0.heap.size ≤ k
  bel : Below w0.heap.size w0 w
/-- A call on a list leaves all else, and may give the list new blocks. -/
structure St (O O' : Nat → Prop) (w w' : World) : Prop where
  kp : Keep O w w'
  gr : ∀ k, O' k → O k ∨ w.heap.size ≤ k
/-- Numbers, runs that were returned. -/
def LKp (w : World) (O : Nat → Prop) (A : Option Addr) (L : List Nat) : Prop := LAt w A L ∧ (L ≠ [] → ∀ x, A = some x → ¬ O x.block)
def RKp (w : World) (O : Nat → Prop) (A : Option Addr) (L : List (Nat × Nat)) : Prop := RsAt w A L ∧ (L ≠ [] → ∀ x, A = some x → ¬ O x.block)
section
variable {w0 w00 w w' : World} {v : Value} {om o2 : Option Ce} {O O' O1 O2 : Nat → Prop} {A : Option Addr}
theorem St.refl (hb : Below w.heap.size w w') : St O O w w' := ⟨Keep.of hb, fun _ h => .inl h⟩
theorem Own2.of (h : LOwn false w0 w v om) : Own2 w0 w v om (Nw w0 w) := ⟨h.1, fun _ h => h.1, h.2⟩
theorem Own2.below (h : Own2 w0 w v om O) (hb : Below w.heap.size w w') : Own2 w0 w' v om O := ⟨h.ob.below hb, h.nw, btr h.bel hb (Nat.le_refl _)⟩
theorem Own2.later (h : Own2 w0 w v om O) (hb : Below w00.heap.size w00 w0) : Own2 w00 w v om O := ⟨h.ob, fun k hk => Nat.le_trans hb.size (h.nw k hk), hb.trans (h.bel.mono hb.size)⟩
theorem Own2.mut (h : Own2 w0 w v om O) (hM : LMut false w O v o2 w') : Own2 w0 w' v o2 (Ext O w w') ∧ St O (Ext O w w') w w' := by
  have s := h.bel.size
  exact ⟨⟨hM.1, fun k hk => by rcases hk with hk | hk; exact h.nw k hk; omega, h.bel.trans (hM.2.below s h.nw)⟩, hM.2, fun k hk => hk.imp id fun h => h.1⟩
theorem Own2.shp (h : Own2 w0 w v om O) (hM : LMut false w O v o2 w') (hS : LShp false w O v o2 A w') (hN : NewA w A) : ∃ O', Own2 w0 w' v o2 O' ∧ St O O' w w' ∧ ∀ x, A = some x → ¬ O' x.block := by
  have s := h.bel.size
  obtain ⟨O', h1, h2⟩ := hS
  refine ⟨O', ⟨h1, fun k hk => ?_, h.bel.trans (hM.2.below s h.nw)⟩, ⟨hM.2, fun k hk => (h2 k hk).imp id fun h => h.1⟩, fun x hx ho => ?_⟩
  · rcases h2 k hk with h3 | h3
    · exact h.nw k h3
    · have := h3.1; omega
  · rcases h2 _ ho with h3 | h3
    · have := h.ob.lt _ h3; have := hN x hx; omega
    · exact h3.2 x hx rfl
theorem Own2.other (h : Own2 w0 w v om O2) (hS : St O1 O' w w') (hd : ∀ k, O1 k → O2 k → False) (hb : Below w0.heap.size w0 w') : Own2 w0 w' v om O2 := ⟨h.ob.keep hS.kp (fun k a b => hd k b a), h.nw, hb⟩
theorem LKp.new {L : List Nat} (h : LAt w A L) (hA : ∀ x, A = some x → ¬ O x.block) : LKp w O A L := ⟨h, fun _ => hA⟩
theorem RKp.new {L : List (Nat × Nat)} (h : RsAt w A L) (hA : ∀ x, A = some x → ¬ O x.block) : RKp w O A L := ⟨h, fun _ => hA⟩
theorem LKp.step {L : List Nat} (h : LKp w O A L) (hS : St O O' w w') : LKp w' O' A L := by
  refine ⟨fun i x hi => ?_, fun hne x hx ho => ?_⟩
  · obtain ⟨g, e, h1, h2⟩ := h.1 i x hi
    have hn := h.2 (fun h0 => by rw [h0] at hi; simp at hi) _ e
    exact ⟨g, e, Nat.lt_of_lt_of_le h1 hS.kp.size, (World.cell?_of_block (a := ⟨g, i, none⟩) (hS.kp.block g h1 hn)).trans h2⟩
  · cases L with
    | nil => exact hne rfl
    | cons y t =>
      obtain ⟨g, e, h1, _⟩ := h.1 0 y rfl
      rw [e] at hx
      injection hx with hx
      subst hx
      rcases hS.gr _ ho with h2 | h2
      · exact h.2 hne _ e h2
      · simp at h2; omega
theorem RKp.step {L : List (Nat × Nat)} (h : RKp w O A L) (hS : St O O' w w') : RKp w' O' A L := by
  refine ⟨fun i a b hi => ?_, fun hne x hx ho => ?_⟩
  · obtain ⟨g, e, h1, h2, h3⟩ := h.1 i a b hi
    have hn := h.2 (fun h0 => by rw [h0] at hi; simp at hi) _ e
    exact ⟨g, e, Nat.lt_of_lt_of_le h1 hS.kp.size, (World.cell?_of_block (a := ⟨g, _, none⟩) (hS.kp.block g h1 hn)).trans h2, (World.cell?_of_block (a := ⟨g, _, none⟩) (hS.kp.block g h1 hn)).trans h3⟩
  · cases L with
    | nil => exact hne rfl
    | cons y t =>
      obtain ⟨g, e, h1, _⟩ := h.1 0 y.1 y.2 rfl
      rw [e] at hx
      injection hx with hx
      subst hx
      rcases hS.gr _ ho with h2 | h2
      · exact h.2 hne _ e h2
      · simp at h2; omega
theorem LKp.below {L : List Nat} (h : LKp w O A L) (hb : Below w.heap.size w w') : LKp w' O A L := h.step (St.refl hb)
theorem RKp.below {L : List (Nat × Nat)} (h : RKp w O A L) (hb : Below w.heap.size w w') : RKp w' O A L := h.step (St.refl hb)
/-- Runs that were asked for are apart from what the list owns. -/
theorem RKp.asked {L : List (Nat × Nat)} (h : RsAt w' A L) (hN : NewA w A) (hl : ∀ k, O k → k < w.heap.size) : RKp w' O A L := ⟨h, fun _ x hx ho => by have := hl _ ho; have := hN x hx; omega⟩
/-- Two lists of one's own. -/
structure Two (w0 w : World) (a b : Value) (o1 o2 : Option Ce) (O1 O2 : Nat → Prop) : Prop where
  a : Own2 w0 w a o1 O1
  b : Own2 w0 w b o2 O2
  d : ∀ k, O1 k → O2 k → False
theorem Two.below {a b : Value} {o1 o2 : Option Ce} (h : Two w0 w a b o1 o2 O1 O2) (hb : Below w.heap.size w w') : Two w0 w' a b o1 o2 O1 O2 := ⟨h.a.below hb, h.b.below hb, h.d⟩
theorem Two.left {a b : Value} {o1 o1' o2 : Option Ce} (h : Two w0 w a b o1 o2 O1 O2) (h' : Own2 w0 w' a o1' O') (hS : St O1 O' w w') : Two w0 w' a b o1' o2 O' O2 :=
  ⟨h', h.b.other hS h.d h'.bel, fun k h1 h2 => by rcases hS.gr k h1 with h3 | h3; exact h.d k h3 h2; have := h.b.ob.lt k h2; omega⟩
theorem Two.right {a b : Value} {o1 o2' o2 : Option Ce} (h : Two w0 w a b o1 o2 O1 O2) (h' : Own2 w0 w' b o2' O') (hS : St O2 O' w w') : Two w0 w' a b o1 o2' O1 O' :=
  ⟨h.a.other hS (fun k a b => h.d k b a) h'.bel, h', fun k h1 h2 => by rcases hS.gr k h2 with h3 | h3; exact h.d k h1 h3; have := h.a.ob.lt k h1; omega⟩
theorem Two.of {a b : Value} {o1 o2 : Option Ce} (h1 : LOwn false w0 w a o1) (h2 : LOwn false w w' b o2) : Two w0 w' a b o1 o2 (Nw w0 w) (Nw w w') :=
  ⟨(Own2.of h1).below h2.2, (Own2.of h2).later h1.2, fun k h3 h4 => by have := h3.2; have := h4.1; omega⟩
/-- What was returned by one is kept by a call on the other. -/
theorem LKp.beside {L : List Nat} (h : LKp w O1 A L) (h2 : ∀ x, A = some x → L ≠ [] → ¬ O2 x.block) (hS : St O2 O' w w') (hlt : ∀ k, O1 k → k < w.heap.size) : LKp w' O1 A L ∧ ∀ x, A = some x → L ≠ [] → ¬ O' x.block := by
  have h3 := LKp.step (O := O2) (O' := O') ⟨h.1, fun hne x hx => h2 x hx hne⟩ hS
  have _ := hlt
  exact ⟨⟨h3.1, h.2⟩, fun x hx hne => h3.2 hne x hx⟩
end

theorem Own2.add {w0 w : World} {v : Value} {om : Option Ce} {O : Nat → Prop} (h : Own2 w0 w v om O) (st : Int) :
    Calls Tryz.prog 13 #[v, .int .i64 st] w fun e w' => e = .returned (.int .i64 (adE om st)) ∧ ∃ O', Own2 w0 w' v (adD om st) O' ∧ St O O' w w' := by
  refine (cAdd_any h.ob st).mono ?_
  rintro e w' ⟨rfl, hM⟩
  exact ⟨rfl, _, h.mut hM⟩
theorem Own2.take {w0 w : World} {v : Value} {om : Option Ce} {O : Nat → Prop} (h : Own2 w0 w v om O) (n : Int) (hn : InR n) :
    Calls Tryz.prog 14 #[v, .int .i64 n] w fun e w' => ∃ A c, e = .returned (.tuple #[.slice A (tkR om n).length c, .int .i64 (tkEr om n)]) ∧ ∃ O', LKp w' O' A (tkR om n) ∧ (NewA w A ∧ (A = none → c = 0)) ∧ Own2 w0 w' v (tkDr om n) O' ∧ St O O' w w' := by
  refine (cTake_any h.ob n hn).mono ?_
  rintro e w' ⟨A, c, rfl, hl, ⟨hN, hS, hz⟩, hM⟩
  obtain ⟨O', h1, h2, h3⟩ := h.shp hM hS hN
  exact ⟨A, c, rfl, O', LKp.new hl h3, ⟨hN, hz⟩, h1, h2⟩
theorem Own2.put {w0 w : World} {v : Value} {om : Option Ce} {O : Nat → Prop} (h : Own2 w0 w v om O) (A : Option Addr) (cap : Nat) (zs : List Int) (hz : zs.length ≤ 60) (hd : ∀ x, A = some x → zs ≠ [] → ¬ O x.block) (hA : ZAt w w.heap.size A zs) :
    Calls Tryz.prog 15 #[v, .slice A zs.length cap] w fun e w' => ∃ A c, e = .returned (.tuple #[.slice A (ptVr om zs).length c, .int .i64 (ptEr om zs)]) ∧ ∃ O', RKp w' O' A (ptVr om zs) ∧ NewA w A ∧ Own2 w0 w' v (ptDr om zs) O' ∧ St O O' w w' := by
  refine (cPut_gen h.ob A cap zs hz hd hA).mono ?_
  rintro e w' ⟨A, c, rfl, hl, ⟨hN, hS⟩, hM⟩
  obtain ⟨O', h1, h2, h3⟩ := h.shp hM hS hN
  exact ⟨A, c, rfl, O', RKp.new hl h3, hN, h1, h2⟩
theorem Own2.sweep {w0 w : World} {v : Value} {om : Option Ce} {O : Nat → Prop} (h : Own2 w0 w v om O) :
    Calls Tryz.prog 28 #[v] w fun e w' => ∃ A c, e = .returned (.slice A (swV om).length c) ∧ ∃ O', RKp w' O' A (swV om) ∧ NewA w A ∧ Own2 w0 w' v (swD om) O' ∧ St O O' w w' := by
  refine (cSweep_any h.ob).mono ?_
  rintro e w' ⟨A, c, rfl, hl, ⟨hN, hS⟩, hM⟩
  obtain ⟨O', h1, h2, h3⟩ := h.shp hM hS hN
  exact ⟨A, c, rfl, O', RKp.new hl h3, hN, h1, h2⟩
theorem Own2.spans {w0 w : World} {v : Value} {om : Option Ce} {O : Nat → Prop} (h : Own2 w0 w v om O) :
    Calls Tryz.prog 18 #[v] w fun e w' => ∃ A c, e = .returned (.slice A (runs om).length c) ∧ RKp w' O A (runs om) ∧ Own2 w0 w' v om O ∧ Below w.heap.size w w' := by
  have hlt := h.ob.lt
  refine (cSpans_any h.ob).mono ?_
  rintro e w' ⟨A, c, rfl, hr, hN, hb⟩
  exact ⟨A, c, rfl, RKp.asked hr hN hlt, h.below hb, hb⟩





theorem MadeP.no {w w' : World} {e : Ending} (h : MadeP w none e w') : e = .returned (.pointer none) ∧ Below w.heap.size w w' := by
  obtain ⟨v, he, ho, hv⟩ := h
  obtain rfl := hv.1 rfl
  exact ⟨he, ho.2⟩
theorem MadeP.yes {w w' : World} {e : Ending} {c : Ce} (h : MadeP w (some c) e w') : ∃ B, e = .returned (.pointer (some ⟨B, 0, none⟩)) ∧ LOwn false w w' (.pointer (some ⟨B, 0, none⟩)) (some c) := by
  obtain ⟨v, he, ho, hv⟩ := h
  obtain ⟨B, hB⟩ := lob_ptr ho.1
  rw [hB] at he ho
  exact ⟨B, he, ho⟩

end Go.Proofs.YtejfoefhaphacaaGreat
