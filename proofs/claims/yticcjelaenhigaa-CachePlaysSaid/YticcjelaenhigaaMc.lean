/- A list in memory; a thread's cache in memory: the program's (r = false), the document's (r = true); what is returned. -/
import Derived.Test.YticcjelaenhigaaMm
namespace Go.Proofs.Yticcjelaenhigaa
open Go.RowKit

def cZ (l : List Int) : List Value := l.map (fun a => .int .i64 a)
theorem cZ_len (l : List Int) : (cZ l).length = l.length := by unfold cZ; rw [List.length_map]
theorem cZ_app (l k : List Int) : cZ (l ++ k) = cZ l ++ cZ k := by unfold cZ; rw [List.map_append]
theorem cZ_at {l : List Int} {i : Nat} {a : Int} (h : l[i]? = some a) : (cZ l)[i]? = some (.int .i64 a) := by unfold cZ; rw [List.getElem?_map, h]; rfl
theorem cZ_take (l : List Int) (n : Nat) : (cZ l).take n = cZ (l.take n) := by unfold cZ; rw [List.map_take]
theorem cZ_drop (l : List Int) (n : Nat) : (cZ l).drop n = cZ (l.drop n) := by unfold cZ; rw [List.map_drop]
theorem cZ_one (l : List Int) : ∀ u ∈ cZ l, u.oneCell' = true := by
  intro u hu
  obtain ⟨a, _, rfl⟩ := List.mem_map.1 hu
  rfl

/-! ## What is returned -/
/-- Numbers in memory, in blocks of P. -/
def IAt (P : Nat → Prop) (w : World) (A : Option Addr) (l : List Int) : Prop := ∀ (i : Nat) (a : Int), l[i]? = some a → ∃ g o : Nat, A = some ⟨g, o, none⟩ ∧ g < w.heap.size ∧ P g ∧ w.cell? ⟨g, o + i, none⟩ = some (.int .i64 a) ∧ InR a
/-- Batches in memory: their classes, their objects. -/
def BAt (P : Nat → Prop) (w : World) (A : Option Addr) (L : List (Nat × List Int)) : Prop := ∀ (i : Nat) (x : Nat × List Int), L[i]? = some x → ∃ (g o : Nat) (A' : Option Addr) (c' : Nat), A = some ⟨g, o, none⟩ ∧ g < w.heap.size ∧ P g ∧ w.cell? ⟨g, o + i * 2, none⟩ = some (.int .i64 (x.1 : Nat)) ∧ w.cell? ⟨g, o + i * 2 + 1, none⟩ = some (.slice A' x.2.length c') ∧ IAt P w A' x.2
section
variable {P P' O : Nat → Prop} {w w' : World} {A : Option Addr} {l : List Int} {L : List (Nat × List Int)}
theorem IAt.keep (h : IAt P w A l) (hk : Keep O w w') (hd : ∀ k, P k → O k → False) : IAt P w' A l := fun i a hi => by
  obtain ⟨g, o, e, h1, h2, h3, h4⟩ := h i a hi
  exact ⟨g, o, e, Nat.lt_of_lt_of_le h1 hk.size, h2, (World.cell?_of_block (a := ⟨g, _, none⟩) (hk.block g h1 (fun hx => hd g h2 hx))).trans h3, h4⟩
theorem IAt.below (h : IAt P w A l) (hb : Below w.heap.size w w') : IAt P w' A l := h.keep (Keep.of (O := fun _ => False) hb) (fun _ _ h => h)
theorem IAt.mono (h : IAt P w A l) (hp : ∀ k, k < w.heap.size → P k → P' k) : IAt P' w A l := fun i a hi => by
  obtain ⟨g, o, e, h1, h2, h3, h4⟩ := h i a hi
  exact ⟨g, o, e, h1, hp g h1 h2, h3, h4⟩
theorem BAt.keep (h : BAt P w A L) (hk : Keep O w w') (hd : ∀ k, P k → O k → False) : BAt P w' A L := fun i l hi => by
  obtain ⟨g, o, A', c', e, h1, h2, h3, h4, h5⟩ := h i l hi
  have hb := hk.block g h1 (fun hx => hd g h2 hx)
  exact ⟨g, o, A', c', e, Nat.lt_of_lt_of_le h1 hk.size, h2, (World.cell?_of_block (a := ⟨g, _, none⟩) hb).trans h3, (World.cell?_of_block (a := ⟨g, _, none⟩) hb).trans h4, h5.keep hk hd⟩
theorem BAt.below (h : BAt P w A L) (hb : Below w.heap.size w w') : BAt P w' A L := h.keep (Keep.of (O := fun _ => False) hb) (fun _ _ h => h)
theorem BAt.mono (h : BAt P w A L) (hp : ∀ k, k < w.heap.size → P k → P' k) : BAt P' w A L := fun i l hi => by
  obtain ⟨g, o, A', c', e, h1, h2, h3, h4, h5⟩ := h i l hi
  exact ⟨g, o, A', c', e, h1, hp g h1 h2, h3, h4, h5.mono hp⟩
theorem IAt.nil (P : Nat → Prop) (w : World) (A : Option Addr) : IAt P w A [] := fun i a hi => by simp at hi
theorem BAt.nil (P : Nat → Prop) (w : World) (A : Option Addr) : BAt P w A [] := fun i a hi => by simp at hi
theorem IAt.take (h : IAt P w A l) (n : Nat) : IAt P w A (l.take n) := fun i a hi => by
  rw [List.getElem?_take] at hi
  split at hi
  · exact h i a hi
  · cases hi
theorem IAt.inr (h : IAt P w A l) : ∀ a ∈ l, InR a := fun a ha => by
  obtain ⟨i, hi⟩ := List.mem_iff_getElem?.1 ha
  obtain ⟨_, _, _, _, _, _, h4⟩ := h i a hi
  exact h4
/-- Numbers in memory that are some: where. -/
theorem IAt.some (h : IAt P w A l) (hl : 0 < l.length) : ∃ g o, A = .some ⟨g, o, none⟩ ∧ g < w.heap.size ∧ P g ∧ (∀ j u, (cZ l)[j]? = .some u → w.cell? ((⟨g, o, none⟩ : Addr).add j) = .some u) := by
  obtain ⟨g, o, e, h1, h2, _, _⟩ := h 0 l[0] (List.getElem?_eq_getElem hl)
  refine ⟨g, o, e, h1, h2, fun j u hu => ?_⟩
  unfold cZ at hu
  rw [List.getElem?_map] at hu
  cases hj : l[j]? with
  | none => rw [hj] at hu; cases hu
  | some a =>
    rw [hj] at hu
    injection hu with hu
    subst hu
    obtain ⟨g', o', e', _, _, h3, _⟩ := h j a hj
    rw [e] at e'
    cases e'
    rw [Addr.add_lit]; exact h3
/-- A row of numbers that a slice reads. -/
theorem OffR.iat {n c : Nat} (h : OffR w 3 (.slice A n c) (cZ l)) (hP : ∀ g, (Value.slice A n c).ownBlock = .some g → P g) (hr : ∀ a ∈ l, InR a) : IAt P w A l := fun i a hi => by
  obtain ⟨g, o, cap, e, h1, h2⟩ := h.slot (cZ_at hi)
  injection e with e _ _
  subst e
  exact ⟨g, o, rfl, h2, hP g rfl, h1, hr a (List.mem_of_getElem? hi)⟩
end

/-! ## A list -/
def kF (k : Kl) (V : Value) : Nat → Value := fun i => if i = 0 then .int .i64 k.s else if i = 1 then .int .i64 k.b else if i = 2 then V else if i = 3 then .int .i64 k.lim else .int .i64 k.lo
structure KAt (w : World) (O : Nat → Prop) (p : Nat) (V : Value) (k : Kl) : Prop where
  wf : KWf k
  hd : Cl w p 5 (kF k V)
  row : OffR w 3 V (cZ k.l)
  rowO : ∀ g, V.ownBlock = some g → O g ∧ g ≠ p
  ob : O p
  inr : ∀ a ∈ k.l, InR a
  lt : ∀ j, O j → j < w.heap.size
def KOb (w : World) (O : Nat → Prop) (p : Nat) (k : Kl) : Prop := ∃ V, KAt w O p V k
def KMut (w : World) (O : Nat → Prop) (p : Nat) (k : Kl) (w' : World) : Prop := KOb w' (Ext O w w') p k ∧ Keep O w w'
section
variable {w w' : World} {O O1 O' : Nat → Prop} {p : Nat} {V V' : Value} {k k' : Kl}
theorem KAt.keep (h : KAt w O p V k) (hk : Keep O1 w w') (hd : ∀ j, O j → O1 j → False) : KAt w' O p V k :=
  ⟨h.wf, h.hd.of_block (hk.block _ h.hd.lt (fun hx => hd _ h.ob hx)), h.row.block fun g hg hl => hk.block g hl (fun hx => hd _ (h.rowO g hg).1 hx), h.rowO, h.ob, h.inr, fun j ho => Nat.lt_of_lt_of_le (h.lt j ho) hk.size⟩
theorem KAt.below (h : KAt w O p V k) (hb : Below w.heap.size w w') : KAt w' O p V k := h.keep (Keep.of (O := fun _ => False) hb) (fun _ _ h => h)
theorem KAt.mono (h : KAt w O p V k) (ho : ∀ j, O j → O' j) (hl : ∀ j, O' j → j < w.heap.size) : KAt w O' p V k :=
  ⟨h.wf, h.hd, h.row, fun g hg => ⟨ho _ (h.rowO g hg).1, (h.rowO g hg).2⟩, ho _ h.ob, h.inr, hl⟩
theorem KOb.keep (h : KOb w O p k) (hk : Keep O1 w w') (hd : ∀ j, O j → O1 j → False) : KOb w' O p k := by obtain ⟨V, h⟩ := h; exact ⟨V, h.keep hk hd⟩
theorem KOb.below (h : KOb w O p k) (hb : Below w.heap.size w w') : KOb w' O p k := by obtain ⟨V, h⟩ := h; exact ⟨V, h.below hb⟩
theorem KOb.mono (h : KOb w O p k) (ho : ∀ j, O j → O' j) (hl : ∀ j, O' j → j < w.heap.size) : KOb w O' p k := by obtain ⟨V, h⟩ := h; exact ⟨V, h.mono ho hl⟩
theorem KOb.lt (h : KOb w O p k) : ∀ j, O j → j < w.heap.size := by obtain ⟨V, h⟩ := h; exact h.lt
theorem KOb.ob (h : KOb w O p k) : O p := by obtain ⟨V, h⟩ := h; exact h.ob
theorem KOb.wf (h : KOb w O p k) : KWf k := by obtain ⟨V, h⟩ := h; exact h.wf
theorem KMut.same (h : KOb w O p k) (hb : Below w.heap.size w w') : KMut w O p k w' := ⟨(h.below hb).mono (fun _ hk => .inl hk) (Ext.lt h.lt hb.size), Keep.of hb⟩
theorem KMut.trans {w1 w2 : World} (h : KMut w O p k w1) (h2 : KMut w1 (Ext O w w1) p k' w2) : KMut w O p k' w2 := by
  have e := ext_ext (O := O) h.2.size h2.2.size
  have h3 := h2.1
  rw [e] at h3
  exact ⟨h3, h.2.trans h2.2⟩
theorem KAt.cells (h : KAt w O p V k) : w.cell? ⟨p, 0, none⟩ = some (.int .i64 k.s) ∧ w.cell? ⟨p, 1, none⟩ = some (.int .i64 k.b) ∧ w.cell? ⟨p, 2, none⟩ = some V ∧ w.cell? ⟨p, 3, none⟩ = some (.int .i64 k.lim) ∧ w.cell? ⟨p, 4, none⟩ = some (.int .i64 k.lo) :=
  ⟨h.hd.cell 0 (by omega), h.hd.cell 1 (by omega), h.hd.cell 2 (by omega), h.hd.cell 3 (by omega), h.hd.cell 4 (by omega)⟩
theorem KAt.form (h : KAt w O p V k) : ∃ A cap, V = .slice A k.l.length cap ∧ k.l.length ≤ cap ∧ cap ≤ maxLen := by
  obtain ⟨A, cap, e, h1, h2⟩ := h.row.form
  rw [cZ_len] at e h1
  exact ⟨A, cap, e, h1, h2⟩
/-- A cell that is turned, but not the objects'. -/
theorem KAt.set (h : KAt w O p V k) (hk' : KWf k') (hl : k'.l = k.l) {w' : World} (hcl : Cl w' p 5 (kF k' V)) (hk : Keep (fun j => j = p) w w') : KAt w' O p V k' :=
  ⟨hk', hcl, by rw [hl]; exact h.row.block fun g hg hl => hk.block g hl (h.rowO g hg).2, h.rowO, h.ob, by rw [hl]; exact h.inr, fun j ho => Nat.lt_of_lt_of_le (h.lt j ho) hk.size⟩
theorem KAt.mut (h : KAt w O p V k) (h' : KAt w' O p V' k') (hk : Keep (fun j => j = p) w w') : KMut w O p k' w' :=
  ⟨⟨_, h'.mono (fun _ hk => .inl hk) (Ext.lt h.lt hk.size)⟩, hk.mono fun j _ e => by subst e; exact h.ob⟩
theorem keep_set {F : Nat → Prop} {w w' : World} (h : Keep F w w') {b i : Nat} (hb : F b) (v : Value) : Keep F w (w'.setCell ⟨b, i, none⟩ v) := h.set (a := ⟨b, i, none⟩) (.inl hb) v
end

/-! ## The caches -/
/-- The program's cache in memory. -/
structure PcA (w : World) (O : Nat → Prop) (B M : Nat) (Q : List Nat) (p : Nat → Nat) (F : Nat → Nat → Prop) (c : Tc) : Prop where
  wf : TWf c
  hd : Cl w B 2 (fun i => if i = 0 then .int .i64 c.g else .map (some M))
  mp : MpA w M Q p
  q : ∀ i, i ∈ Q ↔ i < c.K.length
  each : ∀ (i : Nat) (k : Kl), c.K[i]? = some k → KOb w (F i) (p i) k
  sub : ∀ i, i < c.K.length → ∀ j, F i j → O j ∧ j ≠ B ∧ j ≠ M
  dj : ∀ i i' j, i < c.K.length → i' < c.K.length → F i j → F i' j → i = i'
  ob : O B
  om : O M
  ne : B ≠ M
  lt : ∀ j, O j → j < w.heap.size
def dF (c : Tc) (T L I J : Value) : Nat → Value := fun i => if i = 0 then T else if i = 1 then .int .i64 c.g else if i = 2 then L else if i = 3 then I else J
/-- The document's cache in memory: the rows of its table, its lists, its limits, its lows. -/
structure RcA (w : World) (O : Nat → Prop) (B t l i j ct cl ci cj : Nat) (V : Nat → Value) (c : Tc) : Prop where
  wf : TWf c
  hd : Cl w B 5 (dF c (.slice (some ⟨t, 0, none⟩) c.K.length ct) (.slice (some ⟨l, 0, none⟩) c.K.length cl) (.slice (some ⟨i, 0, none⟩) c.K.length ci) (.slice (some ⟨j, 0, none⟩) c.K.length cj))
  cap : c.K.length ≤ ct ∧ c.K.length ≤ cl ∧ c.K.length ≤ ci ∧ c.K.length ≤ cj ∧ ct ≤ maxLen ∧ cl ≤ maxLen ∧ ci ≤ maxLen ∧ cj ≤ maxLen
  ne : t ≠ B ∧ l ≠ B ∧ i ≠ B ∧ j ≠ B ∧ t ≠ l ∧ t ≠ i ∧ t ≠ j ∧ l ≠ i ∧ l ≠ j ∧ i ≠ j
  tab : ∀ (x : Nat) (k : Kl), c.K[x]? = some k → w.cell? ⟨t, x * 3, none⟩ = some (.int .i64 k.s) ∧ (∃ g : Int, w.cell? ⟨t, x * 3 + 1, none⟩ = some (.int .i64 g)) ∧ w.cell? ⟨t, x * 3 + 2, none⟩ = some (.int .i64 k.b)
  lim : Cl w i c.K.length (fun x => .int .i64 (((c.K[x]?.map (·.lim)).getD 0 : Nat) : Int))
  low : Cl w j c.K.length (fun x => .int .i64 (((c.K[x]?.map (·.lo)).getD 0 : Nat) : Int))
  ll : Cl w l c.K.length V
  each : ∀ (x : Nat) (k : Kl), c.K[x]? = some k → ∃ A cp, V x = .slice A k.l.length cp ∧ k.l.length ≤ cp ∧ cp ≤ maxLen ∧ IAt (fun g => O g ∧ g ≠ B ∧ g ≠ l ∧ g ≠ i ∧ g ≠ j) w A k.l
  ob : O B ∧ O t ∧ O l ∧ O i ∧ O j
  lt : ∀ j, O j → j < w.heap.size
def NoT (r : Bool) (w : World) (O : Nat → Prop) (v : Value) : Prop := v = .pointer none ∨ (r = false ∧ ∃ B, v = .pointer (some ⟨B, 0, none⟩) ∧ O B ∧ w.cell? ⟨B, 1, none⟩ = some (.map none))
/-- A cache in memory, or one that nobody made. -/
def TOb (r : Bool) (w : World) (O : Nat → Prop) (v : Value) : Option Tc → Prop
  | none => NoT r w O v ∧ ∀ k, O k → k < w.heap.size
  | some c => match r with
    | false => ∃ B M Q p F, v = .pointer (some ⟨B, 0, none⟩) ∧ PcA w O B M Q p F c
    | true => ∃ B t l i j ct cl ci cj V, v = .pointer (some ⟨B, 0, none⟩) ∧ RcA w O B t l i j ct cl ci cj V c
/-- What a call that changes a cache leaves. -/
def TMut (r : Bool) (w : World) (O : Nat → Prop) (v : Value) (om : Option Tc) (w' : World) : Prop := TOb r w' (Ext O w w') v om ∧ Keep O w w'
section
variable {r : Bool} {w w' : World} {O O1 O' : Nat → Prop} {B M t l i j ct cl ci cj : Nat} {Q : List Nat} {p : Nat → Nat} {F : Nat → Nat → Prop} {V : Nat → Value} {v : Value} {c : Tc} {om : Option Tc}
theorem PcA.keep (h : PcA w O B M Q p F c) (hk : Keep O1 w w') (hd : ∀ j, O j → O1 j → False) : PcA w' O B M Q p F c :=
  ⟨h.wf, h.hd.of_block (hk.block _ (h.lt _ h.ob) (fun hx => hd _ h.ob hx)), h.mp.block (hk.block _ (h.lt _ h.om) (fun hx => hd _ h.om hx)), h.q, fun i k hi => (h.each i k hi).keep hk (fun j h1 h2 => hd j (h.sub i (List.getElem?_eq_some_iff.1 hi).1 j h1).1 h2), h.sub, h.dj, h.ob, h.om, h.ne, fun j ho => Nat.lt_of_lt_of_le (h.lt j ho) hk.size⟩
theorem PcA.mono (h : PcA w O B M Q p F c) (ho : ∀ j, O j → O' j) (hl : ∀ j, O' j → j < w.heap.size) : PcA w O' B M Q p F c :=
  ⟨h.wf, h.hd, h.mp, h.q, h.each, fun i hi j hj => ⟨ho _ (h.sub i hi j hj).1, (h.sub i hi j hj).2⟩, h.dj, ho _ h.ob, ho _ h.om, h.ne, hl⟩
theorem RcA.keep (h : RcA w O B t l i j ct cl ci cj V c) (hk : Keep O1 w w') (hd : ∀ j, O j → O1 j → False) : RcA w' O B t l i j ct cl ci cj V c := by
  have hb : ∀ k, O k → w'.heap[k]? = w.heap[k]? := fun k ho => hk.block _ (h.lt _ ho) (fun hx => hd _ ho hx)
  obtain ⟨oB, ot, ol, oi, oj⟩ := h.ob
  refine ⟨h.wf, h.hd.of_block (hb _ oB), h.cap, h.ne, fun x k hx => ?_, h.lim.of_block (hb _ oi), h.low.of_block (hb _ oj), h.ll.of_block (hb _ ol), fun x k hx => ?_, h.ob, fun j ho => Nat.lt_of_lt_of_le (h.lt j ho) hk.size⟩
  · obtain ⟨h1, ⟨g, h2⟩, h3⟩ := h.tab x k hx
    exact ⟨(World.cell?_of_block (a := ⟨t, _, none⟩) (hb _ ot)).trans h1, ⟨g, (World.cell?_of_block (a := ⟨t, _, none⟩) (hb _ ot)).trans h2⟩, (World.cell?_of_block (a := ⟨t, _, none⟩) (hb _ ot)).trans h3⟩
  · obtain ⟨A, cp, e, h1, h2, h3⟩ := h.each x k hx
    exact ⟨A, cp, e, h1, h2, h3.keep hk (fun g h4 h5 => hd g h4.1 h5)⟩
theorem RcA.mono (h : RcA w O B t l i j ct cl ci cj V c) (ho : ∀ j, O j → O' j) (hl : ∀ j, O' j → j < w.heap.size) : RcA w O' B t l i j ct cl ci cj V c := by
  obtain ⟨oB, ot, ol, oi, oj⟩ := h.ob
  refine ⟨h.wf, h.hd, h.cap, h.ne, h.tab, h.lim, h.low, h.ll, fun x k hx => ?_, ⟨ho _ oB, ho _ ot, ho _ ol, ho _ oi, ho _ oj⟩, hl⟩
  obtain ⟨A, cp, e, h1, h2, h3⟩ := h.each x k hx
  exact ⟨A, cp, e, h1, h2, h3.mono (fun g _ h4 => ⟨ho _ h4.1, h4.2⟩)⟩
theorem TOb.lt (h : TOb r w O v om) : ∀ k, O k → k < w.heap.size := by
  cases om with
  | none => exact h.2
  | some m =>
    cases r with
    | false => obtain ⟨B, M, Q, p, F, _, h⟩ := h; exact h.lt
    | true => obtain ⟨B, t, l, i, j, ct, cl, ci, cj, V, _, h⟩ := h; exact h.lt
theorem TOb.keep (h : TOb r w O v om) (hk : Keep O1 w w') (hd : ∀ k, O k → O1 k → False) : TOb r w' O v om := by
  cases om with
  | none =>
    obtain ⟨h, hl⟩ := h
    refine ⟨?_, fun k ho => Nat.lt_of_lt_of_le (hl k ho) hk.size⟩
    rcases h with h | ⟨hr, B, h, ho, hc⟩
    · exact .inl h
    · exact .inr ⟨hr, B, h, ho, (World.cell?_of_block (a := ⟨B, 1, none⟩) (hk.block B (hl B ho) (fun hx => hd _ ho hx))).trans hc⟩
  | some m =>
    cases r with
    | false => obtain ⟨B, M, Q, p, F, e, h⟩ := h; exact ⟨B, M, Q, p, F, e, h.keep hk hd⟩
    | true => obtain ⟨B, t, l, i, j, ct, cl, ci, cj, V, e, h⟩ := h; exact ⟨B, t, l, i, j, ct, cl, ci, cj, V, e, h.keep hk hd⟩
theorem TOb.below (h : TOb r w O v om) (hb : Below w.heap.size w w') : TOb r w' O v om := h.keep (Keep.of (O := fun _ => False) hb) (fun _ _ h => h)
theorem TOb.mono (h : TOb r w O v om) (ho : ∀ k, O k → O' k) (hl : ∀ k, O' k → k < w.heap.size) : TOb r w O' v om := by
  cases om with
  | none =>
    obtain ⟨h, _⟩ := h
    refine ⟨?_, hl⟩
    rcases h with h | ⟨hr, B, h, hb, hc⟩
    · exact .inl h
    · exact .inr ⟨hr, B, h, ho _ hb, hc⟩
  | some m =>
    cases r with
    | false => obtain ⟨B, M, Q, p, F, e, h⟩ := h; exact ⟨B, M, Q, p, F, e, h.mono ho hl⟩
    | true => obtain ⟨B, t, l, i, j, ct, cl, ci, cj, V, e, h⟩ := h; exact ⟨B, t, l, i, j, ct, cl, ci, cj, V, e, h.mono ho hl⟩
theorem TOb.ptr {c : Tc} (h : TOb r w O v (some c)) : ∃ B, v = .pointer (some ⟨B, 0, none⟩) := by
  cases r with
  | false => obtain ⟨B, _, _, _, _, e, _⟩ := h; exact ⟨B, e⟩
  | true => obtain ⟨B, _, _, _, _, _, _, _, _, _, e, _⟩ := h; exact ⟨B, e⟩
theorem TOb.wf {c : Tc} (h : TOb r w O v (some c)) : TWf c := by
  cases r with
  | false => obtain ⟨B, _, _, _, _, e, h⟩ := h; exact h.wf
  | true => obtain ⟨B, _, _, _, _, _, _, _, _, _, e, h⟩ := h; exact h.wf
theorem TMut.same (h : TOb r w O v om) (hb : Below w.heap.size w w') : TMut r w O v om w' := ⟨(h.below hb).mono (fun _ hk => .inl hk) (Ext.lt h.lt hb.size), Keep.of hb⟩
/-- A list of the cache is turned. -/
theorem PcA.mut (h : PcA w O B M Q p F c) {x : Nat} {k k' : Kl} (hx : c.K[x]? = some k) (hm : KMut w (F x) (p x) k' w') : TMut false w O (.pointer (some ⟨B, 0, none⟩)) (some { c with K := c.K.set x k' }) w' := by
  have hxl := (List.getElem?_eq_some_iff.1 hx).1
  have hs := h.sub x hxl
  have hkO : Keep O w w' := hm.2.mono fun j _ hj => (hs j hj).1
  refine ⟨⟨B, M, Q, p, fun y => if y = x then Ext (F x) w w' else F y, rfl, ⟨h.wf.set hm.1.wf, ?_, ?_, ?_, fun y k2 hy => ?_, fun y hy j hj => ?_, fun y y' j hy hy' hj hj' => ?_, .inl h.ob, .inl h.om, h.ne, Ext.lt h.lt hkO.size⟩⟩, hkO⟩
  · exact h.hd.of_block (hm.2.block _ (h.lt _ h.ob) (fun hx => (hs _ hx).2.1 rfl))
  · exact h.mp.block (hm.2.block _ (h.lt _ h.om) (fun hx => (hs _ hx).2.2 rfl))
  · intro y; rw [List.length_set]; exact h.q y
  · have hy : (c.K.set x k')[y]? = some k2 := hy
    rw [List.getElem?_set] at hy
    by_cases e : y = x
    · subst e
      rw [if_pos rfl, if_pos hxl] at hy
      injection hy with hy
      subst hy
      show KOb w' (if y = y then _ else _) _ _
      rw [if_pos rfl]
      exact hm.1
    · rw [if_neg (fun e' => e e'.symm)] at hy
      have hyl := (List.getElem?_eq_some_iff.1 hy).1
      show KOb w' (if y = x then _ else _) _ _
      rw [if_neg e]
      exact (h.each y k2 hy).keep hm.2 (fun j h1 h2 => e (h.dj y x j hyl hxl h1 h2))
  · have hy : y < (c.K.set x k').length := hy
    rw [List.length_set] at hy
    have hj : (if y = x then Ext (F x) w w' else F y) j := hj
    have hB := h.lt _ h.ob
    have hM := h.lt _ h.om
    by_cases e : y = x
    · rw [if_pos e] at hj
      rcases hj with hj | hj
      · exact ⟨.inl (hs j hj).1, (hs j hj).2⟩
      · exact ⟨.inr hj, by omega, by omega⟩
    · rw [if_neg e] at hj
      exact ⟨.inl (h.sub y hy j hj).1, (h.sub y hy j hj).2⟩
  · have hy : y < (c.K.set x k').length := hy
    have hy' : y' < (c.K.set x k').length := hy'
    rw [List.length_set] at hy hy'
    have hj : (if y = x then Ext (F x) w w' else F y) j := hj
    have hj' : (if y' = x then Ext (F x) w w' else F y') j := hj'
    have old : ∀ z, z < c.K.length → F z j → j < w.heap.size := fun z hz hf => h.lt _ (h.sub z hz j hf).1
    by_cases e : y = x
    · rw [if_pos e] at hj
      by_cases e' : y' = x
      · rw [e, e']
      · rw [if_neg e'] at hj'
        rcases hj with hj | hj
        · exact e.trans (h.dj x y' j hxl hy' hj hj')
        · have := old y' hy' hj'; have := hj.1; omega
    · rw [if_neg e] at hj
      by_cases e' : y' = x
      · rw [if_pos e'] at hj'
        rcases hj' with hj' | hj'
        · exact (h.dj y x j hy hxl hj hj').trans e'.symm
        · have := old y hy hj; have := hj'.1; omega
      · rw [if_neg e'] at hj'
        exact h.dj y y' j hy hy' hj hj'
end
end Go.Proofs.Yticcjelaenhigaa
