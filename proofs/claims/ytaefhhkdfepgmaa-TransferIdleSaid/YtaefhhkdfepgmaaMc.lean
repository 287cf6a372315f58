/- A transfer cache in memory: the program's (r = false), the document's (r = true). -/
import Derived.Test.YtaefhhkdfepgmaaMb
namespace Go.Proofs.Ytaefhhkdfepgmaa
open Go.RowKit

/-- A batch: its block, its objects, its room. -/
structure Bt where
  g : Nat
  l : List Int
  c : Nat
def Bt.v (x : Bt) : Value := .slice (some ⟨x.g, 0, none⟩) x.l.length x.c
structure BtAt (w : World) (x : Bt) : Prop where
  cell : ∀ (i : Nat) (a : Int), x.l[i]? = some a → w.cell? ⟨x.g, i, none⟩ = some (.int .i64 a) ∧ InR a
  lt : x.g < w.heap.size
theorem BtAt.block {w w' : World} {x : Bt} (h : BtAt w x) (e : w'.heap[x.g]? = w.heap[x.g]?) : BtAt w' x :=
  ⟨fun i a hi => ⟨(World.cell?_of_block (a := ⟨x.g, i, none⟩) e).trans (h.cell i a hi).1, (h.cell i a hi).2⟩, by
    rcases Nat.lt_or_ge x.g w'.heap.size with h1 | h1
    · exact h1
    · rw [Array.getElem?_eq_none h1, Array.getElem?_eq_getElem h.lt] at e; cases e⟩
def bV (X : List Bt) : List Value := X.map Bt.v
def tF (r : Bool) (c : Tc) (V : Value) : Nat → Value := fun i => match r with
  | false => if i = 0 then .int .i64 c.b else if i = 1 then .int .i64 c.r else if i = 2 then .int .i64 c.lo else V
  | true => if i = 0 then .int .i64 c.b else if i = 1 then .int .i64 c.r else if i = 2 then V else .int .i64 c.lo

/-- A cache in memory whose low's cell holds lo. -/
structure TcB (r : Bool) (w : World) (O : Nat → Prop) (B : Nat) (V : Value) (X : List Bt) (c : Tc) (lo : Nat) : Prop where
  wf : TWf c
  hd : Cl w B 4 (tF r { c with lo := lo } V)
  row : OffR w 32 V (bV X)
  rowO : ∀ g, V.ownBlock = some g → O g ∧ g ≠ B
  ob : O B
  bt : ∀ x ∈ X, BtAt w x
  bo : ∀ x ∈ X, O x.g ∧ x.g ≠ B ∧ V.ownBlock ≠ some x.g
  ms : X.map (·.l) = c.L
  lt : ∀ k, O k → k < w.heap.size
abbrev TcA (r : Bool) (w : World) (O : Nat → Prop) (B : Nat) (V : Value) (X : List Bt) (c : Tc) : Prop := TcB r w O B V X c c.lo
def NoT (w : World) (O : Nat → Prop) (v : Value) : Prop := v = .pointer none ∨ ∃ B, v = .pointer (some ⟨B, 0, none⟩) ∧ O B ∧ w.cell? ⟨B, 0, none⟩ = some (.int .i64 0)
/-- A cache in memory, or one that nobody made. -/
def TOb (r : Bool) (w : World) (O : Nat → Prop) (v : Value) : Option Tc → Prop
  | none => NoT w O v ∧ ∀ k, O k → k < w.heap.size
  | some c => ∃ B V X, v = .pointer (some ⟨B, 0, none⟩) ∧ TcA r w O B V X c
section
variable {r : Bool} {w w' : World} {O O1 O' : Nat → Prop} {B : Nat} {V v : Value} {X : List Bt} {c : Tc} {om : Option Tc}
theorem TcA.len (h : TcA r w O B V X c) : X.length = c.L.length := by rw [← h.ms, List.length_map]
theorem bV_len (X : List Bt) : (bV X).length = X.length := by unfold bV; rw [List.length_map]
theorem bV_at {X : List Bt} {i : Nat} {x : Bt} (e : X[i]? = some x) : (bV X)[i]? = some x.v := by unfold bV; rw [List.getElem?_map, e]; rfl
theorem TcA.at (h : TcA r w O B V X c) {i : Nat} {x : Bt} (e : X[i]? = some x) : c.L[i]? = some x.l := by rw [← h.ms, List.getElem?_map, e]; rfl
theorem TcA.get (h : TcA r w O B V X c) {i : Nat} (hi : i < c.L.length) : ∃ x, X[i]? = some x := ⟨_, List.getElem?_eq_getElem (by rw [h.len]; exact hi)⟩
theorem TcA.blen (h : TcA r w O B V X c) {i : Nat} {x : Bt} (e : X[i]? = some x) : x.l.length = c.b := h.wf.sz _ (List.mem_of_getElem? (h.at e))
theorem TcA.n8 (h : TcA r w O B V X c) : X.length ≤ 8 := by have := h.len; have := h.wf.len; have := h.wf.r2; omega
theorem TcA.form (h : TcA r w O B V X c) : ∃ A cap, V = .slice A X.length cap ∧ X.length ≤ cap ∧ cap ≤ maxLen := by
  obtain ⟨A, cap, e, h1, h2⟩ := h.row.form
  rw [bV_len] at e h1
  exact ⟨A, cap, e, h1, h2⟩
theorem TcA.cells (h : TcA r w O B V X c) : w.cell? ⟨B, 0, none⟩ = some (.int .i64 c.b) ∧ w.cell? ⟨B, 1, none⟩ = some (.int .i64 c.r) := by
  have h0 := h.hd.cell 0 (by omega)
  have h1 := h.hd.cell 1 (by omega)
  cases r <;> exact ⟨h0, h1⟩
theorem TcA.pc (h : TcA false w O B V X c) : w.cell? ⟨B, 2, none⟩ = some (.int .i64 c.lo) ∧ w.cell? ⟨B, 3, none⟩ = some V := ⟨h.hd.cell 2 (by omega), h.hd.cell 3 (by omega)⟩
theorem TcA.dc (h : TcA true w O B V X c) : w.cell? ⟨B, 2, none⟩ = some V ∧ w.cell? ⟨B, 3, none⟩ = some (.int .i64 c.lo) := ⟨h.hd.cell 2 (by omega), h.hd.cell 3 (by omega)⟩
theorem TcA.slot (h : TcA r w O B V X c) {i : Nat} {x : Bt} (e : X[i]? = some x) : ∃ g o cap, V = .slice (some ⟨g, o, none⟩) X.length cap ∧ w.cell? ⟨g, o + i, none⟩ = some (.slice (some ⟨x.g, 0, none⟩) x.l.length x.c) := by
  obtain ⟨g, o, cap, e1, e2, _⟩ := h.row.slot (bV_at e)
  rw [bV_len] at e1
  exact ⟨g, o, cap, e1, e2⟩
theorem TcA.keep (h : TcA r w O B V X c) (hk : Keep O1 w w') (hd : ∀ k, O k → O1 k → False) : TcA r w' O B V X c :=
  ⟨h.wf, h.hd.of_block (hk.block _ h.hd.lt (fun hx => hd _ h.ob hx)), h.row.block fun g hg hl => hk.block g hl (fun hx => hd _ (h.rowO g hg).1 hx), h.rowO, h.ob,
    fun x hx => (h.bt x hx).block (hk.block _ (h.bt x hx).lt (fun h2 => hd _ (h.bo x hx).1 h2)), h.bo, h.ms, fun k ho => Nat.lt_of_lt_of_le (h.lt k ho) hk.size⟩
theorem TcA.below (h : TcA r w O B V X c) (hb : Below w.heap.size w w') : TcA r w' O B V X c := h.keep (Keep.of (O := fun _ => False) hb) (fun _ _ h => h)
theorem TcA.mono (h : TcA r w O B V X c) (ho : ∀ k, O k → O' k) (hl : ∀ k, O' k → k < w.heap.size) : TcA r w O' B V X c :=
  ⟨h.wf, h.hd, h.row, fun g hg => ⟨ho _ (h.rowO g hg).1, (h.rowO g hg).2⟩, ho _ h.ob, h.bt, fun x hx => ⟨ho _ (h.bo x hx).1, (h.bo x hx).2⟩, h.ms, hl⟩
theorem TcA.ob' (h : TcA r w O B V X c) : TOb r w O (.pointer (some ⟨B, 0, none⟩)) (some c) := ⟨B, V, X, rfl, h⟩
theorem TOb.lt (h : TOb r w O v om) : ∀ k, O k → k < w.heap.size := by
  cases om with
  | none => exact h.2
  | some m => obtain ⟨B, A, c, _, h⟩ := h; exact h.lt
theorem TOb.keep (h : TOb r w O v om) (hk : Keep O1 w w') (hd : ∀ k, O k → O1 k → False) : TOb r w' O v om := by
  cases om with
  | none =>
    obtain ⟨h, hl⟩ := h
    refine ⟨?_, fun k ho => Nat.lt_of_lt_of_le (hl k ho) hk.size⟩
    rcases h with h | ⟨B, h, ho, hc⟩
    · exact .inl h
    · exact .inr ⟨B, h, ho, (World.cell?_of_block (a := ⟨B, 0, none⟩) (hk.block B (hl B ho) (fun hx => hd _ ho hx))).trans hc⟩
  | some m =>
    obtain ⟨B, A, c, e, h⟩ := h
    exact ⟨B, A, c, e, h.keep hk hd⟩
theorem TOb.below (h : TOb r w O v om) (hb : Below w.heap.size w w') : TOb r w' O v om := h.keep (Keep.of (O := fun _ => False) hb) (fun _ _ h => h)
theorem TOb.mono (h : TOb r w O v om) (ho : ∀ k, O k → O' k) (hl : ∀ k, O' k → k < w.heap.size) : TOb r w O' v om := by
  cases om with
  | none =>
    obtain ⟨h, _⟩ := h
    refine ⟨?_, hl⟩
    rcases h with h | ⟨B, h, hb, hc⟩
    · exact .inl h
    · exact .inr ⟨B, h, ho _ hb, hc⟩
  | some m =>
    obtain ⟨B, A, c, e, h⟩ := h
    exact ⟨B, A, c, e, h.mono ho hl⟩
theorem TOb.ptr {c : Tc} (h : TOb r w O v (some c)) : ∃ B, v = .pointer (some ⟨B, 0, none⟩) := by
  obtain ⟨B, _, _, e, _⟩ := h
  exact ⟨B, e⟩
theorem TOb.wf {c : Tc} (h : TOb r w O v (some c)) : TWf c := by
  obtain ⟨B, _, _, _, h⟩ := h
  exact h.wf
end

/-! ## What is returned -/
/-- Numbers in memory, in blocks of P. -/
def IAt (P : Nat → Prop) (w : World) (A : Option Addr) (l : List Int) : Prop := ∀ (i : Nat) (a : Int), l[i]? = some a → ∃ g o : Nat, A = some ⟨g, o, none⟩ ∧ g < w.heap.size ∧ P g ∧ w.cell? ⟨g, o + i, none⟩ = some (.int .i64 a) ∧ InR a
/-- Lists of numbers in memory. -/
def LAt (P : Nat → Prop) (w : World) (A : Option Addr) (L : List (List Int)) : Prop := ∀ (i : Nat) (l : List Int), L[i]? = some l → ∃ (g o : Nat) (A' : Option Addr) (c' : Nat), A = some ⟨g, o, none⟩ ∧ g < w.heap.size ∧ P g ∧ w.cell? ⟨g, o + i, none⟩ = some (.slice A' l.length c') ∧ IAt P w A' l
section
variable {P P' O : Nat → Prop} {w w' : World} {A : Option Addr} {l : List Int} {L : List (List Int)}
theorem IAt.keep (h : IAt P w A l) (hk : Keep O w w') (hd : ∀ k, P k → O k → False) : IAt P w' A l := fun i a hi => by
  obtain ⟨g, o, e, h1, h2, h3, h4⟩ := h i a hi
  exact ⟨g, o, e, Nat.lt_of_lt_of_le h1 hk.size, h2, (World.cell?_of_block (a := ⟨g, _, none⟩) (hk.block g h1 (fun hx => hd g h2 hx))).trans h3, h4⟩
theorem IAt.below (h : IAt P w A l) (hb : Below w.heap.size w w') : IAt P w' A l := h.keep (Keep.of (O := fun _ => False) hb) (fun _ _ h => h)
theorem IAt.mono (h : IAt P w A l) (hp : ∀ k, k < w.heap.size → P k → P' k) : IAt P' w A l := fun i a hi => by
  obtain ⟨g, o, e, h1, h2, h3, h4⟩ := h i a hi
  exact ⟨g, o, e, h1, hp g h1 h2, h3, h4⟩
theorem LAt.keep (h : LAt P w A L) (hk : Keep O w w') (hd : ∀ k, P k → O k → False) : LAt P w' A L := fun i l hi => by
  obtain ⟨g, o, A', c', e, h1, h2, h3, h4⟩ := h i l hi
  exact ⟨g, o, A', c', e, Nat.lt_of_lt_of_le h1 hk.size, h2, (World.cell?_of_block (a := ⟨g, _, none⟩) (hk.block g h1 (fun hx => hd g h2 hx))).trans h3, h4.keep hk hd⟩
theorem LAt.below (h : LAt P w A L) (hb : Below w.heap.size w w') : LAt P w' A L := h.keep (Keep.of (O := fun _ => False) hb) (fun _ _ h => h)
theorem LAt.mono (h : LAt P w A L) (hp : ∀ k, k < w.heap.size → P k → P' k) : LAt P' w A L := fun i l hi => by
  obtain ⟨g, o, A', c', e, h1, h2, h3, h4⟩ := h i l hi
  exact ⟨g, o, A', c', e, h1, hp g h1 h2, h3, h4.mono hp⟩
theorem IAt.nil (P : Nat → Prop) (w : World) (A : Option Addr) : IAt P w A [] := fun i a hi => by simp at hi
theorem LAt.nil (P : Nat → Prop) (w : World) (A : Option Addr) : LAt P w A [] := fun i a hi => by simp at hi
theorem BtAt.iat {x : Bt} (h : BtAt w x) (hp : P x.g) : IAt P w (some ⟨x.g, 0, none⟩) x.l := fun i a hi => ⟨x.g, 0, rfl, h.lt, hp, by rw [Nat.zero_add]; exact (h.cell i a hi).1, (h.cell i a hi).2⟩
/-- The batches of a row of one's own. -/
theorem lat_of {Y : List Bt} {g o n c : Nat} {t : TypeId} (h : OffR w t (.slice A n c) (bV Y)) (hA : ∀ x, A = some x → P x.block) (hY : ∀ x ∈ Y, BtAt w x ∧ P x.g) : LAt P w A (Y.map (·.l)) := fun i l hi => by
  have _ := g
  have _ := o
  rw [List.getElem?_map] at hi
  cases hx : Y[i]? with
  | none => rw [hx] at hi; cases hi
  | some x =>
    rw [hx] at hi
    injection hi with hi
    subst hi
    obtain ⟨g, o, cap, e1, e2, e3⟩ := h.slot (bV_at hx)
    injection e1 with e1 _ _
    subst e1
    obtain ⟨h1, h2⟩ := hY x (List.mem_of_getElem? hx)
    exact ⟨g, o, _, _, rfl, e3, hA _ rfl, e2, h1.iat h2⟩
end

/-- The block that a pointer names. -/
def isB (v : Value) (k : Nat) : Prop := v = .pointer (some ⟨k, 0, none⟩)
/-- What a call that changes a cache leaves: F is what it may have written to. -/
def TMut (r : Bool) (F : Nat → Prop) (w : World) (O : Nat → Prop) (v : Value) (om : Option Tc) (w' : World) : Prop := TOb r w' (Ext O w w') v om ∧ Keep F w w'
section
variable {r : Bool} {F : Nat → Prop} {w w1 w2 w' : World} {O : Nat → Prop} {v : Value} {om o1 o2 : Option Tc}
theorem TMut.same (h : TOb r w O v om) (hb : Below w.heap.size w w') : TMut r F w O v om w' := ⟨(h.below hb).mono (fun _ hk => .inl hk) (Ext.lt h.lt hb.size), Keep.of hb⟩
theorem TMut.wide (h : TMut r F w O v om w') (hF : ∀ k, k < w.heap.size → F k → O k) : TMut r O w O v om w' := ⟨h.1, h.2.mono hF⟩
end
end Go.Proofs.Ytaefhhkdfepgmaa
