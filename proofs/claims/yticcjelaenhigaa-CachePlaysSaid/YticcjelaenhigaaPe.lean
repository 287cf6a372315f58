/- Package cache: Scavenge and Drain. -/
import Derived.Test.YticcjelaenhigaaPd
namespace Go.Proofs.Yticcjelaenhigaa
open Go.RowKit Go.Sort Go.Shelf Go.Lib

section
variable {P : Program} (w : World) {ops : Array Oper} {rest : List Oper} {o : Oper} {a : Act} {Q' : Exit → Act → World → Prop}
theorem wpList_range_itr {b : Nat} {Q : List Nat} {p : Nat → Nat} (hg : o.guard = none) (m : Operand) (hop : o.op = Op.range 41 m) (hm : a.eval m = .map (some b)) (h : MpA w b Q p)
    (hK : ∀ w', Itr w' b w.heap.size Q [] p → Below w.heap.size w w' → w.heap.size < w'.heap.size → wpList Try.prog ops Q' rest (a.put o.dst (.pointer (some ⟨w.heap.size, 0, none⟩))) w') : wpList Try.prog ops Q' (o :: rest) a w := by
  obtain ⟨w', hrun, h1, h2, h3⟩ := h.range
  exact wpList_range_run w hg m _ hop hm hrun (hK w' h1 h2 h3)
theorem wpList_next_itr {b r : Nat} {Q D : List Nat} {p : Nat → Nat} (hg : o.guard = none) (it : Operand) (hop : o.op = Op.next it false) (hit : a.eval it = .pointer (some ⟨r, 0, none⟩)) (h : Itr w b r Q D p)
    (hDone : (∀ i ∈ Q, i ∈ D) → wpList Try.prog ops Q' rest (a.put o.dst (.tuple #[.bool false])) w)
    (hMore : ∀ (i : Nat) (w' : World), i ∈ Q → i ∉ D → Itr w' b r Q (D ++ [i]) p → w'.rangeLeft b r < w.rangeLeft b r → w.grownBy w' (some r) → w'.heap.size = w.heap.size → (Instr.entry (.pointer (some ⟨r, 0, none⟩))).run Try.prog w' = .ok (.tuple #[.int .i64 (i : Int), .pointer (some ⟨p i, 0, none⟩)]) w' → wpList Try.prog ops Q' rest (a.put o.dst (.tuple #[.bool true, .int .i64 (i : Int), .pointer (some ⟨p i, 0, none⟩)])) w') : wpList Try.prog ops Q' (o :: rest) a w := by
  rcases h.next o.type with ⟨h1, hrun⟩ | ⟨i, w', h1, h2, hrun, h3, h4, h5, h6, h7⟩
  · exact wpList_next_run w hg it hop hit hrun (hDone h1)
  · exact wpList_next_run w hg it hop hit hrun (hMore i w' h1 h2 h3 h4 h5 h6 h7)
end

/-- The lists of which D have been turned. -/
def onK (g : Kl → Kl) (D : List Nat) (K : List Kl) : List Kl := K.mapIdx fun i k => if i ∈ D then g k else k
theorem onK_at {g : Kl → Kl} {D : List Nat} {K : List Kl} {i : Nat} {k : Kl} (h : K[i]? = some k) : (onK g D K)[i]? = some (if i ∈ D then g k else k) := by unfold onK; rw [List.getElem?_mapIdx, h]; rfl
theorem onK_len (g : Kl → Kl) (D : List Nat) (K : List Kl) : (onK g D K).length = K.length := by unfold onK; rw [List.length_mapIdx]
theorem onK_nil (g : Kl → Kl) (K : List Kl) : onK g [] K = K := by
  refine List.ext_getElem? fun i => ?_
  unfold onK
  rw [List.getElem?_mapIdx]
  cases K[i]? <;> simp
theorem onK_set {g : Kl → Kl} {D : List Nat} {K : List Kl} {i : Nat} {k : Kl} (h : K[i]? = some k) : (onK g D K).set i (g k) = onK g (D ++ [i]) K := by
  refine List.ext_getElem? fun j => ?_
  rw [List.getElem?_set]
  unfold onK
  rw [List.getElem?_mapIdx, List.length_mapIdx]
  have hl := (List.getElem?_eq_some_iff.1 h).1
  by_cases e : i = j
  · subst e
    rw [if_pos rfl, if_pos hl, List.getElem?_mapIdx, h]
    simp
  · rw [if_neg e, List.getElem?_mapIdx]
    cases hj : K[j]? with
    | none => rfl
    | some y =>
      have : (j ∈ D ++ [i]) ↔ j ∈ D := by simp; intro e'; exact absurd e'.symm e
      simp only [Option.map_some, this]
theorem onK_all {g : Kl → Kl} {D : List Nat} {K : List Kl} (h : ∀ i, i < K.length → i ∈ D) : onK g D K = K.map g := by
  refine List.ext_getElem? fun j => ?_
  unfold onK
  rw [List.getElem?_mapIdx, List.getElem?_map]
  cases hj : K[j]? with
  | none => rfl
  | some y => simp [h j (List.getElem?_eq_some_iff.1 hj).1]
section
variable {w w' : World} {O : Nat → Prop} {B M : Nat} {Q : List Nat} {p : Nat → Nat} {F : Nat → Nat → Prop} {c : Tc}
/-- A list of the cache is turned, which owns what it did. -/
theorem PcA.same (h : PcA w O B M Q p F c) {x : Nat} {k k' : Kl} (hx : c.K[x]? = some k) (hk : KOb w' (F x) (p x) k') (hkeep : Keep (F x) w w') : PcA w' O B M Q p F { c with K := c.K.set x k' } := by
  have hxl := (List.getElem?_eq_some_iff.1 hx).1
  have hs := h.sub x hxl
  refine ⟨h.wf.set hk.wf, ?_, ?_, ?_, fun y k2 hy => ?_, fun y hy j hj => ?_, fun y y' j hy hy' hj hj' => ?_, h.ob, h.om, h.ne, fun j hj => Nat.lt_of_lt_of_le (h.lt j hj) hkeep.size⟩
  · exact h.hd.of_block (hkeep.block _ (h.lt _ h.ob) (fun hx => (hs _ hx).2.1 rfl))
  · exact h.mp.block (hkeep.block _ (h.lt _ h.om) (fun hx => (hs _ hx).2.2 rfl))
  · intro y; rw [List.length_set]; exact h.q y
  · have hy : (c.K.set x k')[y]? = some k2 := hy
    rw [List.getElem?_set] at hy
    by_cases e : y = x
    · subst e
      rw [if_pos rfl, if_pos hxl] at hy
      injection hy with hy
      subst hy
      exact hk
    · rw [if_neg (fun e' => e e'.symm)] at hy
      have hyl := (List.getElem?_eq_some_iff.1 hy).1
      exact (h.each y k2 hy).keep hkeep (fun j h1 h2 => e (h.dj y x j hyl hxl h1 h2))
  · have hy : y < (c.K.set x k').length := hy
    rw [List.length_set] at hy
    exact h.sub y hy j hj
  · have hy : y < (c.K.set x k').length := hy
    have hy' : y' < (c.K.set x k').length := hy'
    rw [List.length_set] at hy hy'
    exact h.dj y y' j hy hy' hj hj'
end

/-- What Scavenge and Drain return and leave: the cache owns what it did. -/
def RmsP (r : Bool) (w : World) (O : Nat → Prop) (v : Value) (f : Kl → List Int) (g : Kl → Kl) (om : Option Tc) (e : Ending) (w' : World) : Prop := ∃ A c', e = .returned (.slice A (batV f om).length c') ∧ ∃ O', TOb r w' O' v (mapK g om) ∧ (∀ j, O' j → Ext O w w' j) ∧ Keep O w w' ∧ BAt (fun g => w.heap.size ≤ g ∧ ¬ O' g) w' A (batV f om)
theorem rms_no {r : Bool} {w w' : World} {O : Nat → Prop} {v : Value} {f : Kl → List Int} {g : Kl → Kl} (h : TOb r w O v none) (hb : Below w.heap.size w w') : RmsP r w O v f g none (.returned (.slice none 0 0)) w' :=
  ⟨none, 0, rfl, O, h.below hb, fun _ hj => .inl hj, Keep.of hb, BAt.nil _ _ _⟩

/-- The rounds so far: what they have removed, and where it is. -/
structure ColI (w wr : World) (O : Nat → Prop) (B M R : Nat) (Q D : List Nat) (p : Nat → Nat) (F : Nat → Nat → Prop) (c : Tc) (f : Kl → List Int) (g : Kl → Kl) (V : Value) (X : List Bx) : Prop where
  it : Itr wr M R Q D p
  pc : PcA wr O B M Q p F { c with K := onK g D c.K }
  rR : w.heap.size ≤ R
  kp : Keep O w wr
  row : wr.ownsRow w.heap.size 61 2 V X.length (cellsX X)
  xs : X.map (fun x => (x.i, x.l)) = batQ (hK f c.K) D
  at' : ∀ x ∈ X, IAt (fun j => w.heap.size ≤ j ∧ V.ownBlock ≠ some j ∧ j ≠ R) wr x.A x.l
  rne : V.ownBlock ≠ some R
theorem nodup_len : ∀ (n : Nat) (D : List Nat), D.Nodup → (∀ i ∈ D, i < n) → D.length ≤ n
  | 0, D, _, h => by
    cases D with
    | nil => exact Nat.le_refl _
    | cons a t => exact absurd (h a List.mem_cons_self) (by omega)
  | n + 1, D, hn, h => by
    have h1 := nodup_len n (D.erase n) (hn.erase n) (fun i hi => by
      have h2 := (hn.mem_erase_iff).1 hi
      have h3 := h i h2.2
      have h4 := h2.1
      omega)
    rw [List.length_erase] at h1
    split at h1 <;> omega
theorem ColI.len {w wr : World} {O : Nat → Prop} {B M R : Nat} {Q D : List Nat} {p : Nat → Nat} {F : Nat → Nat → Prop} {c : Tc} {f : Kl → List Int} {g : Kl → Kl} {V : Value} {X : List Bx} (h : ColI w wr O B M R Q D p F c f g V X) : X.length ≤ 40 := by
  have h1 : X.length = (batQ (hK f c.K) D).length := by rw [← h.xs, List.length_map]
  have h2 := batQ_len (hK f c.K) D
  have h3 := h.it.done
  have h4 : D.length ≤ c.K.length := nodup_len _ _ h3.1 (fun i hi => by have := (h.pc.q i).1 (h3.2 i hi); rwa [show (onK g D c.K).length = c.K.length from onK_len _ _ _] at this)
  have h6 : (onK g D c.K).length = c.K.length := onK_len _ _ _
  have h7 : c.K.length ≤ 40 := by rw [← h6]; exact h.pc.wf.n40
  omega
theorem own_keep {w w' : World} {base e size n : Nat} {v : Value} {xs : List Value} (h : w.ownsRow base e size v n xs) (hb : ∀ g, v.ownBlock = some g → w'.heap[g]? = w.heap[g]?) : w'.ownsRow base e size v n xs := by
  obtain ⟨h1, h2⟩ := h
  refine ⟨h1, ?_⟩
  rcases h2 with h0 | ⟨g, cap, cur, rfl, b, hg, c⟩
  · exact .inl h0
  · exact .inr ⟨g, cap, cur, rfl, b, (hb g rfl).trans hg, c⟩
section
variable {w wr w1 w2 w3 : World} {O : Nat → Prop} {B M R i : Nat} {Q D : List Nat} {p : Nat → Nat} {F : Nat → Nat → Prop} {c : Tc} {f : Kl → List Int} {g : Kl → Kl} {V V' : Value} {X : List Bx} {k : Kl} {A' : Option Addr} {c' : Nat}
theorem ColI.fk (h : ColI w wr O B M R Q D p F c f g V X) (hiQ : i ∈ Q) : ∃ k, c.K[i]? = some k := by
  have := (h.pc.q i).1 hiQ
  rw [show (onK g D c.K).length = c.K.length from onK_len _ _ _] at this
  exact ⟨_, List.getElem?_eq_getElem this⟩
/-- The list that comes is as it was. -/
theorem ColI.next (h : ColI w wr O B M R Q D p F c f g V X) (h0 : ∀ j, O j → j < w.heap.size) (hk : c.K[i]? = some k) (hiD : i ∉ D) (hg : wr.grownBy w1 (some R)) : KOb w1 (F i) (p i) k := by
  have h1 := h.pc.each i k (by rw [onK_at hk, if_neg hiD])
  have hil : i < (onK g D c.K).length := by rw [onK_len]; exact (List.getElem?_eq_some_iff.1 hk).1
  exact h1.keep (O1 := fun j => j = R) ⟨hg.os, hg.tape, hg.output, hg.size, fun j hj hne => hg.block j hj (fun e => hne (by cases e; rfl))⟩ (fun j h2 h3 => by
    have := h0 j (h.pc.sub i hil j h2).1
    have := h.rR
    omega)
theorem ColI.turn (h : ColI w wr O B M R Q D p F c f g V X) (h0 : ∀ j, O j → j < w.heap.size) (hk : c.K[i]? = some k) (hiD : i ∉ D) (hit : Itr w1 M R Q (D ++ [i]) p) (hg : wr.grownBy w1 (some R))
    (hko : KOb w2 (F i) (p i) (g k)) (hkp : Keep (F i) w1 w2) : Itr w2 M R Q (D ++ [i]) p ∧ PcA w2 O B M Q p F { c with K := onK g (D ++ [i]) c.K } ∧ Keep O w w2 ∧ w2.ownsRow w.heap.size 61 2 V X.length (cellsX X) ∧ ∀ x ∈ X, IAt (fun j => w.heap.size ≤ j ∧ V.ownBlock ≠ some j ∧ j ≠ R) w2 x.A x.l := by
  have hil : i < (onK g D c.K).length := by rw [onK_len]; exact (List.getElem?_eq_some_iff.1 hk).1
  have hs := h.pc.sub i hil
  have kR : Keep (fun j => j = R) wr w1 := ⟨hg.os, hg.tape, hg.output, hg.size, fun j hj hne => hg.block j hj (fun e => hne (by cases e; rfl))⟩
  have hRO : ∀ j, O j → j = R → False := fun j h2 h3 => by
    have := h0 j h2
    have := h.rR
    omega
  have hp1 := h.pc.keep kR hRO
  have hp2 := hp1.same (x := i) (k := k) (k' := g k) (by show (onK g D c.K)[i]? = _; rw [onK_at hk, if_neg hiD]) hko hkp
  have e1 : (onK g D c.K).set i (g k) = onK g (D ++ [i]) c.K := onK_set hk
  have hM := h.pc.om
  have hFlt : ∀ j, F i j → j < w.heap.size := fun j hj => h0 j (hs j hj).1
  have kp1 : Keep O w w1 := h.kp.trans (kR.mono fun j hj e => .inr ⟨by subst e; exact h.rR, hj⟩)
  have hw1 := h.kp.size
  have hs1 := hg.size
  refine ⟨hit.block (hkp.block _ (by have := h0 _ hM; omega) (fun hx => (hs _ hx).2.2 rfl)) (hkp.block _ hit.lt (fun hx => by have := hFlt _ hx; have := h.rR; omega)), by rw [← e1]; exact hp2, kp1.trans (hkp.mono fun j _ hj => .inl (hs j hj).1), ?_, fun x hx => ?_⟩
  · refine own_keep h.row fun q hq => ?_
    have hql := h.row.lt q hq
    exact (hkp.block q (by omega) (fun hx => by have := hFlt _ hx; omega)).trans (kR.block q hql.2 (fun e => h.rne (by rw [← e]; exact hq)))
  · exact ((h.at' x hx).keep kR (fun j h1 h2 => h1.2.2 h2)).keep hkp (fun j h1 h2 => by have := hFlt _ h2; have := h1.1; omega)
/-- No batch. -/
theorem ColI.step0 (h : ColI w wr O B M R Q D p F c f g V X) (h0 : ∀ j, O j → j < w.heap.size) (hk : c.K[i]? = some k) (hiD : i ∉ D) (hit : Itr w1 M R Q (D ++ [i]) p) (hg : wr.grownBy w1 (some R))
    (hko : KOb w2 (F i) (p i) (g k)) (hkp : Keep (F i) w1 w2) (hf : f k = []) : ColI w w2 O B M R Q (D ++ [i]) p F c f g V X := by
  obtain ⟨a1, a2, a3, a4, a5⟩ := h.turn h0 hk hiD hit hg hko hkp
  refine ⟨a1, a2, h.rR, a3, a4, ?_, a5, h.rne⟩
  rw [h.xs, batQ_snoc, show hK f c.K i = [] from by unfold hK; rw [hk]; exact hf, if_pos rfl, List.append_nil]
/-- A batch more. -/
theorem ColI.step1 (h : ColI w wr O B M R Q D p F c f g V X) (h0 : ∀ j, O j → j < w.heap.size) (hk : c.K[i]? = some k) (hiD : i ∉ D) (hit : Itr w1 M R Q (D ++ [i]) p) (hg : wr.grownBy w1 (some R))
    (hko : KOb w2 (F i) (p i) (g k)) (hkp : Keep (F i) w1 w2) (hf : f k ≠ []) (hia : IAt (fun j => w1.heap.size ≤ j) w2 A' (f k)) {tmp : Obj}
    (hrow : w3.ownsRow w.heap.size 61 2 V' (X.length + 1) (cellsX X ++ [.int .i64 (i : Nat), .slice A' (f k).length c'])) (hgr : (w2.alloc tmp).grownBy w3 V.ownBlock) (hat : V'.ownBlock = V.ownBlock ∨ V'.ownBlock = some (w2.alloc tmp).heap.size) : ColI w w3 O B M R Q (D ++ [i]) p F c f g V' (X ++ [⟨i, f k, A', c'⟩]) := by
  obtain ⟨a1, a2, a3, a4, a5⟩ := h.turn h0 hk hiD hit hg hko hkp
  have hs1 := hg.size
  have hs2 := hkp.size
  have hs3 := hgr.size
  have hRl := h.it.lt
  have hwr := h.kp.size
  simp only [World.size_alloc] at hs3 hat
  have hVl : ∀ q, V.ownBlock = some q → w.heap.size ≤ q ∧ q < wr.heap.size := fun q hq => h.row.lt q hq
  have old : ∀ q, q < w2.heap.size → V.ownBlock ≠ some q → w3.heap[q]? = w2.heap[q]? := fun q hq hne => (hgr.block q (by simp; omega) (fun e => hne e.symm)).trans (Below.heap_alloc _ _ _ hq)
  have k3 : Keep (fun q => V.ownBlock = some q) w2 w3 := ⟨hgr.os, hgr.tape, hgr.output, by omega, fun q hq hne => old q hq hne⟩
  have hMl := h0 _ h.pc.om
  have hVM : ∀ q, O q → V.ownBlock = some q → False := fun q hq e => by have := hVl q e; have := h0 q hq; omega
  have hV' : V'.ownBlock ≠ some R := by
    rcases hat with e | e
    · rw [e]; exact h.rne
    · rw [e]; intro e2; injection e2 with e2; omega
  refine ⟨a1.block (old _ (by omega) (fun e => hVM _ h.pc.om e)) (old _ (by omega) h.rne), a2.keep k3 hVM, h.rR, a3.trans (k3.mono fun q hq e => .inr ⟨(hVl q e).1, hq⟩), ?_, ?_, fun x hx => ?_, hV'⟩
  · rw [List.length_append, cellsX_app]
    exact hrow
  · rw [List.map_append, h.xs, batQ_snoc, show hK f c.K i = f k from by unfold hK; rw [hk]; rfl, if_neg hf]
    rfl
  · rcases List.mem_append.1 hx with h1 | h1
    · refine (((a5 x h1).mono (P' := fun q => (w.heap.size ≤ q ∧ V'.ownBlock ≠ some q ∧ q ≠ R) ∧ V.ownBlock ≠ some q) fun q hq h2 => ⟨⟨h2.1, ?_, h2.2.2⟩, h2.2.1⟩).keep k3 (fun q h2 h3 => h2.2 h3)).mono fun q _ h2 => h2.1
      rcases hat with e | e
      · rw [e]; exact h2.2.1
      · rw [e]; intro e2; injection e2 with e2; omega
    · rw [List.mem_singleton.1 h1]
      refine ((hia.mono (P' := fun q => (w.heap.size ≤ q ∧ V'.ownBlock ≠ some q ∧ q ≠ R) ∧ V.ownBlock ≠ some q) fun q hq h2 => ?_).keep k3 (fun q h2 h3 => h2.2 h3)).mono fun q _ h2 => h2.1
      have h2 : w1.heap.size ≤ q := h2
      have hVq : V.ownBlock ≠ some q := fun e => by have := hVl q e; omega
      refine ⟨⟨by omega, ?_, by omega⟩, hVq⟩
      rcases hat with e | e
      · rw [e]; exact hVq
      · rw [e]; intro e2; injection e2 with e2; omega
end
end Go.Proofs.Yticcjelaenhigaa
