/- The document's cache: Clone: its header. -/
import Derived.Test.YticcjelaenhigaaRq
import Derived.Deep.RegionHeld3
namespace Go.Proofs.Yticcjelaenhigaa
open Go.RowKit Go.Lib

/-- The classes' cells, as a list. -/
theorem RcA.tabL {w : World} {O : Nat → Prop} {B t l i j ct cl ci cj : Nat} {V : Nat → Value} {c : Tc} (h : RcA w O B t l i j ct cl ci cj V c) :
    ∃ TC : List Value, TC.length = c.K.length * 3 ∧ (∀ u ∈ TC, u.oneCell' = true) ∧ (∀ W, Below w.heap.size w W → ∀ j u, TC[j]? = some u → W.cell? ((⟨t, 0, none⟩ : Addr).add j) = some u) ∧ ∀ x k, c.K[x]? = some k → TC[x * 3]? = some (.int .i64 k.s) ∧ (∃ g : Int, TC[x * 3 + 1]? = some (.int .i64 g)) ∧ TC[x * 3 + 2]? = some (.int .i64 k.b) := by
  have hcell : ∀ y, y < c.K.length * 3 → ∃ v : Int, w.cell? ⟨t, y, none⟩ = some (.int .i64 v) := fun y hy => by
    obtain ⟨k, hk⟩ : ∃ k, c.K[y / 3]? = some k := ⟨_, List.getElem?_eq_getElem (by omega)⟩
    obtain ⟨h1, ⟨g, h2⟩, h3⟩ := h.tab (y / 3) k hk
    have hm : y % 3 = 0 ∨ y % 3 = 1 ∨ y % 3 = 2 := by omega
    rcases hm with hm | hm | hm
    · exact ⟨k.s, by rw [show y = y / 3 * 3 from by omega]; exact h1⟩
    · exact ⟨g, by rw [show y = y / 3 * 3 + 1 from by omega]; exact h2⟩
    · exact ⟨k.b, by rw [show y = y / 3 * 3 + 2 from by omega]; exact h3⟩
  refine ⟨(List.range (c.K.length * 3)).map (fun y => (w.cell? ⟨t, y, none⟩).getD undef), by simp, fun u hu => ?_, fun W hb y u hu => ?_, fun x k hk => ?_⟩
  · obtain ⟨y, hy, rfl⟩ := List.mem_map.1 hu
    obtain ⟨v, hv⟩ := hcell y (List.mem_range.1 hy)
    rw [hv]; rfl
  · have hy : y < c.K.length * 3 := by have := (List.getElem?_eq_some_iff.1 hu).1; simpa using this
    obtain ⟨v, hv⟩ := hcell y hy
    rw [List.getElem?_map, List.getElem?_range hy] at hu
    injection hu with hu
    rw [Addr.add_lit, Nat.zero_add, (hb.cell (p := ⟨t, y, none⟩) (h.lt t h.ob.2.1)).trans hv, ← hu]
    dsimp only
    rw [hv]; rfl
  · have hx := (List.getElem?_eq_some_iff.1 hk).1
    obtain ⟨h1, ⟨g, h2⟩, h3⟩ := h.tab x k hk
    refine ⟨?_, ⟨g, ?_⟩, ?_⟩
    · rw [List.getElem?_map, List.getElem?_range (by omega)]; show some ((w.cell? ⟨t, x * 3, none⟩).getD undef) = _; rw [h1]; rfl
    · rw [List.getElem?_map, List.getElem?_range (by omega)]; show some ((w.cell? ⟨t, x * 3 + 1, none⟩).getD undef) = _; rw [h2]; rfl
    · rw [List.getElem?_map, List.getElem?_range (by omega)]; show some ((w.cell? ⟨t, x * 3 + 2, none⟩).getD undef) = _; rw [h3]; rfl
/-- What a slice holds is copied, as one step of a region that draws. -/
theorem step_appG {w W : World} {ops : Array Oper} {o : Oper} {a : Act} {K : Act → World → Prop} {Q : Exit → Act → World → Prop} {E : Prop} (tS tE : TypeId) (i0 : TypeInfo) (z : Value) (size bytes : Nat) (und : Try.prog.underlying tS = some (.slice tE)) (hi : Try.prog.info? tE = some i0) (hz0 : i0.zero = some z) (hz1 : i0.size = size) (hz2 : i0.bytes = bytes) (hzs : z.cells.size = size) (hsz : 0 < size) (hby : bytes ≤ 24)
    (hgd : o.guard = none) (s x : Operand) (ho : o.op = .call { callee := .builtin .append, args := #[s, x], argTypes := #[tS, tS] }) (hty : o.type = tS) (b0 : Nat) (hs : a.eval s = .slice (some ⟨b0, 0, none⟩) 0 0) (ad : Addr) (n c : Nat) (hx : a.eval x = .slice (some ad) n c)
    (cs : List Value) (hl : cs.length = n * size) (hc : ∀ j u, cs[j]? = some u → W.cell? (ad.add j) = some u) (h1 : ∀ u ∈ cs, u.oneCell' = true) (h0 : 0 < n) (h40 : n ≤ 40) (hE : W.heap[b0]? = some (.cells #[] tE (0, 0))) (hb : w.heap.size ≤ b0) (hB : Below w.heap.size w W)
    (hK : ∀ cap arr, (∀ (Y : World) (b : Nat), b = W.heap.size → Y.heap[b]? = some (.cells arr tE (0, 0)) → Y.ownsRow w.heap.size tE size (.slice (some ⟨b, 0, none⟩) n cap) n cs) → K (a.put o.dst (.slice (some ⟨W.heap.size, 0, none⟩) n cap)) (W.drew.alloc (.cells arr tE))) :
    if Region.wanted o (yielded ops a.tmps) = true then Oper.wp Try.prog o a W K Q else E := by
  have hbn : n * bytes ≤ 40 * 24 := Nat.mul_le_mul h40 hby
  have hr := run_append_grow (P := Try.prog) W tS tS tE i0 z und hi hz0 ⟨b0, 0, none⟩ 0 0 [] (by simp) (fun j v h => by simp at h) ad n c cs (by rw [hl, hz1]) hc (by omega) (by omega) (growslice_fits (by omega) (by rw [hz2, Nat.zero_add]; omega))
  obtain ⟨g, cap, w', hr2, h2, _, _, _⟩ := run_append_lies (P := Try.prog) W tS tS w.heap.size tE i0 z size bytes und hi hz0 hz1 hz2 hzs hsz (.slice (some ⟨b0, 0, none⟩) 0 0) 0 [] ⟨by simp, .inr ⟨b0, 0, #[], rfl, hb, hE, Nat.le_refl _, Nat.zero_le _, by simp, by simp⟩⟩ ad n c cs hl hc h1 h0 (by unfold maxLen; omega) (by rw [Nat.zero_add]; omega) hB.size _ rfl
  rw [hr] at hr2
  injection hr2 with e1 e2
  subst e2
  injection e1 with ea eb ec
  rw [← ea, ← ec] at h2
  rw [Nat.zero_add] at h2 hr
  exact step_run W hgd s x tS ho _ _ hs hx (by rw [hty]; exact hr) (hK _ _ fun Y b e hY => by subst e; exact own_at h2 (World.alloc_heap_new W.drew _) hY)

/-- A clone's header: the classes', the limits', the lows' blocks, no list yet. -/
structure NewG (w W : World) (TC LI LJ : List Value) (t i j B n cT cI cJ g : Nat) : Prop where
  hB : W.heap[B]? = some (.cells #[.slice (some ⟨t, 0, none⟩) n cT, .int .i64 g, .slice none 0 0, .slice (some ⟨i, 0, none⟩) n cI, .slice (some ⟨j, 0, none⟩) n cJ] 74 (0, 0))
  bel : Below w.heap.size w W
  rowT : W.ownsRow w.heap.size 56 3 (.slice (some ⟨t, 0, none⟩) n cT) n TC
  rowI : W.ownsRow w.heap.size 3 1 (.slice (some ⟨i, 0, none⟩) n cI) n LI
  rowJ : W.ownsRow w.heap.size 3 1 (.slice (some ⟨j, 0, none⟩) n cJ) n LJ
  lo : w.heap.size ≤ B
  ne : t ≠ B ∧ i ≠ B ∧ j ≠ B ∧ t ≠ i ∧ t ≠ j ∧ i ≠ j
def QC (w : World) (TC LI LJ : List Value) (B0 n g : Nat) (e : Exit) (a : Act) (W : World) : Prop :=
  e = .normal ∧ ∃ (t i j B cT cI cJ : Nat) (s8 s9 s10 s11 s12 s13 s14 s15 s16 s17 s18 s19 s20 s21 s22 s23 s24 s25 s26 s27 s28 s29 s30 s31 : Value), a = { tmps := #[.pointer (some ⟨B0, 0, none⟩), undef, .pointer none, .pointer (some ⟨B, 0, none⟩), undef, .pointer (some ⟨B0, 0, none⟩), .bool true, .bool false, s8, s9, s10, s11, s12, s13, s14, s15, s16, s17, s18, s19, s20, s21, s22, s23, s24, s25, s26, s27, s28, s29, s30, s31, undef, undef, undef, undef, undef, undef, undef, undef, undef, undef, undef, undef, undef, undef, undef, undef, undef, undef, undef, undef, undef, undef, undef, undef, undef, undef, undef, undef], defers := [] } ∧ NewG w W TC LI LJ t i j B n cT cI cJ g

/-- The lists so far. -/
structure CloI (w wr : World) (c : Tc) (TC : List Value) (B t i j n cT cI cJ k : Nat) (V2 : Value) (vs : List Value) : Prop where
  bel : Below w.heap.size w wr
  rowT : wr.ownsRow w.heap.size 56 3 (.slice (some ⟨t, 0, none⟩) n cT) n TC
  rowI : wr.ownsRow w.heap.size 3 1 (.slice (some ⟨i, 0, none⟩) n cI) n (c.K.map (fun k => Value.int .i64 (k.lim : Nat)))
  rowJ : wr.ownsRow w.heap.size 3 1 (.slice (some ⟨j, 0, none⟩) n cJ) n (c.K.map (fun k => Value.int .i64 (k.lo : Nat)))
  hd : Cl wr B 5 (dF c (.slice (some ⟨t, 0, none⟩) n cT) V2 (.slice (some ⟨i, 0, none⟩) n cI) (.slice (some ⟨j, 0, none⟩) n cJ))
  rowL : wr.ownsRow w.heap.size 33 1 V2 k vs
  each : ∀ x q, x < k → c.K[x]? = some q → ∃ A cp, vs[x]? = some (.slice A q.l.length cp) ∧ q.l.length ≤ cp ∧ cp ≤ maxLen ∧ IAt (fun g => w.heap.size ≤ g ∧ g ≠ B ∧ g ≠ t ∧ g ≠ i ∧ g ≠ j ∧ V2.ownBlock ≠ some g) wr A q.l
  nv : ∀ q, V2.ownBlock = some q → q ≠ B ∧ q ≠ t ∧ q ≠ i ∧ q ≠ j
  lo : w.heap.size ≤ B
  ne : t ≠ B ∧ i ≠ B ∧ j ≠ B ∧ t ≠ i ∧ t ≠ j ∧ i ≠ j
theorem dF_set (c : Tc) (T V2 V5 I J : Value) : ∀ y, y < 5 → (if y = 2 then V5 else dF c T V2 I J y) = dF c T V5 I J y := fun y hy => by
  have : y = 0 ∨ y = 1 ∨ y = 2 ∨ y = 3 ∨ y = 4 := by omega
  rcases this with rfl | rfl | rfl | rfl | rfl <;> rfl
section
variable {w wr w4 w5 : World} {c : Tc} {TC : List Value} {B t i j n cT cI cJ k g4 cap4 g5 cap5 : Nat} {V2 : Value} {vs : List Value} {q : Kl}
theorem NewG.clo (h : NewG w wr TC (c.K.map (fun k => Value.int .i64 (k.lim : Nat))) (c.K.map (fun k => Value.int .i64 (k.lo : Nat))) t i j B n cT cI cJ c.g) : CloI w wr c TC B t i j n cT cI cJ 0 (.slice none 0 0) [] :=
  ⟨h.bel, h.rowT, h.rowI, h.rowJ, ⟨fun y hy => by
    have : y = 0 ∨ y = 1 ∨ y = 2 ∨ y = 3 ∨ y = 4 := by omega
    rcases this with rfl | rfl | rfl | rfl | rfl <;> exact cell_block h.hB rfl, fun y _ => free_block h.hB, (Array.getElem?_eq_some_iff.1 h.hB).1⟩, World.ownsRow_nil _ _ _ _, fun x q hx => absurd hx (Nat.not_lt_zero _), fun q hq => (by cases hq), h.lo, h.ne⟩
theorem CloI.step (h : CloI w wr c TC B t i j n cT cI cJ k V2 vs) (hk : c.K[k]? = some q) (h4 : AdF wr q.l w4 g4 q.l.length cap4) (hin : ∀ a ∈ q.l, InR a) {o : Obj}
    (hrow : w5.ownsRow w.heap.size 33 1 (.slice (some ⟨g5, 0, none⟩) (k + 1) cap5) (k + 1) (vs ++ [.slice (some ⟨g4, 0, none⟩) q.l.length cap4])) (hgr : (w4.alloc o).grownBy w5 V2.ownBlock) (hat : V2.ownBlock = some g5 ∨ g5 = w4.heap.size + 1) :
    CloI w (w5.setCell ⟨B, 2, none⟩ (.slice (some ⟨g5, 0, none⟩) (k + 1) cap5)) c TC B t i j n cT cI cJ (k + 1) (.slice (some ⟨g5, 0, none⟩) (k + 1) cap5) (vs ++ [.slice (some ⟨g4, 0, none⟩) q.l.length cap4]) := by
  obtain ⟨b1, b2, b3, b4⟩ := own_bd h4.1
  have s0 := h.bel.size
  have s4 := h4.2.size
  have s5 := hgr.size
  simp only [World.size_alloc] at s5
  have hBl := h.hd.lt
  have lt' : ∀ {e sz N : Nat} {v : Value} {xs : List Value}, wr.ownsRow w.heap.size e sz v N xs → ∀ b, v.ownBlock = some b → w.heap.size ≤ b ∧ b < wr.heap.size := fun hr b hb => hr.lt b hb
  have ht := lt' h.rowT t rfl
  have hi := lt' h.rowI i rfl
  have hj := lt' h.rowJ j rfl
  obtain ⟨n1, n2, n3, n4, n5, n6⟩ := h.ne
  have k45 : Keep (fun b => V2.ownBlock = some b) w4 w5 := ⟨hgr.os, hgr.tape, hgr.output, by omega, fun b hb hne => (hgr.block b (by simp; omega) (fun e => hne e.symm)).trans (Below.heap_alloc _ _ _ hb)⟩
  have k5 : Keep (fun b => V2.ownBlock = some b) wr w5 := (Keep.of (O := fun b => V2.ownBlock = some b) h4.2).trans (k45.mono fun b _ e => .inl e)
  have kB : Keep (fun b => b = B) w5 (w5.setCell ⟨B, 2, none⟩ (.slice (some ⟨g5, 0, none⟩) (k + 1) cap5)) := keep_set (F := fun b => b = B) (Keep.refl _ _) rfl _
  have k6 : Keep (fun b => V2.ownBlock = some b ∨ b = B) wr (w5.setCell ⟨B, 2, none⟩ (.slice (some ⟨g5, 0, none⟩) (k + 1) cap5)) := (k5.mono fun b _ e => .inl e).trans (kB.mono fun b _ e => .inl (.inr e))
  have old : ∀ b, b < wr.heap.size → V2.ownBlock ≠ some b → b ≠ B → (w5.setCell ⟨B, 2, none⟩ (.slice (some ⟨g5, 0, none⟩) (k + 1) cap5)).heap[b]? = wr.heap[b]? := fun b hb h1 h2 => k6.block b hb (fun e => by rcases e with e | e; exact h1 e; exact h2 e)
  have hg5 : g5 ≠ B ∧ g5 ≠ t ∧ g5 ≠ i ∧ g5 ≠ j ∧ g5 ≠ g4 ∧ w.heap.size ≤ g5 := by
    rcases hat with e | e
    · have := h.nv g5 e
      have := lt' h.rowL g5 e
      exact ⟨by omega, by omega, by omega, by omega, by omega, by omega⟩
    · exact ⟨by omega, by omega, by omega, by omega, by omega, by omega⟩
  have hlen : vs.length = k := by have := h.rowL.1; omega
  refine ⟨h.bel.trans (k6.below (N := w.heap.size) s0 (fun b e => by
    rcases e with e | e
    · exact (lt' h.rowL b e).1
    · rw [e]; exact h.lo)), own_keep h.rowT fun b hb => ?_, own_keep h.rowI fun b hb => ?_, own_keep h.rowJ fun b hb => ?_, ?_, own_keep hrow fun b hb => ?_, fun x q' hx hq => ?_, fun b hb => ?_, h.lo, h.ne⟩
  · cases hb
    exact old t ht.2 (fun e => (h.nv t e).2.1 rfl) n1
  · cases hb
    exact old i hi.2 (fun e => (h.nv i e).2.2.1 rfl) n2
  · cases hb
    exact old j hj.2 (fun e => (h.nv j e).2.2.2 rfl) n3
  · exact ((h.hd.of_block (k5.block B hBl (fun e => (h.nv B e).1 rfl))).set 2 _).congr (dF_set c _ _ _ _ _)
  · cases hb
    exact Below.heap_setCell _ _ _ _ hg5.1
  · by_cases e : x = k
    · subst e
      rw [hk] at hq
      injection hq with hq
      subst hq
      refine ⟨some ⟨g4, 0, none⟩, cap4, by rw [List.getElem?_append_right (by omega), hlen, Nat.sub_self]; rfl, b3, b4, (((iat_own h4.1 hin).keep k45 (fun g h1 h2 => ?_)).keep kB (fun g h1 h2 => ?_)).mono fun g _ h1 => ?_⟩
      · have h1 : g = g4 := h1
        have := (lt' h.rowL g h2).2
        omega
      · have h1 : g = g4 := h1
        have h2 : g = B := h2
        omega
      · have h1 : g = g4 := h1
        exact ⟨by omega, by omega, by omega, by omega, by omega, fun e => hg5.2.2.2.2.1 (by injection e with e; have e : g5 = g := e; omega)⟩
    · obtain ⟨A, cp, e1, e2, e3, e4⟩ := h.each x q' (by omega) hq
      refine ⟨A, cp, by rw [List.getElem?_append_left (by omega)]; exact e1, e2, e3, ((e4.mono (P' := fun g => (w.heap.size ≤ g ∧ g ≠ B ∧ g ≠ t ∧ g ≠ i ∧ g ≠ j ∧ g5 ≠ g) ∧ V2.ownBlock ≠ some g) fun g hg h1 => ⟨⟨h1.1, h1.2.1, h1.2.2.1, h1.2.2.2.1, h1.2.2.2.2.1, fun e => ?_⟩, h1.2.2.2.2.2⟩).keep k6 (fun g h1 h2 => ?_)).mono fun g _ h1 => ⟨h1.1.1, h1.1.2.1, h1.1.2.2.1, h1.1.2.2.2.1, h1.1.2.2.2.2.1, fun e => h1.1.2.2.2.2.2 (by injection e)⟩⟩
      · rcases hat with e9 | e9
        · exact h1.2.2.2.2.2 (by rw [e9, e])
        · omega
      · rcases h2 with h2 | h2
        · exact h1.2 h2
        · exact h1.1.2.1 h2
  · cases hb
    exact ⟨hg5.1, hg5.2.1, hg5.2.2.1, hg5.2.2.2.1⟩
theorem CloI.done {O : Nat → Prop} {B0 t0 l0 i0 j0 ct cl ci cj : Nat} {V : Nat → Value} (h : CloI w wr c TC B t i j n cT cI cJ n V2 vs) (h0 : RcA w O B0 t0 l0 i0 j0 ct cl ci cj V c) (hn : c.K.length = n)
    (hTC : ∀ x k, c.K[x]? = some k → TC[x * 3]? = some (.int .i64 k.s) ∧ (∃ g : Int, TC[x * 3 + 1]? = some (.int .i64 g)) ∧ TC[x * 3 + 2]? = some (.int .i64 k.b)) :
    TOb true wr (Nw w wr) (.pointer (some ⟨B, 0, none⟩)) (some c) := by
  have hpos : 0 < n := by rw [← hn]; exact h0.wf.n1
  obtain ⟨l, cL, rfl, l1, l2⟩ := h.rowL.form hpos
  obtain ⟨n1, n2, n3, n4, n5, n6⟩ := h.ne
  obtain ⟨m1, m2, m3, m4⟩ := h.nv l rfl
  have capOf : ∀ {e sz : Nat} {b cp : Nat} {xs : List Value}, wr.ownsRow w.heap.size e sz (.slice (some ⟨b, 0, none⟩) n cp) n xs → w.heap.size ≤ b ∧ b < wr.heap.size ∧ n ≤ cp ∧ cp ≤ maxLen := fun hr => by
    rcases hr.2 with ⟨e, _⟩ | ⟨q, cp, cur, e, q1, q2, q3, q4, _⟩
    · cases e
    · cases e
      exact ⟨q1, (Array.getElem?_eq_some_iff.1 q2).1, q3, q4⟩
  have freeOf : ∀ {e sz : Nat} {b cp y : Nat} {xs : List Value}, wr.ownsRow w.heap.size e sz (.slice (some ⟨b, 0, none⟩) n cp) n xs → wr.frozen? ⟨b, y, none⟩ = false := fun hr => by
    rcases hr.2 with ⟨e, _⟩ | ⟨q, cp, cur, e, q1, q2, _⟩
    · cases e
    · cases e
      exact free_block q2
  have cellOf : ∀ {e sz : Nat} {b cp : Nat} {xs : List Value}, wr.ownsRow w.heap.size e sz (.slice (some ⟨b, 0, none⟩) n cp) n xs → ∀ y u, xs[y]? = some u → wr.cell? ⟨b, y, none⟩ = some u := fun hr y u hu => by
    have := hr.cells rfl y u hu
    rwa [Addr.add_lit, Nat.zero_add] at this
  obtain ⟨t1, t2, t3, t4⟩ := capOf h.rowT
  obtain ⟨i1, i2, i3, i4⟩ := capOf h.rowI
  obtain ⟨j1, j2, j3, j4⟩ := capOf h.rowJ
  obtain ⟨q1, q2, q3, q4⟩ := capOf h.rowL
  have hlen : vs.length = n := by have := h.rowL.1; omega
  refine ⟨B, t, l, i, j, cT, cL, cI, cJ, fun x => (vs[x]?).getD undef, rfl, ⟨h0.wf, by rw [hn]; exact h.hd, by rw [hn]; exact ⟨t3, q3, i3, j3, t4, q4, i4, j4⟩, ⟨n1, m1, n2, n3, fun e => m2 e.symm, n4, n5, m3, m4, n6⟩, fun x k hx => ?_, ?_, ?_, ?_, fun x k hx => ?_, ⟨⟨h.lo, h.hd.lt⟩, ⟨t1, t2⟩, ⟨q1, q2⟩, ⟨i1, i2⟩, ⟨j1, j2⟩⟩, fun g hg => hg.2⟩⟩
  · obtain ⟨e1, ⟨g, e2⟩, e3⟩ := hTC x k hx
    exact ⟨cellOf h.rowT _ _ e1, ⟨g, cellOf h.rowT _ _ e2⟩, cellOf h.rowT _ _ e3⟩
  · rw [hn]
    refine ⟨fun x hx => cellOf h.rowI x _ ?_, fun x _ => freeOf h.rowI, i2⟩
    rw [List.getElem?_map, List.getElem?_eq_getElem (by omega)]
    rfl
  · rw [hn]
    refine ⟨fun x hx => cellOf h.rowJ x _ ?_, fun x _ => freeOf h.rowJ, j2⟩
    rw [List.getElem?_map, List.getElem?_eq_getElem (by omega)]
    rfl
  · rw [hn]
    refine ⟨fun x hx => cellOf h.rowL x _ ?_, fun x _ => freeOf h.rowL, q2⟩
    rw [List.getElem?_eq_getElem (by omega)]
    rfl
  · have hxl := (List.getElem?_eq_some_iff.1 hx).1
    obtain ⟨A, cp, e1, e2, e3, e4⟩ := h.each x k (by omega) hx
    have hl : ∀ g, w.heap.size ≤ g ∧ g ≠ B ∧ g ≠ t ∧ g ≠ i ∧ g ≠ j ∧ (Value.slice (some ⟨l, 0, none⟩) n cL).ownBlock ≠ some g → g ≠ l := fun g hg e => hg.2.2.2.2.2 (by rw [e]; rfl)
    exact ⟨A, cp, by show (vs[x]?).getD undef = _; rw [e1]; rfl, e2, e3, e4.mono fun g hg h1 => ⟨⟨h1.1, hg⟩, h1.2.1, hl g h1, h1.2.2.2.1, h1.2.2.2.2.1⟩⟩
end

set_option linter.unusedSimpArgs false in
set_option maxRecDepth 100000 in
set_option maxHeartbeats 32000000 in
theorem dClone_yes {O : Nat → Prop} {B0 t0 l0 i0 j0 ct cl ci cj : Nat} {V : Nat → Value} {c : Tc} {w : World} (h : RcA w O B0 t0 l0 i0 j0 ct cl ci cj V c) : Calls Try.prog 19 #[.pointer (some ⟨B0, 0, none⟩)] w (ClnP true w (some c)) := by
  have HM := Lib.hid (dmade_yes h)
  obtain ⟨y1, e1, e2, e3, e4⟩ := info_parts infoCs
  obtain ⟨y2, f1, f2, f3, f4⟩ := info_parts info3
  obtain ⟨n, hn⟩ : ∃ n, c.K.length = n := ⟨_, rfl⟩
  have h0 : 0 < n := by rw [← hn]; exact h.wf.n1
  have h40 : n ≤ 40 := by rw [← hn]; exact h.wf.n40
  have HC := Lib.hid (fun (W : World) (hb : Below w.heap.size w W) => show W.cell? ⟨B0, 0, none⟩ = some (.slice (some ⟨t0, 0, none⟩) n ct) ∧ W.cell? ⟨B0, 1, none⟩ = some (.int .i64 c.g) ∧ W.cell? ⟨B0, 3, none⟩ = some (.slice (some ⟨i0, 0, none⟩) n ci) ∧ W.cell? ⟨B0, 4, none⟩ = some (.slice (some ⟨j0, 0, none⟩) n cj) from by
    have := (h.keep (Keep.of (O := fun _ => False) hb) (fun _ _ h => h)).cells
    rw [hn] at this
    exact ⟨this.1, this.2.1, this.2.2.2.1, this.2.2.2.2⟩)
  obtain ⟨TC, hTC⟩ : ∃ TC : List Value, TC.length = n * 3 ∧ (∀ u ∈ TC, u.oneCell' = true) ∧ (∀ W, Below w.heap.size w W → ∀ j u, TC[j]? = some u → W.cell? ((⟨t0, 0, none⟩ : Addr).add j) = some u) ∧ ∀ x k, c.K[x]? = some k → TC[x * 3]? = some (.int .i64 k.s) ∧ (∃ g : Int, TC[x * 3 + 1]? = some (.int .i64 g)) ∧ TC[x * 3 + 2]? = some (.int .i64 k.b) := by
    rw [← hn]
    exact h.tabL
  have HTC := Lib.hid hTC
  have HLI := Lib.hid (show ∀ W, Below w.heap.size w W → ∀ j u, (c.K.map (fun k => Value.int .i64 (k.lim : Nat)))[j]? = some u → W.cell? ((⟨i0, 0, none⟩ : Addr).add j) = some u from fun W hb j u hu => by
    rw [List.getElem?_map] at hu
    cases hk : c.K[j]? with
    | none => rw [hk] at hu; cases hu
    | some k =>
      rw [hk] at hu
      injection hu with hu
      subst hu
      rw [Addr.add_lit, Nat.zero_add]
      exact (h.keep (Keep.of (O := fun _ => False) hb) (fun _ _ h => h)).limc hk)
  have HLJ := Lib.hid (show ∀ W, Below w.heap.size w W → ∀ j u, (c.K.map (fun k => Value.int .i64 (k.lo : Nat)))[j]? = some u → W.cell? ((⟨j0, 0, none⟩ : Addr).add j) = some u from fun W hb j u hu => by
    rw [List.getElem?_map] at hu
    cases hk : c.K[j]? with
    | none => rw [hk] at hu; cases hu
    | some k =>
      rw [hk] at hu
      injection hu with hu
      subst hu
      rw [Addr.add_lit, Nat.zero_add]
      exact (h.keep (Keep.of (O := fun _ => False) hb) (fun _ _ h => h)).lowc hk)
  have HL1 := Lib.hid (show ∀ u ∈ c.K.map (fun k => Value.int .i64 (k.lim : Nat)), u.oneCell' = true from fun u hu => by obtain ⟨k, _, rfl⟩ := List.mem_map.1 hu; rfl)
  have HL2 := Lib.hid (show ∀ u ∈ c.K.map (fun k => Value.int .i64 (k.lo : Nat)), u.oneCell' = true from fun u hu => by obtain ⟨k, _, rfl⟩ := List.mem_map.1 hu; rfl)
  have HL3 := Lib.hid (show (c.K.map (fun k => Value.int .i64 (k.lim : Nat))).length = n * 1 ∧ (c.K.map (fun k => Value.int .i64 (k.lo : Nat))).length = n * 1 from ⟨by rw [List.length_map, hn, Nat.mul_one], by rw [List.length_map, hn, Nat.mul_one]⟩)
  have HH := Lib.hid (And.intro h hn)
  obtain ⟨LI, hLI⟩ : ∃ LI, c.K.map (fun k => Value.int .i64 (k.lim : Nat)) = LI := ⟨_, rfl⟩
  obtain ⟨LJ, hLJ⟩ : ∃ LJ, c.K.map (fun k => Value.int .i64 (k.lo : Nat)) = LJ := ⟨_, rfl⟩
  rw [hLI] at HLI HL1 HL3
  rw [hLJ] at HLJ HL2 HL3
  have HLQ := Lib.hid (And.intro hLI hLJ)
  obtain ⟨gg, hgg⟩ : ∃ gg, c.g = gg := ⟨_, rfl⟩
  have HGG := Lib.hid hgg
  rw [hgg] at HC
  obtain ⟨c0, c1, c3, c4⟩ := HC.out _ (Below.refl _ w)
  clear h hn hTC hLI hLJ hgg
  go_enter Try.func19, Try.ntmps19
  go_wp2_with (go_at_call 43; refine HM.out.mono ?_; rintro e w1 ⟨rfl, rfl⟩)
  refine Code.wp_mono (Q := QC w TC LI LJ B0 n gg) ?_ ?_
  · rintro e a' W ⟨rfl, t, i, j, B, cT, cI, cJ, s8, s9, s10, s11, s12, s13, s14, s15, s16, s17, s18, s19, s20, s21, s22, s23, s24, s25, s26, s27, s28, s29, s30, s31, rfl, hG⟩
    have HG0 := Lib.hid (show CloI w W c TC B t i j n cT cI cJ 0 (.slice none 0 0) [] from by
      rw [← HLQ.out.1, ← HLQ.out.2, ← HGG.out] at hG
      exact hG.clo)
    obtain ⟨z0, zi, zz0, zz1, zz2⟩ := info_parts (show (Try.prog.info? 33).map (fun i => (i.zero, i.size, i.bytes)) = some (some (.slice none 0 0), 1, 24) from by kernel_rfl)
    have undL : Try.prog.underlying 72 = some (.slice 33) := by kernel_rfl
    clear hG c0 c1 c3 c4
    go_wp2
    go_loopw [4] (fun iv wr => ∃ (k : Nat) (V2 : Value) (vs : List Value), k ≤ n ∧ iv = .int .i64 k ∧ CloI w wr c TC B t i j n cT cI cJ k V2 vs) (fun iv _ => n - (intOf iv).toNat)
    case atStart => exact ⟨0, _, _, Nat.zero_le _, rfl, HG0.out⟩
    case round =>
      clear HG0
      obtain ⟨k, V2, vs, hk, rfl, hL⟩ := hrel
      have HL := Lib.hid hL
      obtain ⟨A2, c2, rfl⟩ := owns_form hL.rowL
      have hr := HH.out.1.keep (Keep.of (O := fun _ => False) hL.bel) (fun _ _ h => h)
      have b2 := hr.cells.2.2.1
      rw [HH.out.2] at b2
      by_cases hlt : k < n
      · obtain ⟨q, hq⟩ : ∃ q, c.K[k]? = some q := ⟨_, List.getElem?_eq_getElem (by have := HH.out.2; omega)⟩
        obtain ⟨A9, cp9, c7, _, hcp9, hcm9, hia⟩ := hr.listc hq
        have hql := (HH.out.1.wf.k q (List.mem_of_getElem? hq)).len
        have hlB0 := Nat.lt_of_lt_of_le (HH.out.1.lt B0 HH.out.1.ob.1) hL.bel.size
        have hll0 := Nat.lt_of_lt_of_le (HH.out.1.lt l0 HH.out.1.ob.2.2.1) hL.bel.size
        have hwB0 := HH.out.1.lt B0 HH.out.1.ob.1
        have hwl0 := HH.out.1.lt l0 HH.out.1.ob.2.2.1
        obtain ⟨m, hm⟩ : ∃ m, q.l.length = m := ⟨_, rfl⟩
        have HM := Lib.hid hm
        rw [hm] at c7 hcp9 hql
        have HQ := Lib.hid (And.intro hq hia.inr)
        have d2 : wr.cell? ⟨B, 2, none⟩ = some (.slice A2 k c2) := hL.hd.cell 2 (by omega)
        have f2 := hL.hd.free 2 (by omega)
        have HDC := Lib.hid (fun w' (hb : Below wr.heap.size wr w') => show w'.cell? ⟨B, 2, none⟩ = some (.slice A2 k c2) ∧ w'.frozen? ⟨B, 2, none⟩ = false ∧ w'.cell? ⟨B0, 2, none⟩ = some (.slice (some ⟨l0, 0, none⟩) n cl) ∧ w'.cell? ⟨l0, k, none⟩ = some (.slice A9 m cp9) from
          ⟨(hb.cell (p := ⟨B, 2, none⟩) hL.hd.lt).trans d2, by rw [World.frozen?_of_block (a := ⟨B, 2, none⟩) (hb.block _ hL.hd.lt)]; exact f2, (hb.cell (p := ⟨B0, 2, none⟩) hlB0).trans b2, (hb.cell (p := ⟨l0, k, none⟩) hll0).trans c7⟩)
        have HD5 := Lib.hid (fun (w4 w5 : World) (hb : Below wr.heap.size wr w4) (hgr : w4.grownBy w5 (Value.slice A2 k c2).ownBlock) => show w5.cell? ⟨B, 2, none⟩ = some (.slice A2 k c2) ∧ w5.frozen? ⟨B, 2, none⟩ = false ∧ w5.cell? ⟨B0, 2, none⟩ = some (.slice (some ⟨l0, 0, none⟩) n cl) ∧ w5.cell? ⟨l0, k, none⟩ = some (.slice A9 m cp9) from by
          have h1 := hgr.block B (Nat.lt_of_lt_of_le hL.hd.lt hb.size) (fun e => (hL.nv B e.symm).1 rfl)
          have h2 := hgr.block B0 (Nat.lt_of_lt_of_le hlB0 hb.size) (fun e => by have := (hL.rowL.lt B0 e.symm).1; omega)
          have h3 := hgr.block l0 (Nat.lt_of_lt_of_le hll0 hb.size) (fun e => by have := (hL.rowL.lt l0 e.symm).1; omega)
          have hd := HDC.out _ hb
          exact ⟨(World.cell?_of_block (a := ⟨B, 2, none⟩) h1).trans hd.1, (World.frozen?_of_block (a := ⟨B, 2, none⟩) h1).trans hd.2.1, (World.cell?_of_block (a := ⟨B0, 2, none⟩) h2).trans hd.2.2.1, (World.cell?_of_block (a := ⟨l0, k, none⟩) h3).trans hd.2.2.2⟩)
        have HROW := Lib.hid (fun (w' : World) (hb : Below wr.heap.size wr w') => show w'.ownsRow w.heap.size 33 1 (.slice A2 k c2) k vs from own_keep hL.rowL fun b hb2 => hb.block b (hL.rowL.lt b hb2).2)
        have hbr : Below wr.heap.size wr wr.drew := belowN (Below.refl _ wr) 1
        obtain ⟨W0', hW0'⟩ : ∃ W0', wr.drew.alloc (.cells #[] 3) = W0' := ⟨_, rfl⟩
        have hb0 : Below wr.heap.size wr W0' := by rw [← hW0']; exact hbr.alloc hbr.size _
        have HE0 := Lib.hid (show W0'.heap[wr.heap.size]? = some (.cells #[] 3 (0, 0)) from by rw [← hW0']; exact World.alloc_heap_new wr.drew _)
        have HB0 := Lib.hid hb0
        have HIA := Lib.hid (hia.below hb0)
        have HWS := Lib.hid hL.bel.size
        obtain ⟨p2, p3, p4, p5⟩ := HDC.out _ hb0
        have hn2 : (k : Int) < (n : Int) := by omega
        have hn0 : (0 : Int) ≤ (k : Int) := by omega
        clear hL hr hq hia hm hbr hb0 hlB0 hll0 hwB0 hwl0 f2
        go_wp2_with fail
        go_region_law
          (first
          | (refine step_copy (w := wr) (W := W0') (by rfl) (.tmp 46) (.tmp 53) (by rfl) (by rfl) A9 m cp9 wr.heap.size (by rfl) (by rfl) HE0.out (Nat.le_refl _) HB0.out q.l HM.out HIA.out (by omega) ?_; intro g4 cap4 w4 h4 _ _; obtain ⟨v2, v3, v4, v5⟩ := HDC.out _ h4.2; obtain ⟨u2, u3, u4, u5⟩ := HDC.out _ (h4.2.alloc h4.2.size (.cells #[.slice (some ⟨g4, 0, none⟩) m cap4] 33)); have H4 := Lib.hid h4; clear h4)
          | (refine step_append_lies (w4.alloc (.cells #[.slice (some ⟨g4, 0, none⟩) m cap4] 33)) (by rfl) (.tmp 45) (.tmp 55) 72 (by rfl) w.heap.size 33 z0 (.slice none 0 0) 1 24 undL zi zz0 zz1 zz2 (by rfl) (by decide) (.slice A2 k c2) k vs (by rfl) (HROW.out _ (H4.out.2.alloc H4.out.2.size _)) ⟨w4.heap.size, 0, none⟩ 1 1 [.slice (some ⟨g4, 0, none⟩) m cap4] (by rfl) (by rfl) (fun y u hu => by rw [Addr.add_lit, Nat.zero_add]; exact cell_block (heap_alloc_new w4 _) (by simpa using hu)) (by simp [Value.oneCell']) (by decide) (by unfold maxLen; omega) (by omega) (Nat.le_trans HWS.out (H4.out.2.alloc H4.out.2.size _).size) _ (by rfl) ?_; intro g5 cap5 w5 hown hgrow hat _; obtain ⟨x2, x3, x4, x5⟩ := HD5.out _ _ (H4.out.2.alloc H4.out.2.size _) hgrow; have HA5 := Lib.hid (And.intro hown (And.intro hgrow hat)); clear hown hgrow hat))
        all_goals
          go_wp2
          have h4 := H4.out
          rw [← HM.out] at h4
          have h5 := HA5.out
          rw [← HM.out] at h5
          have HF := Lib.hid (HL.out.step HQ.out.1 h4 HQ.out.2 h5.1 h5.2.1 (h5.2.2.imp id (fun e => by rw [e]; simp)))
          clear h4 h5
          go_roundw
          case rel => exact ⟨k + 1, _, _, by omega, by go_num, HF.out⟩
          case measure => simp [intOf]; omega
      · obtain rfl : k = n := by omega
        clear hL hr
        go_wp2_with fail
        go_ret
        exact ⟨_, rfl, HL.out.done HH.out.1 HH.out.2 HTC.out.2.2.2, ⟨(fun e => nomatch e), (fun e => nomatch e)⟩, HL.out.bel⟩
  · go_region_held3 (fun w' => w'.cell? ⟨B0, 0, none⟩ = some (.slice (some ⟨t0, 0, none⟩) n ct) ∧ w'.cell? ⟨B0, 1, none⟩ = some (.int .i64 gg) ∧ w'.cell? ⟨B0, 3, none⟩ = some (.slice (some ⟨i0, 0, none⟩) n ci) ∧ w'.cell? ⟨B0, 4, none⟩ = some (.slice (some ⟨j0, 0, none⟩) n cj))
      (exact HC.out _ (by repeat (first | exact Below.refl _ _ | refine bAl ?_ _ | refine bDr ?_)))
      (first
        | (refine step_appG (w := w) 22 56 y1 _ 3 24 undCs e1 e2 e3 e4 rfl (by decide) (by decide) (by rfl) (.tmp 8) (.tmp 12) (by rfl) (by rfl) _ (by rfl) ⟨t0, 0, none⟩ n ct (by rfl) TC HTC.out.1 (HTC.out.2.2.1 _ (by repeat (first | exact Below.refl _ _ | refine bAl ?_ _ | refine bDr ?_))) HTC.out.2.1 h0 h40 (by simp only [hGet, hDr, hSz, Nat.add_assoc, Nat.reduceAdd, Nat.reduceEqDiff, Nat.add_eq_left, Nat.left_eq_add, Nat.add_left_cancel_iff, ↓reduceIte] <;> rfl) (by omega) (by repeat (first | exact Below.refl _ _ | refine bAl ?_ _ | refine bDr ?_)) ?_; intro capT arrT hr; have HRT := Lib.hid hr; clear hr)
        | (refine step_appG (w := w) 33 3 y2 _ 1 8 undInts f1 f2 f3 f4 rfl (by decide) (by decide) (by rfl) (.tmp 18) (.tmp 22) (by rfl) (by rfl) _ (by rfl) ⟨i0, 0, none⟩ n ci (by rfl) LI HL3.out.1 (HLI.out _ (by repeat (first | exact Below.refl _ _ | refine bAl ?_ _ | refine bDr ?_))) HL1.out h0 h40 (by simp only [hGet, hDr, hSz, Nat.add_assoc, Nat.reduceAdd, Nat.reduceEqDiff, Nat.add_eq_left, Nat.left_eq_add, Nat.add_left_cancel_iff, ↓reduceIte] <;> rfl) (by omega) (by repeat (first | exact Below.refl _ _ | refine bAl ?_ _ | refine bDr ?_)) ?_; intro capI arrI hr; have HRI := Lib.hid hr; clear hr)
        | (refine step_appG (w := w) 33 3 y2 _ 1 8 undInts f1 f2 f3 f4 rfl (by decide) (by decide) (by rfl) (.tmp 24) (.tmp 28) (by rfl) (by rfl) _ (by rfl) ⟨j0, 0, none⟩ n cj (by rfl) LJ HL3.out.2 (HLJ.out _ (by repeat (first | exact Below.refl _ _ | refine bAl ?_ _ | refine bDr ?_))) HL2.out h0 h40 (by simp only [hGet, hDr, hSz, Nat.add_assoc, Nat.reduceAdd, Nat.reduceEqDiff, Nat.add_eq_left, Nat.left_eq_add, Nat.add_left_cancel_iff, ↓reduceIte] <;> rfl) (by omega) (by repeat (first | exact Below.refl _ _ | refine bAl ?_ _ | refine bDr ?_)) ?_; intro capJ arrJ hr; have HRJ := Lib.hid hr; clear hr))
    all_goals
      exact ⟨rfl, _, _, _, _, capT, capI, capJ, _, _, _, _, _, _, _, _, _, _, _, _, _, _, _, _, _, _, _, _, _, _, _, _, rfl, ⟨(by simp only [hGet, hDr, hSz, Nat.add_assoc, Nat.reduceAdd, Nat.reduceEqDiff, Nat.add_eq_left, Nat.left_eq_add, Nat.add_left_cancel_iff, ↓reduceIte] <;> rfl), by repeat (first | exact Below.refl _ _ | refine bAl ?_ _ | refine bDr ?_), HRT.out _ _ (by simp only [hDr, hSz, Nat.add_assoc, Nat.reduceAdd]) (by simp only [hGet, hDr, hSz, Nat.add_assoc, Nat.reduceAdd, Nat.reduceEqDiff, Nat.add_eq_left, Nat.left_eq_add, Nat.add_left_cancel_iff, ↓reduceIte] <;> rfl), HRI.out _ _ (by simp only [hDr, hSz, Nat.add_assoc, Nat.reduceAdd]) (by simp only [hGet, hDr, hSz, Nat.add_assoc, Nat.reduceAdd, Nat.reduceEqDiff, Nat.add_eq_left, Nat.left_eq_add, Nat.add_left_cancel_iff, ↓reduceIte] <;> rfl), HRJ.out _ _ (by simp only [hDr, hSz, Nat.add_assoc, Nat.reduceAdd]) (by simp only [hGet, hDr, hSz, Nat.add_assoc, Nat.reduceAdd, Nat.reduceEqDiff, Nat.add_eq_left, Nat.left_eq_add, Nat.add_left_cancel_iff, ↓reduceIte] <;> rfl), (by (try simp only [hDr, hSz]); omega), (by (try simp only [hDr, hSz]); omega)⟩⟩

set_option maxHeartbeats 1000000 in
theorem dClone_any {O : Nat → Prop} {v : Value} {om : Option Tc} {w : World} (h : TOb true w O v om) : Calls Try.prog 19 #[v] w (ClnP true w om) := by
  cases om with
  | none =>
    obtain rfl := dno h
    have HM := Lib.hid (dmade_no w)
    clear h
    go_enter Try.func19, Try.ntmps19
    go_wp2_with (go_at_call 43; refine HM.out.mono ?_; rintro e w1 ⟨rfl, rfl⟩)
    go_ret
    exact cln_no (Below.refl _ _)
  | some c =>
    obtain ⟨B, t, l, i, j, ct, cl, ci, cj, V, rfl, h⟩ := h
    exact dClone_yes h
end Go.Proofs.Yticcjelaenhigaa
