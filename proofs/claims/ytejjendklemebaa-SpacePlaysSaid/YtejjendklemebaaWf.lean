/- Package space: Clone. -/
import Derived.Test.YtejjendklemebaaWe
namespace Go.Proofs.Ytejjendklemebaa
open Go.RowKit

theorem pgF_one (st : Nat → Int) (pt : Nat → Option Nat) (i : Nat) : (pgF st pt i).oneCell' = true := by
  unfold pgF
  split <;> rfl

/-- What append leaves of a row, as cells. -/
theorem cl_of_owns {w : World} {base e size : Nat} {v : Value} {n : Nat} {xs : List Value} {F : Nat → Value} (h : w.ownsRow base e size v n xs) (hn : 1 ≤ n) (hx : xs = (List.range (n * size)).map F) :
    ∃ g cap, v = .slice (some ⟨g, 0, none⟩) n cap ∧ base ≤ g ∧ g < w.heap.size ∧ n ≤ cap ∧ Cl w g (n * size) F := by
  rcases h.2 with ⟨_, h0⟩ | ⟨g, cap, cur, rfl, hb, hg, hc, _, hcs, ht⟩
  · omega
  · refine ⟨g, cap, rfl, hb, (Array.getElem?_eq_some_iff.1 hg).1, hc, fun i hi => ?_, fun i _ => by simp [World.frozen?, hg]⟩
    have e1 : w.cell? ⟨g, i, none⟩ = cur[i]? := by simp [World.cell?, hg]
    rw [e1]
    have e2 : (cur.toList.take (n * size))[i]? = cur[i]? := by rw [List.getElem?_take, if_pos hi]; simp
    rw [← e2, ht, hx]
    simp [hi]

set_option maxHeartbeats 800000 in
theorem sclone_any {O : Nat → Prop} {B A cap : Nat} {pt : Nat → Option Nat} {m : Mo} {w : World} (h : SpA w O B A cap pt m) :
    Calls Try.prog 39 #[.slice (some ⟨A, 0, none⟩) m.n cap] w fun e w' => ∃ g cap', e = .returned (.slice (some ⟨g, 0, none⟩) m.n cap') ∧ w.heap.size ≤ g ∧ m.n ≤ cap' ∧ Cl w' g (m.n * 2) (pgF m.st pt) ∧ Below w.heap.size w w' := by
  have hn2 := h.wf.n2
  have hn1 := h.wf.n1
  have hA := h.a
  obtain ⟨i0, hi, hz0, hz1, hz2⟩ := info_parts Try.info72
  obtain ⟨n, hn⟩ : ∃ n, n = m.n := ⟨_, rfl⟩
  rw [← hn] at hn1 hn2 hA ⊢
  have hAlt := h.alt
  have HA := Lib.hid hA
  have hne : ∀ w, (binOp .eql 36 (.slice (some ⟨A, 0, none⟩) n cap) (.slice none 0 0)).run Try.prog w = .ok (.bool false) w := fun w => by rfl
  clear h hA hn
  have hnews : ∀ j u, ((List.range (n * 2)).map (pgF m.st pt))[j]? = some u → (w.alloc (.cells #[] 72)).cell? ((⟨A, 0, none⟩ : Addr).add j) = some u := fun j u hu => by
    have hj : j < n * 2 := by have := (List.getElem?_eq_some_iff.1 hu).1; simpa using this
    rw [List.getElem?_map, List.getElem?_range hj] at hu
    cases hu
    have e1 : (⟨A, 0, none⟩ : Addr).add j = ⟨A, j, none⟩ := by simp [Addr.add]; omega
    rw [e1]
    exact ((HA.out.alloc hAlt _).cell j hj)
  have HNEWS := Lib.hid hnews
  have h1 : ∀ u ∈ (List.range (n * 2)).map (pgF m.st pt), u.oneCell' = true := fun u hu => by
    obtain ⟨x, _, rfl⟩ := List.mem_map.1 hu
    exact pgF_one _ _ _
  have H1 := Lib.hid h1
  clear hnews h1
  go_enter Try.func39, Try.ntmps39
  go_wp2_with (at_builtin; go_loud (refine wpList_append_own _ rfl (.tmp 5) (.tmp 6) 36 rfl w.heap.size 72 i0 (.agg #[.bool false, .pointer none]) 2 16 Try.underlying36 hi hz0 hz1 hz2 rfl (by decide) _ 0 [] rfl (World.ownsRow_made w #[] 0 (Nat.le_refl _) (Nat.zero_le _) (by simp)) ⟨A, 0, none⟩ n cap ((List.range (n * 2)).map (pgF m.st pt)) rfl (by simp) HNEWS.out H1.out (by simp only [maxLen]; omega) (by omega) (by simp) ?_))
  intro v' w' hown hgr hnil
  obtain ⟨g, cap', rfl, hb, hlt, hc, hcl⟩ := cl_of_owns hown (by omega) rfl
  have HCL := Lib.hid hcl
  have hbel : Below w.heap.size w w' := (bnew w _).grown hgr (by simp) (fun k hk => by simp [Value.ownBlock] at hk; omega)
  have HBEL := Lib.hid hbel
  clear hown hgr hnil hcl hbel
  go_wp2
  go_ret
  exact ⟨g, cap', rfl, hb, hc, HCL.out, HBEL.out⟩

theorem load_arr (w : World) (x : Nat) (f : Nat → Value) (h : Cl w x 32 f) : (loadVar 74 ⟨x, 0, none⟩).run Try.prog w = .ok (.agg ((List.range 32).map f).toArray) w := by
  have hl := run_loadCells (P := Try.prog) w ⟨x, 0, none⟩ 32 f (fun j hj => by
    have e1 : (⟨x, 0, none⟩ : Addr).add j = ⟨x, j, none⟩ := by simp [Addr.add]; omega
    rw [e1]
    exact h.cell j hj)
  have hagg : (isAgg 74).run Try.prog w = .ok true w := by rfl
  simp [loadVar, Sem.run_bind, hagg, hl]

/-- A load of a whole array. -/
theorem wpList_load_arr {ops : Array Oper} {rest : List Oper} {o : Oper} {a : Act} {w : World} {Q : Exit → Act → World → Prop} (hgd : o.guard = none) (x : Operand) (ho : o.op = .load 74 x) (b : Nat) (hx : a.eval x = .pointer (some ⟨b, 0, none⟩))
    (f : Nat → Value) (h : Cl w b 32 f) (Z : Array Value) (hZ : Z = ((List.range 32).map f).toArray) (hK : wpList Try.prog ops Q rest (a.put o.dst (.agg Z)) w) : wpList Try.prog ops Q (o :: rest) a w := by
  subst hZ
  refine wpList_plain hgd fun K hK' => ?_
  unfold Oper.wp execOp
  simp only [ho, hx, Instr.loadAt, Instr.sureAddr, Sem.run_bind, Sem.run_pure, Result.andThen_ok, load_arr w b f h]
  exact hK' _ _ hK

/-- A store of a whole array into a block of its size. -/
theorem wpList_store_arr {ops : Array Oper} {rest : List Oper} {o : Oper} {a : Act} {w : World} {Q : Exit → Act → World → Prop} (hgd : o.guard = none) (x v : Operand) (ho : o.op = .store 74 x v) (g : Nat) (hx : a.eval x = .pointer (some ⟨g, 0, none⟩))
    (Z : Array Value) (hv : a.eval v = .agg Z) (hs : Z.size = 32) (cur : Array Value) (t : TypeId) (hg : w.heap[g]? = some (.cells cur t (0, 0))) (hc : cur.size = 32) (h1 : ∀ u ∈ Z.toList, u.oneCell' = true)
    (hK : ∀ w', Hid (w'.heap[g]? = some (.cells Z t (0, 0)) ∧ Below g w w' ∧ w'.heap.size = w.heap.size) → wpList Try.prog ops Q rest (a.put o.dst undef) w') : wpList Try.prog ops Q (o :: rest) a w := by
  refine wpList_plain hgd fun K hK' => ?_
  have hst := run_storeCells_at Try.prog g 0 t Z.toList 0 cur w hg (by simp [hs, hc]) h1
  have hsz : (sizeOf 74).run Try.prog w = .ok 32 w := by rfl
  have e : (cur.toList.take (0 + 0) ++ Z.toList ++ cur.toList.drop (0 + 0 + Z.toList.length)).toArray = Z := by
    have : cur.toList.drop (0 + 0 + Z.toList.length) = [] := List.drop_eq_nil_of_le (by simp [hs, hc])
    rw [this]; simp
  rw [e] at hst
  have hsv : (storeVar 74 ⟨g, 0, none⟩ (.agg Z)).run Try.prog w = .ok () (w.setRow g Z) := by
    simp [storeVar, Sem.run_bind, hsz, Value.cells, hs, hst]
  unfold Oper.wp execOp
  simp only [ho, hx, hv, Instr.storeAt, Instr.sureAddr, Sem.run_bind, Sem.run_pure, Result.andThen_ok, hsv]
  exact hK' _ _ (hK _ ⟨setRow_heap w g cur Z t (0, 0) hg, below_setRow (Below.refl g w) (Nat.le_refl _) Z, by simp [World.setRow]⟩)

/-- What the loop of Clone has made after some pages. -/
structure CloneAt (w wr : World) (m : Mo) (pt : Nat → Option Nat) (C A' cap' : Nat) (k : Nat) (p2 : Nat → Option Nat) : Prop where
  b : Cl wr C 3 (spF A' m.n cap' m.dir m.pk)
  a : Cl wr A' (m.n * 2) (pgF m.st (fun j => if j < k then p2 j else pt j))
  no : ∀ j, j < k → (p2 j = none ↔ pt j = none)
  ws : ∀ j y, j < k → p2 j = some y → Cl wr y 32 (fun t => .int .i64 (m.hd (32 * j + t))) ∧ w.heap.size ≤ y ∧ y < wr.heap.size ∧ y ≠ C ∧ y ≠ A'
  inj : ∀ j j' y, j < k → j' < k → p2 j = some y → p2 j' = some y → j = j'
  hC : w.heap.size ≤ C ∧ C < wr.heap.size
  hA : w.heap.size ≤ A' ∧ A' < wr.heap.size
  ne : A' ≠ C
  bel : Below w.heap.size w wr

theorem CloneAt.below {w wr w1 : World} {m : Mo} {pt p2 : Nat → Option Nat} {C A' cap' k : Nat} (h : CloneAt w wr m pt C A' cap' k p2) (hb : Below wr.heap.size wr w1) : CloneAt w w1 m pt C A' cap' k p2 :=
  ⟨h.b.of_block (hb.block _ h.hC.2), h.a.of_block (hb.block _ h.hA.2), h.no, fun j y hj hy => ⟨(h.ws j y hj hy).1.of_block (hb.block _ (h.ws j y hj hy).2.2.1), (h.ws j y hj hy).2.1, Nat.lt_of_lt_of_le (h.ws j y hj hy).2.2.1 hb.size, (h.ws j y hj hy).2.2.2⟩, h.inj,
   ⟨h.hC.1, Nat.lt_of_lt_of_le h.hC.2 hb.size⟩, ⟨h.hA.1, Nat.lt_of_lt_of_le h.hA.2 hb.size⟩, h.ne, btr h.bel hb (Nat.le_refl _)⟩

/-- A page without memory. -/
theorem CloneAt.skip {w wr : World} {m : Mo} {pt p2 : Nat → Option Nat} {C A' cap' k : Nat} (h : CloneAt w wr m pt C A' cap' k p2) (hp : pt k = none) : CloneAt w wr m pt C A' cap' (k + 1) (fun j => if j = k then none else p2 j) := by
  refine ⟨h.b, h.a.congr fun i hi => ?_, fun j hj => ?_, fun j y hj hy => ?_, fun j j' y hj hj' h1 h2 => ?_, h.hC, h.hA, h.ne, h.bel⟩
  · unfold pgF
    dsimp only
    by_cases e : i / 2 = k
    · rw [if_neg (show ¬ i / 2 < k by omega), if_pos (show i / 2 < k + 1 by omega), if_pos e, e, hp]
    · by_cases e2 : i / 2 < k
      · rw [if_pos e2, if_pos (show i / 2 < k + 1 by omega), if_neg e]
      · rw [if_neg e2, if_neg (show ¬ i / 2 < k + 1 by omega)]
  · by_cases e : j = k
    · rw [if_pos e, e, hp]
    · rw [if_neg e]; exact h.no j (by omega)
  · by_cases e : j = k
    · rw [if_pos e] at hy; cases hy
    · rw [if_neg e] at hy; exact h.ws j y (by omega) hy
  · by_cases e : j = k
    · rw [if_pos e] at h1; cases h1
    · by_cases e' : j' = k
      · rw [if_pos e'] at h2; cases h2
      · rw [if_neg e] at h1; rw [if_neg e'] at h2
        exact h.inj j j' y (by omega) (by omega) h1 h2

/-- A page with memory: a new block holds what its words hold. -/
theorem CloneAt.copy {w wr W : World} {m : Mo} {pt p2 : Nat → Option Nat} {C A' cap' k x y : Nat} (h : CloneAt w wr m pt C A' cap' k p2) (hp : pt k = some x) (hb : Below wr.heap.size wr W) (hy : wr.heap.size ≤ y) (hyl : y < W.heap.size)
    (hcl : Cl W y 32 (fun t => .int .i64 (m.hd (32 * k + t)))) : CloneAt w (W.setCell ⟨A', k * 2 + 1, none⟩ (.pointer (some ⟨y, 0, none⟩))) m pt C A' cap' (k + 1) (fun j => if j = k then some y else p2 j) := by
  have hA2 := h.hA.2
  have hC2 := h.hC.2
  have hA1 := h.hA.1
  have h0 := h.below hb
  have hbs := hb.size
  clear hb
  have hnA : ∀ z, z ≠ A' → (W.setCell ⟨A', k * 2 + 1, none⟩ (.pointer (some ⟨y, 0, none⟩))).heap[z]? = W.heap[z]? := fun z hz => Below.heap_setCell _ _ _ _ hz
  have hszs : (W.setCell ⟨A', k * 2 + 1, none⟩ (.pointer (some ⟨y, 0, none⟩))).heap.size = W.heap.size := World.size_setCell _ _ _
  refine ⟨h0.b.of_block (hnA _ (fun e => h.ne e.symm)), (h0.a.set _ _).congr fun i hi => ?_, fun j hj => ?_, fun j z hj hz => ?_, fun j j' z hj hj' h1 h2 => ?_, ⟨h.hC.1, by rw [hszs]; omega⟩, ⟨h.hA.1, by rw [hszs]; omega⟩, h.ne, h0.bel.setCell (p := ⟨A', k * 2 + 1, none⟩) h.hA.1 _⟩
  · unfold pgF
    dsimp only
    by_cases e : i / 2 = k
    · by_cases e2 : i % 2 = 0
      · rw [if_neg (by omega), if_pos e2, if_pos e2]
      · rw [if_pos (by omega), if_neg e2, if_pos (show i / 2 < k + 1 by omega), if_pos e]; rfl
    · rw [if_neg (show ¬ i = k * 2 + 1 by omega)]
      by_cases e2 : i / 2 < k
      · rw [if_pos e2, if_pos (show i / 2 < k + 1 by omega), if_neg e]
      · rw [if_neg e2, if_neg (show ¬ i / 2 < k + 1 by omega)]
  · by_cases e : j = k
    · rw [if_pos e, e, hp]; simp
    · rw [if_neg e]; exact h.no j (by omega)
  · by_cases e : j = k
    · rw [if_pos e] at hz; cases hz
      rw [e]
      exact ⟨hcl.of_block (hnA _ (by omega)), Nat.le_trans h.bel.size hy, by rw [hszs]; omega, by omega, by omega⟩
    · rw [if_neg e] at hz
      obtain ⟨q1, q2, q3, q4, q5⟩ := h0.ws j z (by omega) hz
      exact ⟨q1.of_block (hnA _ q5), q2, by rw [hszs]; exact q3, q4, q5⟩
  · by_cases e : j = k
    · by_cases e' : j' = k
      · omega
      · rw [if_pos e] at h1; rw [if_neg e'] at h2
        cases h1
        have := (h.ws j' _ (by omega) h2).2.2.1
        omega
    · by_cases e' : j' = k
      · rw [if_neg e] at h1; rw [if_pos e'] at h2
        cases h2
        have := (h.ws j _ (by omega) h1).2.2.1
        omega
      · rw [if_neg e] at h1; rw [if_neg e'] at h2
        exact h.inj j j' z (by omega) (by omega) h1 h2

/-- All pages are copied: a space. -/
theorem CloneAt.done {w wr : World} {m : Mo} {pt p2 : Nat → Option Nat} {C A' cap' : Nat} (h : CloneAt w wr m pt C A' cap' m.n p2) (hwf : WF m) (hpn : ∀ k, k < m.n → (pt k = none ↔ m.st k ≠ 2)) (hc : m.n ≤ cap') : Sp wr (Nw w wr) C m :=
  ⟨A', cap', p2, hwf, h.b, h.a.congr fun i hi => by unfold pgF; dsimp only; rw [if_pos (show i / 2 < m.n by omega)], fun k b hk hb => (h.ws k b hk hb).1, fun k hk => (h.no k hk).trans (hpn k hk), h.inj, h.hC, h.hA, fun k b hk hb => ⟨(h.ws k b hk hb).2.1, (h.ws k b hk hb).2.2.1⟩,
    fun k hk => hk.2, h.ne, fun k b hk hb => (h.ws k b hk hb).2.2.2, hc⟩

end Go.Proofs.Ytejjendklemebaa
