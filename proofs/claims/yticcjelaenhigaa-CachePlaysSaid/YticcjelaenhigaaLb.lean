/- The library's slices.Clone and slices.Delete of numbers. -/
import Derived.Test.YticcjelaenhigaaLa
import Derived.Lib.SliceRun
namespace Go.Proofs.Yticcjelaenhigaa
open Go.RowKit Go.Lib

theorem info3 : (Try.prog.info? 3).map (fun i => (i.zero, i.size, i.bytes)) = some (some (.int .i64 0), 1, 8) := by kernel_rfl
theorem undInts : Try.prog.underlying 33 = some (.slice 3) := by kernel_rfl
theorem own_empty {W : World} {base b : Nat} {t : TypeId} (hb : base ≤ b) (h : W.heap[b]? = some (.cells #[] t (0, 0))) : W.ownsRow base t 1 (.slice (some ⟨b, 0, none⟩) 0 0) 0 [] :=
  ⟨rfl, .inr ⟨b, 0, #[], rfl, hb, h, Nat.le_refl _, Nat.zero_le _, rfl, rfl⟩⟩
theorem owns_form {w : World} {B e size n : Nat} {v : Value} {xs : List Value} (h : w.ownsRow B e size v n xs) : ∃ A c, v = .slice A n c := by
  rcases h.2 with ⟨rfl, rfl⟩ | ⟨g, cap, cur, rfl, _⟩
  · exact ⟨none, 0, rfl⟩
  · exact ⟨_, _, rfl⟩
/-- Numbers in memory of the call's own. -/
def ClP (w : World) (l : List Int) (n : Nat) (e : Ending) (w' : World) : Prop := ∃ A c, e = .returned (.slice A n c) ∧ w'.ownsRow w.heap.size 3 1 (.slice A n c) n (cZ l) ∧ Below w.heap.size w w'
theorem OffR.cells {w : World} {g o n c : Nat} {l : List Int} (h : OffR w 3 (.slice (some ⟨g, o, none⟩) n c) (cZ l)) : g < w.heap.size ∧ ∀ j u, (cZ l)[j]? = some u → w.cell? ((⟨g, o, none⟩ : Addr).add j) = some u := by
  rcases h with ⟨h, _⟩ | ⟨g', o', cap, cur, h, h3, h4, h5, h6, h7⟩
  · cases h
  · injection h with ha hn hc
    subst hn hc
    cases ha
    exact ⟨(Array.getElem?_eq_some_iff.1 h3).1, fun j u hu => by rw [Addr.add_lit]; exact cell_block h3 (h7 j u hu)⟩
set_option maxRecDepth 100000 in
set_option maxHeartbeats 2000000 in
theorem slClone_any (A : Option Addr) (n c : Nat) (l : List Int) (w : World) (hn : l.length = n) (h1 : n ≤ 1024) (hA : OffR w 3 (.slice A n c) (cZ l)) : Calls Try.prog 57 #[.slice A n c] w (ClP w l n) := by
  have q : ∀ (w : World) (a : Option Addr) (n c n' c' : Nat), (binOp .eql 33 (.slice a n c) (.slice none n' c')).run Try.prog w = .ok (.bool a.isNone) w := fun w a n c n' c' => Lib.run_eql_slice_nil w _ _ a n c n' c' undInts
  cases A with
  | none =>
    have h0 : l = [] ∧ n = 0 := by
      rcases hA with ⟨h, h'⟩ | ⟨g, o, cap, cur, h, _⟩
      · have : (cZ l).length = 0 := by rw [h']; rfl
        rw [cZ_len] at this
        exact ⟨List.length_eq_zero_iff.1 this, by omega⟩
      · cases h
    obtain ⟨rfl, rfl⟩ := h0
    clear hA hn h1
    go_enter Try.func57, Try.ntmps57
    go_wp2
    go_ret
    exact ⟨none, 0, rfl, World.ownsRow_nil _ _ _ _, Below.refl _ _⟩
  | some a =>
    obtain ⟨g, o, rfl⟩ : ∃ g o, a = ⟨g, o, none⟩ := by
      rcases hA with ⟨h, _⟩ | ⟨g, o, cap, cur, h, _⟩
      · cases h
      · injection h with h _ _; injection h with h; exact ⟨g, o, h⟩
    obtain ⟨hg, hc⟩ := hA.cells
    obtain ⟨i0, hi, hz0, hz1, hz2⟩ := info_parts info3
    obtain ⟨W0, hW0⟩ : ∃ W0, w.alloc (.cells #[] 3) = W0 := ⟨_, rfl⟩
    have hb0 : Below w.heap.size w W0 := by rw [← hW0]; exact bnew _ _
    have hE : W0.ownsRow w.heap.size 3 1 (.slice (some ⟨w.heap.size, 0, none⟩) 0 0) 0 [] := own_empty (Nat.le_refl _) (by rw [← hW0]; exact heap_alloc_new w _)
    have hC : ∀ j u, (cZ l)[j]? = some u → W0.cell? ((⟨g, o, none⟩ : Addr).add j) = some u := fun j u hu => by
      rw [Addr.add_lit]
      have := hc j u hu
      rw [Addr.add_lit] at this
      exact (hb0.cell (p := ⟨g, _, none⟩) hg).trans this
    have HB := Lib.hid hb0
    have HE := Lib.hid (And.intro hE hC)
    have HS := Lib.hid (show w.heap.size ≤ W0.heap.size from hb0.size)
    have HL := Lib.hid (show (cZ l).length = n * 1 by rw [cZ_len, Nat.mul_one]; exact hn)
    clear hA hc hE hC hb0 hn
    go_enter Try.func57, Try.ntmps57
    go_wp2_with (at_builtin; refine wpList_append_own _ rfl _ _ 33 rfl w.heap.size 3 i0 (.int .i64 0) 1 8 undInts hi hz0 hz1 hz2 rfl (by decide) _ _ _ rfl HE.out.1 ⟨g, o, none⟩ n c (cZ l) rfl HL.out HE.out.2 (cZ_one l) (by unfold maxLen; omega) (by omega) HS.out ?_; intro v' w3 hown' hgrow _; have HO := Lib.hid hown'; have HG := Lib.hid hgrow; clear hown' hgrow)
    go_ret
    have hown := HO.out
    rw [Nat.zero_add, List.nil_append] at hown
    obtain ⟨A', c', rfl⟩ := owns_form hown
    exact ⟨A', c', rfl, hown, HB.out.grown HG.out HB.out.size (fun k hk => (HE.out.1.lt k hk).1)⟩

/-- Cells of a block, laid behind each other. -/
theorem setCells_block : ∀ (xs : List Value) (w : World) (g o : Nat) (cur : Array Value) (e : TypeId), w.heap[g]? = some (.cells cur e (0, 0)) → o + xs.length ≤ cur.size →
    ∃ cur', (w.setCells g o xs).heap[g]? = some (.cells cur' e (0, 0)) ∧ cur'.size = cur.size ∧ (∀ j, j < o → cur'[j]? = cur[j]?) ∧ (∀ j u, xs[j]? = some u → cur'[o + j]? = some u) ∧ (∀ k, k ≠ g → (w.setCells g o xs).heap[k]? = w.heap[k]?) ∧ (w.setCells g o xs).heap.size = w.heap.size ∧ (w.setCells g o xs).os = w.os ∧ (w.setCells g o xs).tape = w.tape ∧ (w.setCells g o xs).output = w.output
  | [], w, g, o, cur, e, h, _ => ⟨cur, h, rfl, fun _ _ => rfl, fun j u hu => by simp at hu, fun _ _ => rfl, rfl, rfl, rfl, rfl⟩
  | x :: t, w, g, o, cur, e, h, hl => by
    rw [List.length_cons] at hl
    have h1 : (w.setCell ⟨g, o, none⟩ x).heap[g]? = some (.cells (cur.setIfInBounds o x) e (0, 0)) := by
      obtain ⟨hlt2, hk⟩ := Array.getElem?_eq_some_iff.1 h
      show (w.heap.modify g _)[g]? = _
      rw [Array.getElem?_eq_getElem (by rw [Array.size_modify]; exact hlt2), Array.getElem_modify_self, hk]
      rfl
    obtain ⟨cur', h2, h3, h4, h5, h6, h7, h8⟩ := setCells_block t (w.setCell ⟨g, o, none⟩ x) g (o + 1) _ e h1 (by rw [Array.size_setIfInBounds]; omega)
    refine ⟨cur', h2, by rw [h3, Array.size_setIfInBounds], fun j hj => ?_, fun j u hu => ?_, fun k hk => ?_, ?_, h8⟩
    · rw [h4 j (by omega), Array.getElem?_setIfInBounds, if_neg (by omega)]
    · cases j with
      | zero =>
        simp at hu
        subst hu
        rw [Nat.add_zero, h4 o (by omega), Array.getElem?_setIfInBounds, if_pos rfl, if_pos (by omega)]
      | succ j =>
        rw [show o + (j + 1) = o + 1 + j by omega]
        exact h5 j u (by simpa using hu)
    · exact (h6 k hk).trans (Below.heap_setCell _ _ _ _ hk)
    · exact h7.trans (World.size_setCell _ _ _)

/-- What slices.Delete of the first ones leaves. -/
def DlP (w : World) (A : Option Addr) (n c m : Nat) (l : List Int) (e : Ending) (w' : World) : Prop :=
  e = .returned (.slice A (n - m) c) ∧ OffR w' 3 (.slice A (n - m) c) (cZ (l.drop m)) ∧ Keep (fun j => (Value.slice A n c).ownBlock = some j) w w'
theorem keep_cells {w : World} {g o : Nat} {cur : Array Value} {e : TypeId} {xs : List Value} (h : w.heap[g]? = some (.cells cur e (0, 0))) (hl : o + xs.length ≤ cur.size) {F : Nat → Prop} (hF : F g) : Keep F w (w.setCells g o xs) := by
  obtain ⟨cur', _, _, _, _, h6, h7, h8, h9, h10⟩ := setCells_block xs w g o cur e h hl
  exact ⟨h8, h9, h10, by rw [h7]; exact Nat.le_refl _, fun k hk hn => h6 k (fun e => hn (e ▸ hF))⟩
theorem sl_from (A : Option Addr) (N cap n : Nat) (h : n ≤ N) (w : World) : (Instr.slice 33 (.slice A N cap) (some (.int .i64 n)) none none).run Try.prog w = .ok (.slice (if cap = n then A else A.map (·.add n)) (N - n) (cap - n)) w := by
  have h0 : (0 : Int) ≤ n := Int.natCast_nonneg n
  have hu := run_underlying (P := Try.prog) (w := w) Try.underlying33
  have hz := Try.sizeOf3
  simp [Instr.slice, hu, Instr.sliceBounds, Instr.sliceBound, go_sem, h0, h, hz]
theorem OffR.from {w : World} {e : TypeId} {A : Option Addr} {n c : Nat} {xs : List Value} (h : OffR w e (.slice A n c) xs) (k : Nat) (hk : k ≤ xs.length) : OffR w e (.slice (if c = k then A else A.map (·.add k)) (n - k) (c - k)) (xs.drop k) ∧ ∀ g, (Value.slice (if c = k then A else A.map (·.add k)) (n - k) (c - k)).ownBlock = some g → (Value.slice A n c).ownBlock = some g := by
  have h0 := h
  rcases h with ⟨h, rfl⟩ | ⟨g, o, cap, cur, h, h3, h4, h5, h6, h7⟩
  · injection h with ha hn hc
    subst ha hn hc
    obtain rfl : k = 0 := by simpa using hk
    exact ⟨.inl ⟨rfl, rfl⟩, fun g h => h⟩
  · injection h with ha hn hc
    subst ha hn hc
    by_cases e : c = k
    · rw [if_pos e]
      have : xs.drop k = [] := List.drop_eq_nil_of_le (by omega)
      rw [this]
      refine ⟨.inr ⟨g, o, 0, cur, ?_, h3, Nat.le_refl _, Nat.zero_le _, by omega, fun j u hj => by simp at hj⟩, fun g h => h⟩
      rw [show xs.length - k = 0 from by omega, show c - k = 0 from by omega]; rfl
    · rw [if_neg e]
      have e2 : (some (⟨g, o, none⟩ : Addr)).map (·.add k) = some ⟨g, o + k, none⟩ := by simp [Addr.add_lit]
      rw [e2]
      exact ⟨h0.tail k hk, fun g h => h⟩
/-- What the two stores of Delete leave. -/
theorem dl_post {w w1 w2 : World} {g o n c m : Nat} {l : List Int} (h : OffR w 3 (.slice (some ⟨g, o, none⟩) n c) (cZ l)) (hn : l.length = n) (hm : m ≤ n) (h1 : w1 = (w.drewN 1).setCells g o (cZ (l.drop m))) (h2 : w2 = w1.setCells g (o + (n - m)) (List.replicate m (.int .i64 0))) : DlP w (some ⟨g, o, none⟩) n c m l (.returned (.slice (some ⟨g, o, none⟩) (n - m) c)) w2 := by
  rcases h with ⟨h, _⟩ | ⟨g', o', cap, cur, h, h3, h4, h5, h6, h7⟩
  · cases h
  · injection h with ha hn' hc
    subst hc
    cases ha
    rw [cZ_len, hn] at h4
    have hl1 : (cZ (l.drop m)).length = n - m := by rw [cZ_len, List.length_drop, hn]
    obtain ⟨cur1, a1, a2, a3, a4, _⟩ := setCells_block (cZ (l.drop m)) (w.drewN 1) g o cur 3 h3 (by rw [hl1]; omega)
    rw [← h1] at a1
    have hl2 : (List.replicate m (Value.int .i64 0)).length = m := List.length_replicate
    obtain ⟨cur2, b1, b2, b3, b4, _⟩ := setCells_block (List.replicate m (Value.int .i64 0)) w1 g (o + (n - m)) cur1 3 a1 (by rw [hl2, a2]; omega)
    rw [← h2] at b1
    refine ⟨rfl, .inr ⟨g, o, c, cur2, by rw [hl1], b1, by rw [hl1]; omega, h5, by rw [b2, a2]; exact h6, fun j u hj => ?_⟩, ?_⟩
    · have hjl : j < n - m := by have := (List.getElem?_eq_some_iff.1 hj).1; rw [hl1] at this; exact this
      rw [b3 _ (by omega)]
      exact a4 j u hj
    · have k1 : Keep (fun j => (Value.slice (some ⟨g, o, none⟩) n c).ownBlock = some j) w w1 := by
        have := keep_cells (w := w.drewN 1) (o := o) (xs := cZ (l.drop m)) h3 (by rw [hl1]; omega) (F := fun j => (Value.slice (some ⟨g, o, none⟩) n c).ownBlock = some j) rfl
        rw [← h1] at this
        exact ⟨this.os, this.tape, this.output, this.size, this.block⟩
      have k2 := keep_cells (w := w1) (o := o + (n - m)) (xs := List.replicate m (Value.int .i64 0)) a1 (by rw [hl2, a2]; omega) (F := fun j => (Value.slice (some ⟨g, o, none⟩) n c).ownBlock = some j) rfl
      rw [← h2] at k2
      exact k1.trans (k2.mono fun k _ e => .inl e)
set_option maxRecDepth 100000 in
set_option maxHeartbeats 2000000 in
theorem slDelete_any (A : Option Addr) (n c m : Nat) (l : List Int) (w : World) (hn : l.length = n) (_h1 : n ≤ 1024) (hm : m ≤ n) (hA : OffR w 3 (.slice A n c) (cZ l)) : Calls Try.prog 76 #[.slice A n c, .int .i64 0, .int .i64 (m : Nat)] w (DlP w A n c m l) := by
  have HC := Lib.hid hA
  have hcap : n ≤ c ∧ c ≤ maxLen := by
    obtain ⟨A', c', e, h2, h3⟩ := hA.form
    rw [cZ_len, hn] at e h2
    injection e with _ _ e3
    exact ⟨by omega, by omega⟩
  have hmx : maxLen = 9223372036854775807 := rfl
  rcases Nat.eq_zero_or_pos m with rfl | hpos
  · have HF : DlP w A n c 0 l (.returned (.slice A n c)) w := ⟨rfl, hA, Keep.refl _ _⟩
    have HF := Lib.hid HF
    clear hA
    go_enter Try.func76, Try.ntmps76
    go_wp2
    all_goals
      go_ret
      exact HF.out
  · have hA0 := hA
    rcases hA with ⟨h, h'⟩ | ⟨g, o, cap, cur, h, h3, h4, h5, h6, h7⟩
    · have : (cZ l).length = 0 := by rw [h']; rfl
      rw [cZ_len] at this
      omega
    · injection h with ha hn' hc
      subst ha
      subst hc
      obtain ⟨i0, hi, hz0, hz1, hz2⟩ := info_parts info3
      have hsz : (cZ l).length = n := by rw [cZ_len]; exact hn
      obtain ⟨D, hD⟩ : ∃ D, n - m = D := ⟨_, rfl⟩
      obtain ⟨A2, hA2, hsrc⟩ : ∃ A2 : Addr, (if c = m then some (⟨g, o, none⟩ : Addr) else (some (⟨g, o, none⟩ : Addr)).map (·.add m)) = some A2 ∧ ∀ j u, (cZ (l.drop m))[j]? = some u → w.drew.cell? (A2.add j) = some u := by
        by_cases e : c = m
        · rw [if_pos e]
          refine ⟨_, rfl, fun j u hu => ?_⟩
          rw [List.drop_eq_nil_of_le (by omega)] at hu
          simp [cZ] at hu
        · rw [if_neg e]
          refine ⟨(⟨g, o, none⟩ : Addr).add m, rfl, fun j u hu => ?_⟩
          rw [← cZ_drop, List.getElem?_drop] at hu
          rw [Addr.add_lit, Addr.add_lit, Nat.add_assoc]
          exact cell_block h3 (h7 _ u hu)
      have hs1 := sl_to (some ⟨g, o, none⟩) n c 0 (Nat.zero_le _)
      have hs2 := sl_from (some ⟨g, o, none⟩) n c m hm
      rw [hA2, hD] at hs2
      have hs3 : ∀ w : World, (Instr.slice 33 (.slice (some ⟨g, o, none⟩) D c) (some (.int .i64 (D : Nat))) (some (.int .i64 (n : Nat))) none).run Try.prog w = .ok (.slice (some ⟨g, o + D, none⟩) m (c - D)) w := fun w => by
        have h0 : (0 : Int) ≤ (D : Nat) := Int.natCast_nonneg D
        have h0' : (0 : Int) ≤ (n : Nat) := Int.natCast_nonneg n
        have hu := run_underlying (P := Try.prog) (w := w) Try.underlying33
        have hz := Try.sizeOf3
        have e1 : D ≤ n := by omega
        have e2 : n ≤ c := by omega
        have e3 : ¬ c = D := by omega
        have e4 : n - D = m := by omega
        simp [Instr.slice, hu, Instr.sliceBounds, Instr.sliceBound, go_sem, h0, h0', hz, e1, e2, e3, e4, Addr.add_lit]
      obtain ⟨W1, hW1⟩ : ∃ W1, W1 = w.drew.setCells g (o + 0 * 1) (cZ (l.drop m)) := ⟨_, rfl⟩
      have hl1 : (cZ (l.drop m)).length = D := by rw [cZ_len, List.length_drop, hn]; exact hD
      obtain ⟨cur1, a1, a2, _⟩ := setCells_block (cZ (l.drop m)) w.drew g (o + 0 * 1) cur 3 h3 (by rw [hl1]; omega)
      rw [← hW1] at a1
      have hcl : ∀ ty, (Builtin.clear_ #[33] ty #[.slice (some ⟨g, o + D, none⟩) m (c - D)]).run Try.prog W1 = .ok (.tuple #[]) (W1.setCells g (o + D) (List.replicate m (.int .i64 0))) := fun ty =>
        Lib.run_clear_slice W1 33 3 ty (.int .i64 0) undInts (fun w => by kernel_rfl) rfl rfl g (o + D) m (c - D) hpos (fun j hj => by
          rw [cell_block a1 (Array.getElem?_eq_getElem (by rw [a2]; omega))]; rfl) (fun j hj => free_block a1)
      have HF := Lib.hid (fun w2 (e : w2 = W1.setCells g (o + D) (List.replicate m (.int .i64 0))) => dl_post (w1 := W1) (w2 := w2) hA0 hn hm (by rw [hW1, Nat.zero_mul, Nat.add_zero]; rfl) (by rw [e, hD]))
      have s1 := Lib.hid (show (cZ (l.drop m)).length = D * 1 by rw [hl1, Nat.mul_one])
      have HS := Lib.hid hsrc
      have s3 := Lib.hid (show ∀ t, t < (cZ (l.drop m)).length → (w.drew.cell? ⟨g, o + 0 * 1 + t, none⟩).isSome = true ∧ w.drew.frozen? ⟨g, o + 0 * 1 + t, none⟩ = false from fun t ht => ⟨by
        rw [show w.drew.cell? ⟨g, o + 0 * 1 + t, none⟩ = _ from cell_block (w := w.drew) h3 (Array.getElem?_eq_getElem (by rw [hl1] at ht; omega))]; rfl, free_block (w := w.drew) h3⟩)
      have hW := Lib.hid hW1
      have HDm := Lib.hid hD
      have hmne : ¬ (0 : Int) = (m : Nat) := by omega
      have hDc : D ≤ c := by omega
      have hmn : m ≤ n := hm
      have hnc : n ≤ c := hcap.1
      clear hA0 h3 h4 h5 h6 h7 hsrc hW1 a1 a2 hl1 hsz hA2 HC hcap hmx hn hn' _h1 hm hD
      go_enter Try.func76, Try.ntmps76
      go_wp2_with fail
      go_region_law (refine step_append_room (by rfl) (.tmp 22) (.tmp 25) 33 (by rfl) 3 i0 1 undInts hi hz1 g o 0 c (by rfl) A2 D (c - m) (cZ (l.drop m)) (by rfl) s1.out HS.out (cZ_one _) (by omega) s3.out ?_; rw [← hW.out])
      go_wp2
      go_ret
      have := HF.out _ rfl
      rw [HDm.out] at this
      simpa using this
end Go.Proofs.Yticcjelaenhigaa
