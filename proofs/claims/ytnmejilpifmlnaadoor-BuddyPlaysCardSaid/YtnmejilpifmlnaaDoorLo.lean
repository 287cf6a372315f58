/- New, Clone. -/
import Derived.Test.YtnmejilpifmlnaaDoorLn
namespace Go.Proofs.YtnmejilpifmlnaaDoor
open Go.RowKit

theorem Tryd.info64 : (Tryd.prog.info? 64).map (fun i => (i.zero, i.size, i.bytes)) = some (some (.map none), 1, 8) := by kernel_rfl

/-- A heap without free pages. -/
def newM (n : Nat) : Mo := ⟨n, fun _ => false⟩
theorem newM_wf {n : Nat} (h1 : 1 ≤ n) (h2 : n ≤ 1024) : WF (newM n) := ⟨h1, h2, fun p h => by cases h⟩
theorem bk_false (k s : Nat) : ¬ Bk (fun _ => false) k s := fun h => by
  have := h.at (p := s) (Nat.le_refl _) (by have := Nat.two_pow_pos k; omega)
  cases this

def mapC (bs : List Nat) : List Value := bs.map fun b => .map (some b)

/-- Sets in the making: those of the orders below j; Z is the heap's own block. -/
structure Mk (w : World) (n Z : Nat) (S : Nat → Nat → Prop) (wr : World) (j : Nat) (v : Value) (bs : List Nat) : Prop where
  len : bs.length = j
  cl : Cl wr Z 2 (fun i => if i = 0 then .int .i64 n else v)
  own : wr.ownsRow (Z + 1) 64 1 v j (mapC bs)
  st : ∀ (k b : Nat), bs[k]? = some b → Z < b ∧ SetAt wr b (S k)
  nd : bs.Nodup
  bel : Below w.heap.size w wr
  zw : w.heap.size = Z

theorem cell_one_at {w : World} {v : Value} {t : TypeId} : ∀ j u, [v][j]? = some u → (w.alloc (.cells #[v] t)).cell? ((⟨w.heap.size, 0, none⟩ : Addr).add j) = some u := cell_one_new w v t

/-- One set more. -/
theorem Mk.push {w : World} {n Z : Nat} {S : Nat → Nat → Prop} {wr W w5 : World} {j b : Nat} {v v' : Value} {bs : List Nat} {tmp : Obj} (h : Mk w n Z S wr j v bs) (hb : Below wr.heap.size wr W) (hbl : wr.heap.size ≤ b) (hs : SetAt W b (S j))
    (ho : w5.ownsRow (Z + 1) 64 1 v' (j + 1) (mapC bs ++ [.map (some b)])) (hg : (W.alloc tmp).grownBy w5 v.ownBlock) :
    Mk w n Z S (w5.setCell ⟨Z, 1, none⟩ v') (j + 1) v' (bs ++ [b]) ∧ w5.cell? ⟨Z, 1, none⟩ = some v ∧ w5.frozen? ⟨Z, 1, none⟩ = false := by
  have hzl := h.cl.lt (by omega)
  -- the old row's block, if there is one
  have hrow : ∀ r, v.ownBlock = some r → Z < r ∧ ∃ o : Obj, wr.heap[r]? = some o ∧ o.isCells = true := fun r hr => by
    rcases h.own.2 with ⟨rfl, _⟩ | ⟨g, cap, cur, rfl, hg1, hg2, _⟩
    · cases hr
    · cases hr
      exact ⟨hg1, _, hg2, rfl⟩
  have hkeep : ∀ i, i < wr.heap.size → v.ownBlock ≠ some i → w5.heap[i]? = wr.heap[i]? := fun i hi hne => by
    rw [hg.block i (by have := hb.size; simp; omega) (fun e => hne e.symm), Below.heap_alloc _ _ _ (Nat.lt_of_lt_of_le hi hb.size), hb.block i hi]
  have hZ5 : w5.heap[Z]? = wr.heap[Z]? := hkeep Z hzl (fun e => by have := (hrow Z e).1; omega)
  have hcl5 := h.cl.of_block hZ5
  have hset : ∀ (k x : Nat), bs[k]? = some x → SetAt w5 x (S k) := fun k x hx => by
    have hs := (h.st k x hx).2
    refine hs.of_block (hkeep x hs.lt (fun e => ?_))
    obtain ⟨_, o, ho, hc⟩ := hrow x e
    obtain ⟨L, _, es, clock, hm, _⟩ := hs
    rw [hm] at ho
    cases ho
    cases hc
  have hb5 : SetAt w5 b (S j) := by
    refine hs.of_block ?_
    have hlt := hs.lt
    rw [hg.block b (by simp; omega) (fun e => ?_), Below.heap_alloc _ _ _ hlt]
    obtain ⟨_, o, ho, _⟩ := hrow b e.symm
    have := (Array.getElem?_eq_some_iff.1 ho).1
    omega
  have hset' : ∀ (W' : World) (x : Nat) (T : Nat → Prop), SetAt W' x T → Z < x → SetAt (W'.setCell ⟨Z, 1, none⟩ v') x T := fun W' x T hx hlt => hx.of_block (Below.heap_setCell _ _ _ _ (fun e => by have e' : x = Z := e; omega))
  refine ⟨⟨by rw [List.length_append, h.len]; rfl, ?_, ?_, fun k x hx => ?_, ?_, ?_, h.zw⟩, hcl5.cell 1 (by omega), hcl5.free 1 (by omega)⟩
  · refine (hcl5.set 1 v').congr fun i hi => ?_
    have : i = 0 ∨ i = 1 := by omega
    rcases this with rfl | rfl <;> rfl
  · have e : mapC (bs ++ [b]) = mapC bs ++ [.map (some b)] := by unfold mapC; rw [List.map_append]; rfl
    rw [e]
    refine ho.kept (row := some Z) ⟨rfl, rfl, rfl, by rw [World.size_setCell]; exact Nat.le_refl _, fun k _ hk => Below.heap_setCell _ _ _ _ (fun e => hk (by rw [e]))⟩ ?_
    rcases ho.2 with ⟨_, h0⟩ | ⟨g, cap, cur, rfl, hg1, hg2, _⟩
    · omega
    · right
      intro e
      simp [Value.ownBlock] at e
      omega
  · rcases Nat.lt_or_ge k bs.length with hlt | hge
    · rw [List.getElem?_append_left hlt] at hx
      have := h.st k x hx
      exact ⟨this.1, hset' _ _ _ (hset k x hx) this.1⟩
    · rw [List.getElem?_append_right hge] at hx
      have hk0 : k - bs.length = 0 := by
        have := (List.getElem?_eq_some_iff.1 hx).1
        simp at this
        omega
      rw [hk0] at hx
      have hxb : b = x := by simpa using hx
      subst hxb
      obtain rfl : k = j := by have := h.len; omega
      exact ⟨by omega, hset' _ _ _ hb5 (by omega)⟩
  · rw [List.nodup_append]
    refine ⟨h.nd, by simp, fun x hx y hy e => ?_⟩
    obtain rfl : y = b := by simpa using hy
    subst e
    obtain ⟨k, hk⟩ := List.mem_iff_getElem?.1 hx
    have := (h.st k x hk).2.lt
    omega
  · have hzw := h.zw
    refine ((h.bel.trans (hb.mono (by have := h.bel.size; omega))).alloc (by have := h.bel.size; have := hb.size; omega) tmp).grown hg (by have := h.bel.size; have := hb.size; simp; omega) (fun r e => by have := (hrow r e).1; omega) |>.setCell (p := ⟨Z, 1, none⟩) (by show w.heap.size ≤ Z; omega) _

theorem mapC_at {bs : List Nat} {k b : Nat} (h : bs[k]? = some b) : (mapC bs)[k]? = some (.map (some b)) := by
  unfold mapC
  rw [List.getElem?_map, h]; rfl

theorem Mk.done {w : World} {n Z : Nat} {m : Mo} {wr : World} {v : Value} {bs : List Nat} (h : Mk w n Z (fun k => Bk m.F k) wr (ords m.n) v bs) (hwf : WF m) (hn : m.n = n) (ht : Tab w) : Hp wr (Nw w wr) Z m := by
  subst hn
  have hK := hwf.K
  obtain ⟨K, hKe⟩ : ∃ K, ords m.n = K + 1 := ⟨ords m.n - 1, by omega⟩
  have hown := h.own
  have hz := h.zw
  have hzl := h.cl.lt (by omega)
  have h1w := ht.lt
  rcases hown.2 with ⟨_, h0⟩ | ⟨g, cap, cur, rfl, hg1, hg2, hcap, _⟩
  · omega
  · have hgl := (Array.getElem?_eq_some_iff.1 hg2).1
    have hat : ∀ k, k < ords m.n → ∃ b, bs[k]? = some b := fun k hk => ⟨_, List.getElem?_eq_getElem (by have := h.len; omega)⟩
    have hget : ∀ k b, bs[k]? = some b → bs.getD k 0 = b := fun k b hb => by rw [List.getD_eq_getElem?_getD, hb]; rfl
    refine ⟨g, cap, fun k => bs.getD k 0, hwf, ?_, ⟨fun k hk => ?_, fun k hk => ?_⟩, fun k hk => ?_, fun k k' hk hk' e => ?_, ⟨by omega, hzl⟩, ⟨by omega, hgl⟩, fun k hk => ?_, fun k hk => hk.2, fun k hk => by have := hk.1; omega, ht.below h.bel, hcap⟩
    · exact h.cl
    · obtain ⟨b, hb⟩ := hat k hk
      rw [hget k b hb]
      exact (owns_cell hown (mapC_at hb)).1
    · obtain ⟨b, hb⟩ := hat k hk
      exact (owns_cell hown (mapC_at hb)).2
    · obtain ⟨b, hb⟩ := hat k hk
      simp only [hget k b hb]
      exact (h.st k b hb).2
    · obtain ⟨b, hb⟩ := hat k hk
      obtain ⟨b', hb'⟩ := hat k' hk'
      simp only [hget k b hb, hget k' b' hb'] at e
      subst e
      obtain ⟨i1, i2⟩ := List.getElem?_eq_some_iff.1 hb
      obtain ⟨j1, j2⟩ := List.getElem?_eq_some_iff.1 hb'
      have hp := List.pairwise_iff_getElem.1 h.nd
      rcases Nat.lt_trichotomy k k' with hlt | e | hgt
      · exact absurd (by rw [i2, j2]) (hp k k' i1 j1 hlt)
      · exact e
      · exact absurd (by rw [i2, j2]) (hp k' k j1 i1 hgt)
    · obtain ⟨b, hb⟩ := hat k hk
      rw [hget k b hb]
      have := h.st k b hb
      exact ⟨by omega, this.2.lt⟩

theorem set_new (w : World) : SetAt (w.alloc (.map #[] 0)) w.heap.size (fun _ => False) :=
  ⟨[], fun x => by simp, #[], 0, (MapKept.heap_alloc w _).1, ⟨by simp, Go.MapKept.stamped_empty 0, by simp⟩, rfl⟩

/-- What New leaves. -/
def NewPost (w : World) (m : Mo) (e : Ending) (w' : World) : Prop := ∃ B, e = .returned (.tuple #[.pointer (some ⟨B, 0, none⟩), .int .i64 0]) ∧ Below w.heap.size w w' ∧ Hp w' (Nw w w') B m

theorem New_bad (p : Int) (w : World) (h : ¬ (1 ≤ p ∧ p ≤ 1024)) : Calls Tryd.prog 14 #[.int .i64 p] w fun e w' => e = .returned (.tuple #[.pointer none, .int .i64 1]) ∧ w = w' := by
  by_cases h1 : p < 1
  · clear h
    go_enter Tryd.func14, Tryd.ntmps14
    go_wp2
    go_ret2
    exact ⟨rfl, rfl⟩
  · have h2 : 1024 < p := by omega
    clear h
    go_enter Tryd.func14, Tryd.ntmps14
    go_wp2
    go_ret2
    exact ⟨rfl, rfl⟩

set_option maxRecDepth 100000 in
set_option maxHeartbeats 2000000 in
theorem New_any (n : Nat) (w : World) (h1 : 1 ≤ n) (h2 : n ≤ 1024) (ht : Tab w) : Calls Tryd.prog 14 #[.int .i64 n] w (NewPost w (newM n)) := by
  have HL := Lib.hid (fun w => len_any n w (by omega))
  have HT := Lib.hid ht
  obtain ⟨i0, hi, hz0, hz1, hz2⟩ := info_parts Tryd.info64
  have HI := Lib.hid (And.intro hi (And.intro hz0 (And.intro hz1 hz2)))
  have hK := (ords_facts h1 h2).2.1
  obtain ⟨K, hKe⟩ : ∃ K, ords n = K := ⟨_, rfl⟩
  have HK := Lib.hid hKe
  have hLb : Lib.bitLen n = K := hKe
  rw [hLb] at HL
  rw [hKe] at hK
  obtain ⟨Z, hZ⟩ : ∃ Z, w.heap.size = Z := ⟨_, rfl⟩
  have HZ := Lib.hid hZ
  obtain ⟨g2, g3⟩ := two_cells w w.heap.size (.int .i64 n) (.slice none 0 0) 42 rfl
  obtain ⟨f2, f3⟩ := two_free w w.heap.size (.int .i64 n) (.slice none 0 0) 42 rfl
  obtain ⟨W0, hW⟩ : ∃ W, w.alloc (.cells #[.int .i64 n, .slice none 0 0] 42) = W := ⟨_, rfl⟩
  have hb0 : Below w.heap.size w W0 := by rw [← hW]; exact bnew _ _
  rw [hW, hZ] at g2 g3 f2 f3
  have hM0 : Mk w n Z (fun k => Bk (newM n).F k) W0 0 (.slice none 0 0) [] := ⟨rfl, ⟨fun i hi => by
      have : i = 0 ∨ i = 1 := by omega
      rcases this with rfl | rfl
      · exact g2
      · exact g3, fun i hi => by
      have : i = 0 ∨ i = 1 := by omega
      rcases this with rfl | rfl
      · exact f2
      · exact f3⟩, World.ownsRow_nil _ _ _ _, fun k b h => by simp at h, List.nodup_nil, hb0, hZ⟩
  have HM0 := Lib.hid hM0
  have hmm := @run_makeMap Tryd.prog
  clear hi hz0 hz1 hz2 hKe hLb g2 g3 f2 f3 hb0 hM0 ht
  go_enter Tryd.func14, Tryd.ntmps14
  go_wp2_with (go_at_call 32; refine (HL.out _).mono ?_; rintro x _ ⟨rfl, rfl⟩)
  clear hW
  go_loopw [17] (fun i wr => ∃ (k : Nat) (v : Value) (bs : List Nat), k ≤ K ∧ i = .int .i64 k ∧ Mk w n Z (fun k => Bk (newM n).F k) wr k v bs) (fun i _ => K - (intOf i).toNat)
  case atStart => exact ⟨0, _, _, by omega, rfl, HM0.out⟩
  case round =>
    clear HM0
    obtain ⟨k, v, bs, hk, rfl, hM⟩ := hrel
    obtain ⟨Ax, cx, rfl⟩ := owns_form hM.own
    have c1 := hM.cl.cell 1 (by omega)
    simp only [if_neg (show ¬ (1 : Nat) = 0 by omega)] at c1
    have hzl := hM.cl.lt (by omega)
    by_cases hlt : k < K
    · have HM := Lib.hid hM
      have hown := hM.own
      have HB1 := Lib.hid (bnew wr (.map #[] 0))
      have HSN := Lib.hid (show SetAt (wr.alloc (.map #[] 0)) wr.heap.size (fun s => Bk (newM n).F k s) from (set_new wr).congr (fun x => ⟨fun h => h.elim, fun h => bk_false k x h⟩))
      have hown1 := hown.alloc (.map #[] 0)
      obtain ⟨hi, hz0, hz1, hz2⟩ := HI.out
      have hcn := cell_one_new (wr.alloc (.map #[] 0)) (.map (some wr.heap.size)) 64
      rw [World.size_alloc] at hcn
      have HCN := Lib.hid hcn
      clear hM hown hcn
      go_wp2_with (at_builtin; go_loud (refine wpList_append_own _ rfl _ _ 40 rfl (Z + 1) 64 i0 (.map none) 1 8 Tryd.underlying40 hi hz0 hz1 hz2 rfl (by decide) _ _ _ rfl (hown1.alloc _) ⟨wr.heap.size + 1, 0, none⟩ 1 1 [.map (some wr.heap.size)] rfl rfl HCN.out (by simp [Value.oneCell']) (by unfold maxLen; omega) (by omega) (by simp; omega) ?_); intro v' w5 hown' hgrow _; obtain ⟨g', cap', rfl⟩ := ownsRow_succ hown'; obtain ⟨hM5, hc5, hf5⟩ := HM.out.push HB1.out (Nat.le_refl _) HSN.out hown' hgrow; have HM5 := Lib.hid hM5; clear hM5 hown' hgrow)
      go_roundw
      case rel => exact ⟨k + 1, _, _, by omega, by go_num, HM5.out⟩
      case measure => simp [intOf]; omega
    · go_wp2
      go_ret2
      obtain rfl : k = K := by omega
      refine ⟨Z, rfl, hM.bel, ?_⟩
      rw [← HK.out] at hM
      exact Mk.done (m := newM n) hM (newM_wf h1 h2) rfl HT.out

end Go.Proofs.YtnmejilpifmlnaaDoor
