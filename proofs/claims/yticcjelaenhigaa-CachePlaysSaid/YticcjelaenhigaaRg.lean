/- The document's cache: oldest. -/
import Derived.Test.YticcjelaenhigaaRf
import Derived.Deep.RegionLaw
import Derived.Deep.AppendLies
import Derived.BigRegion
import Derived.Deep.RegionHeld3
namespace Go.Proofs.Yticcjelaenhigaa
open Go.RowKit Go.Lib

set_option maxRecDepth 100000 in
/-- A list is appended to an empty one of one's own. -/
theorem run_append_copy {P : Nat → Prop} (w : World) (base b0 : Nat) (hE : w.ownsRow base 3 1 (.slice (some ⟨b0, 0, none⟩) 0 0) 0 []) (hbase : base ≤ w.heap.size) (A : Option Addr) (m c : Nat) (z : List Int) (hm : z.length = m) (hz : IAt P w A z) (h : m ≤ 32768) :
    ∃ g cap w', (Builtin.append_ #[33, 33] 33 #[.slice (some ⟨b0, 0, none⟩) 0 0, .slice A m c]).run Try.prog w = .ok (.slice (some ⟨g, 0, none⟩) m cap) w' ∧ w'.ownsRow base 3 1 (.slice (some ⟨g, 0, none⟩) m cap) m (cZ z) ∧ w.grownBy w' (some b0) ∧ (g = b0 ∨ g = w.heap.size) := by
  obtain ⟨i0, hi, hz0, hz1, hz2⟩ := info_parts info3
  rcases Nat.eq_zero_or_pos m with h0 | h0
  · subst h0
    obtain rfl : z = [] := List.length_eq_zero_iff.1 hm
    exact ⟨b0, 0, w, run_append_zero w 33 33 3 i0 undInts hi (some ⟨b0, 0, none⟩) A 0 0 c (Nat.le_refl _), hE, ⟨rfl, rfl, rfl, Nat.le_refl _, fun _ _ _ => rfl⟩, .inl rfl⟩
  · obtain ⟨g', o', rfl, _, _, hc⟩ := hz.some (by omega)
    obtain ⟨g, cap, w', hr, h2, h3, h4, _⟩ := run_append_lies (P := Try.prog) w 33 33 base 3 i0 (.int .i64 0) 1 8 undInts hi hz0 hz1 hz2 rfl (by decide) (.slice (some ⟨b0, 0, none⟩) 0 0) 0 [] hE ⟨g', o', none⟩ m c (cZ z) (by rw [cZ_len]; omega) hc (cZ_one _) h0 (by unfold maxLen; omega) (by omega) hbase _ rfl
    rw [Nat.zero_add, List.nil_append] at h2
    rw [Nat.zero_add] at hr
    exact ⟨g, cap, w', hr, h2, h3, h4.elim (fun e => .inl (by injection e with e; exact e.symm)) .inr⟩
/-- What is appended, as one step of a region that draws. -/
theorem step_run {P : Program} (w : World) {ops : Array Oper} {o : Oper} {a : Act} {K : Act → World → Prop} {Q : Exit → Act → World → Prop} {E : Prop} (hgd : o.guard = none) (s x : Operand) (t : TypeId)
    (ho : o.op = .call { callee := .builtin .append, args := #[s, x], argTypes := #[t, t] }) (v1 v2 : Value) (hs : a.eval s = v1) (hx : a.eval x = v2) {v : Value} {w' : World}
    (hr : (Builtin.append_ #[t, t] o.type #[v1, v2]).run P w = .ok v w') (h : K (a.put o.dst v) w') :
    if Region.wanted o (yielded ops a.tmps) = true then Oper.wp P o a w K Q else E := by
  have hw : Region.wanted o (yielded ops a.tmps) = true := by simp [Region.wanted, hgd]
  rw [if_pos hw]
  unfold Oper.wp execOp
  simp only [ho, resolve, invoke, builtin, Sem.run_bind, Sem.run_pure, Result.andThen_ok, List.map_toArray, List.map_cons, List.map_nil, hs, hx, hr]
  exact h
theorem IAt.from {P : Nat → Prop} {w : World} {A : Option Addr} {l : List Int} {c : Nat} (h : IAt P w A l) (n : Nat) (hc : l.length ≤ c) : IAt P w (if c = n then A else A.map (·.add n)) (l.drop n) := by
  by_cases e : c = n
  · rw [if_pos e, List.drop_eq_nil_of_le (by omega)]
    exact IAt.nil _ _ _
  · rw [if_neg e]
    intro i a hi
    rw [List.getElem?_drop] at hi
    obtain ⟨g, o, rfl, h1, h2, h3, h4⟩ := h (n + i) a hi
    exact ⟨g, o + n, by simp [Addr.add_lit], h1, h2, by rw [Nat.add_assoc]; exact h3, h4⟩
theorem iat_own {w : World} {base n g cap : Nat} {l : List Int} (h : w.ownsRow base 3 1 (.slice (some ⟨g, 0, none⟩) n cap) n (cZ l)) (hr : ∀ a ∈ l, InR a) : IAt (fun q => q = g) w (some ⟨g, 0, none⟩) l := by
  exact (own_off h).1.iat (fun q hq => by cases hq; rfl) hr
theorem own_bd {w : World} {base n g cap : Nat} {l : List Int} (h : w.ownsRow base 3 1 (.slice (some ⟨g, 0, none⟩) n cap) n (cZ l)) : base ≤ g ∧ g < w.heap.size ∧ n ≤ cap ∧ cap ≤ maxLen := by
  have h1 := (own_off h).2 g rfl
  have h2 := (h.lt g rfl).2
  obtain ⟨_, _, e, q1, q2⟩ := (own_off h).1.form
  injection e with _ e1 e2
  subst e2
  exact ⟨h1, h2, by omega, q2⟩

/-- What oldest returns and leaves. -/
def OldP (w : World) (O : Nat → Prop) (B t l i j ct cl ci cj : Nat) (c : Tc) (x m : Nat) (k : Kl) (e : Ending) (w' : World) : Prop :=
  ∃ A1 c1, e = .returned (.slice A1 m c1) ∧ ∃ (O' : Nat → Prop) (V' : Nat → Value), RcA w' O' B t l i j ct cl ci cj V' { c with K := c.K.set x (outK k m) } ∧ (∀ q, O' q → Ext O w w' q) ∧ Keep (fun g => g = l ∨ g = j) w w' ∧ IAt (fun g => w.heap.size ≤ g ∧ ¬ O' g) w' A1 (k.l.take m)
section
variable {w w1 w2 w4 : World} {O : Nat → Prop} {B t l i j ct cl ci cj : Nat} {V : Nat → Value} {c : Tc} {x m N q g1 cap1 g2 cap2 : Nat} {k : Kl}
theorem RcA.old (h : RcA w O B t l i j ct cl ci cj V c) (hK : c.K[x]? = some k) (hN : k.l.length = N) (hmN : m + q = N) (hin : ∀ a ∈ k.l, InR a)
    (r1 : w1.ownsRow w.heap.size 3 1 (.slice (some ⟨g1, 0, none⟩) m cap1) m (cZ (k.l.take m))) (b1 : Below w.heap.size w w1)
    (r2 : w2.ownsRow w1.heap.size 3 1 (.slice (some ⟨g2, 0, none⟩) q cap2) q (cZ (k.l.drop m))) (b2 : Below w1.heap.size w1 w2)
    (hl : Cl w4 l c.K.length (fun y => if y = x then .slice (some ⟨g2, 0, none⟩) q cap2 else V y))
    (hj : Cl w4 j c.K.length (fun y => if y = x then .int .i64 ((min k.lo q : Nat) : Int) else .int .i64 (((c.K[y]?.map (·.lo)).getD 0 : Nat) : Int)))
    (hk4 : Keep (fun g => g = l ∨ g = j) w2 w4) : OldP w O B t l i j ct cl ci cj c x m k (.returned (.slice (some ⟨g1, 0, none⟩) m cap1)) w4 := by
  obtain ⟨n1, n2, n3, n4, n5, n6, n7, n8, n9, n10⟩ := h.ne
  obtain ⟨oB, ot, ol, oi, oj⟩ := h.ob
  have lB := h.lt B oB
  have ll := h.lt l ol
  have li := h.lt i oi
  have lj := h.lt j oj
  obtain ⟨p1, p2, p3, p4⟩ := own_bd r1
  obtain ⟨q1, q2, q3, q4⟩ := own_bd r2
  have s1 := b1.size
  have s2 := b2.size
  have s4 := hk4.size
  have hkw := h.wf.k k (List.mem_of_getElem? hK)
  have kp : Keep (fun g => g = l ∨ g = j) w w4 := (Keep.of (O := fun g => g = l ∨ g = j) (btr b1 b2 (Nat.le_refl _))).trans (hk4.mono fun g _ e => .inl e)
  have e4 : (outK k m).l.length = q := by show (k.l.drop m).length = q; rw [List.length_drop]; omega
  have i2 : IAt (fun g => g = g2) w4 (some ⟨g2, 0, none⟩) (k.l.drop m) := (iat_own r2 (fun a ha => hin a (List.mem_of_mem_drop ha))).keep hk4 (fun g h1 h2 => by have h1 : g = g2 := h1; rcases h2 with h2 | h2 <;> omega)
  have i1 : IAt (fun g => g = g1) w4 (some ⟨g1, 0, none⟩) (k.l.take m) := (((iat_own r1 (fun a ha => hin a (List.mem_of_mem_take ha))).below b2)).keep hk4 (fun g h1 h2 => by have h1 : g = g1 := h1; rcases h2 with h2 | h2 <;> omega)
  have hlim := h.lim.of_block (kp.block i li (fun e => by rcases e with e | e <;> omega))
  refine ⟨_, _, rfl, fun g => O g ∨ g = g2, _, h.upd (k' := outK k m) (A := some ⟨g2, 0, none⟩) (cp := cap2) (O' := fun g => O g ∨ g = g2) hK (outK_wf hkw m) rfl rfl (hlim.congr fun y _ => ?_) (hj.congr fun y _ => ?_) (by rw [e4]; exact hl) (by rw [e4]; exact q3) q4 (fun g hg => .inl hg) (fun g hg => ?_) (i2.mono fun g _ e => ?_) (kp.mono fun g _ e => by rcases e with e | e; exact .inl e; exact .inr (.inr e)), fun g hg => ?_, kp, i1.mono fun g _ e => ?_⟩
  · by_cases e : y = x
    · subst e; rw [if_pos rfl, hK]; rfl
    · rw [if_neg e]
  · by_cases e : y = x
    · subst e
      rw [if_pos rfl, if_pos rfl]
      show _ = Value.int .i64 ((min k.lo (k.l.length - m) : Nat) : Int)
      rw [hN, show N - m = q from by omega]
    · rw [if_neg e, if_neg e]
  · rcases hg with hg | hg
    · have := h.lt g hg; omega
    · omega
  · have e : g = g2 := e
    exact ⟨.inr e, by omega, by omega, by omega, by omega⟩
  · rcases hg with hg | hg
    · exact .inl hg
    · exact .inr (by omega)
  · have e : g = g1 := e
    refine ⟨by omega, fun ho => ?_⟩
    rcases ho with ho | ho
    · have := h.lt g ho; omega
    · omega
end

set_option linter.unusedSimpArgs false in
set_option maxRecDepth 100000 in
set_option maxHeartbeats 4000000 in
theorem doldest_any {O : Nat → Prop} {B t l i j ct cl ci cj : Nat} {V : Nat → Value} {c : Tc} {w : World} {x n m : Nat} {k : Kl} (h : RcA w O B t l i j ct cl ci cj V c) (hK : c.K[x]? = some k) (hm : min n k.l.length = m) :
    Calls Try.prog 70 #[.pointer (some ⟨B, 0, none⟩), .int .i64 x, .int .i64 n] w (OldP w O B t l i j ct cl ci cj c x m k) := by
  have hkw := h.wf.k k (List.mem_of_getElem? hK)
  obtain ⟨n1, n2, n3, n4, n5, n6, n7, n8, n9, n10⟩ := h.ne
  obtain ⟨oB, ot, ol, oi, oj⟩ := h.ob
  have lB := h.lt B oB
  have ll := h.lt l ol
  have lj := h.lt j oj
  obtain ⟨A, cp, c7, hVV, hcp, hcm, hia⟩ := h.listc hK
  have hx := (List.getElem?_eq_some_iff.1 hK).1
  obtain ⟨_, _, c2, _, c4⟩ := h.cells
  have c5 := h.lowc hK
  have hlen := hkw.len
  have hlo := hkw.low
  obtain ⟨N, hN⟩ : ∃ N, k.l.length = N := ⟨_, rfl⟩
  rw [hN] at hm c7 hcp hlen hlo
  have hmi : min (n : Int) (N : Int) = (m : Int) := by omega
  obtain ⟨q, hq⟩ : ∃ q, m + q = N := ⟨N - m, by omega⟩
  have hin := hia.inr
  -- the two lists
  obtain ⟨W0, hW0⟩ : ∃ W0, w.alloc (.cells #[] 3) = W0 := ⟨_, rfl⟩
  have hb0 : Below w.heap.size w W0 := by rw [← hW0]; exact bnew _ _
  have hE : W0.ownsRow w.heap.size 3 1 (.slice (some ⟨w.heap.size, 0, none⟩) 0 0) 0 [] := own_empty (Nat.le_refl _) (by rw [← hW0]; exact heap_alloc_new w _)
  obtain ⟨g1, cap1, w1, hr1, hrow1, hgr1, _⟩ := run_append_copy W0 w.heap.size w.heap.size hE hb0.size A m cp (k.l.take m) (by rw [List.length_take]; omega) ((hia.below hb0).take m) (by omega)
  have hb1 : Below w.heap.size w w1 := hb0.grown hgr1 hb0.size (fun b e => by injection e with e; omega)
  obtain ⟨W1, hW1⟩ : ∃ W1, w1.drew.alloc (.cells #[] 3) = W1 := ⟨_, rfl⟩
  have hb2 : Below w1.heap.size w1 W1 := by rw [← hW1]; exact (belowN (Below.refl _ w1) 1).alloc (Nat.le_refl _) _
  have hE1 : W1.ownsRow w1.heap.size 3 1 (.slice (some ⟨w1.heap.size, 0, none⟩) 0 0) 0 [] := own_empty (Nat.le_refl _) (by rw [← hW1]; exact World.alloc_heap_new w1.drew _)
  obtain ⟨A3, hA3⟩ : ∃ A3, (if cp = m then A else A.map (·.add m)) = A3 := ⟨_, rfl⟩
  have hia3 := ((hia.below hb1).below hb2).from (c := cp) m (by omega)
  rw [hA3] at hia3
  obtain ⟨g2, cap2, w2, hr2, hrow2, hgr2, _⟩ := run_append_copy W1 w1.heap.size w1.heap.size hE1 hb2.size A3 q (cp - m) (k.l.drop m) (by rw [List.length_drop]; omega) hia3 (by omega)
  have hb3 : Below w1.heap.size w1 w2 := hb2.grown hgr2 hb2.size (fun b e => by injection e with e; omega)
  have hbw2 := btr hb1 hb3 (Nat.le_refl _)
  have hbW1 := btr hb1 hb2 (Nat.le_refl _)
  have HP := Lib.hid (fun (w4 : World) (hl : Cl w4 l c.K.length (fun y => if y = x then .slice (some ⟨g2, 0, none⟩) q cap2 else V y)) (hj : Cl w4 j c.K.length (fun y => if y = x then .int .i64 ((min k.lo q : Nat) : Int) else .int .i64 (((c.K[y]?.map (·.lo)).getD 0 : Nat) : Int))) (hk4 : Keep (fun g => g = l ∨ g = j) w2 w4) =>
    h.old hK hN hq hin hrow1 hb1 hrow2 hb3 hl hj hk4)
  have hs2 := sl_to A N cp m (by omega)
  have hs3 := sl_from A N cp m (by omega)
  rw [hA3, show N - m = q from by omega] at hs3
  have HR1 := Lib.hid hr1
  have HR2 := Lib.hid hr2
  have z2 := (hb0.cell (p := ⟨B, 2, none⟩) lB).trans c2
  have z7 := (hb0.cell (p := ⟨l, x, none⟩) ll).trans c7
  have a2 := (hb1.cell (p := ⟨B, 2, none⟩) lB).trans c2
  have a7 := (hb1.cell (p := ⟨l, x, none⟩) ll).trans c7
  have b2 := (hbW1.cell (p := ⟨B, 2, none⟩) lB).trans c2
  have b7 := (hbW1.cell (p := ⟨l, x, none⟩) ll).trans c7
  have d2 := (hbw2.cell (p := ⟨B, 2, none⟩) lB).trans c2
  have d7 := (hbw2.cell (p := ⟨l, x, none⟩) ll).trans c7
  have hll2 := h.ll.of_block (hbw2.block l ll)
  have f7 := hll2.free x hx
  have HLL := Lib.hid hll2
  have HLW := Lib.hid (h.low.of_block (hbw2.block j lj))
  have HHD := Lib.hid (h.hd.of_block (hbw2.block B lB))
  have HC5 := Lib.hid ((hbw2.cell (p := ⟨j, x, none⟩) lj).trans c5)
  have HCN := Lib.hid (show (dF c (.slice (some ⟨t, 0, none⟩) c.K.length ct) (.slice (some ⟨l, 0, none⟩) c.K.length cl) (.slice (some ⟨i, 0, none⟩) c.K.length ci) (.slice (some ⟨j, 0, none⟩) c.K.length cj)) 4 = .slice (some ⟨j, 0, none⟩) c.K.length cj ∧ (dF c (.slice (some ⟨t, 0, none⟩) c.K.length ct) (.slice (some ⟨l, 0, none⟩) c.K.length cl) (.slice (some ⟨i, 0, none⟩) c.K.length ci) (.slice (some ⟨j, 0, none⟩) c.K.length cj)) 2 = .slice (some ⟨l, 0, none⟩) c.K.length cl from ⟨rfl, rfl⟩)
  obtain ⟨r, hr⟩ : ∃ r, min k.lo q = r := ⟨_, rfl⟩
  rw [hr] at HP
  generalize k.lo = lo at *
  have HMI := Lib.hid (show min (lo : Int) (q : Int) = (r : Int) from by omega)
  generalize c.K.length = L at *
  have hn2 : (x : Int) < (L : Int) := by omega
  have hn0 : (0 : Int) ≤ (x : Int) := by omega
  have m1 : (0 : Int) ≤ (m : Int) := by omega
  have m2 : (m : Int) ≤ (N : Int) := by omega
  have m3 : (m : Int) ≤ (cp : Int) := by omega
  have HK2 := Lib.hid (fun v => (World.cell?_setCell_other w2 ⟨l, x, none⟩ ⟨B, 2, none⟩ v (fun e => n2 (by injection e))).trans d2)
  have N1 := Lib.hid (And.intro n2 (And.intro n4 n9))
  clear h hK hN hkw hia hia3 hr1 hr2 hrow1 hrow2 hgr1 hgr2 hb0 hb1 hb2 hb3 hbw2 hbW1 hE hE1 hA3 hll2 hr hm hVV hin n1 n2 n3 n4 n5 n6 n7 n8 n9 n10 oB ot ol oi oj c4 c5 hlo hq
  rcases Nat.lt_or_ge N n with hc | hc
  · obtain rfl : m = N := by omega
    have hgt : ¬ (n : Int) ≤ (m : Int) := by omega
    go_enter Try.func70, Try.ntmps70
    go_wp2_with (at_builtin; refine Lib.wpList_append_run _ rfl _ _ _ _ rfl _ _ rfl rfl _ _ HR1.out ?_)
    clear hs2 c2 c7 z2 z7
    refine wp_region_noPanic ?_
    refine wp_region_held_drew (S := fun w' => w'.cell? ⟨B, 2, none⟩ = some (.slice (some ⟨l, 0, none⟩) L cl)) (by kernel_rfl) ?_ ?_
    · first | exact a2 | exact b2 | exact d2 | exact HK2.out _
    intro hHeld
    refine wpAnyH_take (i := 0) (v := ?_) rfl (by kernel_rfl) (by kernel_rfl) (by kernel_rfl) (fun _ _ _ h => h) (Or.inl ⟨by rfl, ?_⟩) (by assumption) ?_
    rotate_left
    · (intro W hSW; (try dsimp only at hSW); go_simp; try with_reducible rfl)
    (try simp only [Act.put, List.setIfInBounds_toArray, List.set_cons_zero, List.set_cons_succ])
    refine wpAnyH_take (i := 1) (v := ?_) rfl (by kernel_rfl) (by kernel_rfl) (by kernel_rfl) (fun _ _ _ h => h) (Or.inl ⟨by rfl, ?_⟩) (by assumption) ?_
    rotate_left
    · (intro W hSW; (try dsimp only at hSW); go_simp; try with_reducible rfl)
    (try simp only [Act.put, List.setIfInBounds_toArray, List.set_cons_zero, List.set_cons_succ])
    refine wpAnyH_take (i := 2) (v := ?_) rfl (by kernel_rfl) (by kernel_rfl) (by kernel_rfl) (fun _ _ _ h => h) (Or.inl ⟨by rfl, ?_⟩) (by assumption) ?_
    rotate_left
    · (intro W hSW; (try dsimp only at hSW); go_simp; try with_reducible rfl)
    (try simp only [Act.put, List.setIfInBounds_toArray, List.set_cons_zero, List.set_cons_succ])
    refine wpAnyH_take (i := 3) (v := ?_) rfl (by kernel_rfl) (by kernel_rfl) (by kernel_rfl) (fun _ _ _ h => h) (Or.inl ⟨by rfl, ?_⟩) (by assumption) ?_
    rotate_left
    · (intro W hSW; (try dsimp only at hSW); go_simp; try with_reducible rfl)
    (try simp only [Act.put, List.setIfInBounds_toArray, List.set_cons_zero, List.set_cons_succ])
    refine wpAnyH_take (i := 4) (v := ?_) rfl (by kernel_rfl) (by kernel_rfl) (by kernel_rfl) (fun _ _ _ h => h) (Or.inl ⟨by rfl, ?_⟩) (by assumption) ?_
    rotate_left
    · (intro W hSW; (try dsimp only at hSW); go_simp; try with_reducible rfl)
    (try simp only [Act.put, List.setIfInBounds_toArray, List.set_cons_zero, List.set_cons_succ])
    refine wpAnyH_take (i := 6) (v := ?_) rfl (by kernel_rfl) (by kernel_rfl) (by kernel_rfl) (fun _ _ _ h => h) (Or.inl ⟨by rfl, ?_⟩) (by assumption) ?_
    rotate_left
    · (intro W hSW; (try dsimp only at hSW); go_simp; try with_reducible rfl)
    (try simp only [Act.put, List.setIfInBounds_toArray, List.set_cons_zero, List.set_cons_succ])
    refine wpAnyH_take (i := 7) (v := ?_) rfl (by kernel_rfl) (by kernel_rfl) (by kernel_rfl) (fun _ _ _ h => h) (Or.inl ⟨by rfl, ?_⟩) (by assumption) ?_
    rotate_left
    · (intro W hSW; (try dsimp only at hSW); go_simp; try with_reducible rfl)
    (try simp only [Act.put, List.setIfInBounds_toArray, List.set_cons_zero, List.set_cons_succ])
    refine wpAnyH_take (i := 8) (v := ?_) rfl (by kernel_rfl) (by kernel_rfl) (by kernel_rfl) (fun _ _ _ h => h) (Or.inl ⟨by rfl, ?_⟩) (by assumption) ?_
    rotate_left
    · (intro W hSW; (try dsimp only at hSW); go_simp; try with_reducible rfl)
    (try simp only [Act.put, List.setIfInBounds_toArray, List.set_cons_zero, List.set_cons_succ])
    refine wpAnyH_take (i := 9) (v := ?_) rfl (by kernel_rfl) (by kernel_rfl) (by kernel_rfl) (fun _ _ _ h => h) (Or.inl ⟨by rfl, ?_⟩) (by assumption) ?_
    rotate_left
    · (intro W hSW; (try dsimp only at hSW); go_simp; try with_reducible rfl)
    (try simp only [Act.put, List.setIfInBounds_toArray, List.set_cons_zero, List.set_cons_succ])
    refine wpAnyH_take (i := 10) (v := ?_) rfl (by kernel_rfl) (by kernel_rfl) (by kernel_rfl) (fun _ _ _ h => h) (Or.inl ⟨by rfl, ?_⟩) (by assumption) ?_
    rotate_left
    · (intro W hSW; (try dsimp only at hSW); go_simp; try with_reducible rfl)
    (try simp only [Act.put, List.setIfInBounds_toArray, List.set_cons_zero, List.set_cons_succ])
    refine wpAnyH_take (i := 11) (v := ?_) rfl (by kernel_rfl) (by kernel_rfl) (by kernel_rfl) (fun _ _ _ h => h) (Or.inl ⟨by rfl, ?_⟩) (by assumption) ?_
    rotate_left
    · (intro W hSW; (try dsimp only at hSW); go_simp; try with_reducible rfl)
    (try simp only [Act.put, List.setIfInBounds_toArray, List.set_cons_zero, List.set_cons_succ])
    refine wpAnyH_take (i := 13) (v := ?_) rfl (by kernel_rfl) (by kernel_rfl) (by kernel_rfl) (fun _ _ _ h => h) (Or.inl ⟨by rfl, ?_⟩) (by assumption) ?_
    rotate_left
    · (intro W hSW; (try dsimp only at hSW); go_simp; try with_reducible rfl)
    (try simp only [Act.put, List.setIfInBounds_toArray, List.set_cons_zero, List.set_cons_succ])
    refine wpAnyH_ready (rs := [5, 12]) (by kernel_rfl) (by simp) ?_
    refine AllReadyH.cons rfl (fun K hK => ?_) ?_
    · go_simp
      refine hK.out _ _ ?_ ?_
      · ((try dsimp only); first | exact a2 | exact b2 | exact d2 | exact HK2.out _)
      clear hK K hHeld
      intro hHeld
      (try simp only [Act.put, List.setIfInBounds_toArray, List.set_cons_zero, List.set_cons_succ])
      refine wpAnyH_ready (rs := [12]) (by kernel_rfl) (by simp) ?_
      refine AllReadyH.cons rfl (fun K hK => ?_) ?_
      · go_simp
        refine hK.out _ _ ?_ ?_
        · ((try dsimp only); first | exact a2 | exact b2 | exact d2 | exact HK2.out _)
        clear hK K hHeld
        intro hHeld
        (try simp only [Act.put, List.setIfInBounds_toArray, List.set_cons_zero, List.set_cons_succ])
        refine wpAnyH_take (i := 14) (v := ?_) rfl (by kernel_rfl) (by kernel_rfl) (by kernel_rfl) (fun _ _ _ h => h) (Or.inl ⟨by rfl, ?_⟩) (by assumption) ?_
        rotate_left
        · (intro W hSW; (try dsimp only at hSW); go_simp; try with_reducible rfl)
        (try simp only [Act.put, List.setIfInBounds_toArray, List.set_cons_zero, List.set_cons_succ])
        refine wpAnyH_ready (rs := [15]) (by kernel_rfl) (by simp) ?_
        refine AllReadyH.cons rfl (fun K hK => ?_) ?_
        · refine step_run W1 (by rfl) (.tmp 34) (.tmp 43) 33 (by rfl) _ _ (by rfl) (by rfl) HR2.out ?_
          refine hK.out _ _ ?_ ?_
          · ((try dsimp only); first | exact a2 | exact b2 | exact d2 | exact HK2.out _)
          clear hK K hHeld
          intro hHeld
          (try simp only [Act.put, List.setIfInBounds_toArray, List.set_cons_zero, List.set_cons_succ])
          refine wpAnyH_take (i := 16) (v := ?_) rfl (by kernel_rfl) (by kernel_rfl) (by kernel_rfl) (fun _ _ _ h => h) (Or.inl ⟨by rfl, ?_⟩) (by assumption) ?_
          rotate_left
          · (intro W hSW; (try dsimp only at hSW); go_simp; try with_reducible rfl)
          (try simp only [Act.put, List.setIfInBounds_toArray, List.set_cons_zero, List.set_cons_succ])
          refine wpAnyH_ready (rs := [17]) (by kernel_rfl) (by simp) ?_
          refine AllReadyH.cons rfl (fun K hK => ?_) ?_
          · go_simp
            refine hK.out _ _ ?_ ?_
            · ((try dsimp only); first | exact a2 | exact b2 | exact d2 | exact HK2.out _)
            clear hK K hHeld
            intro hHeld
            (try simp only [Act.put, List.setIfInBounds_toArray, List.set_cons_zero, List.set_cons_succ])
            refine wpAnyH_done (by kernel_rfl) ?_ _
            refine NoPanic.normal ?_
            clear hHeld
            go_wp2
            obtain ⟨wa, hwa⟩ : ∃ wa, wa = w2.setCell ⟨l, x, none⟩ (.slice (some ⟨g2, 0, none⟩) q cap2) := ⟨_, rfl⟩
            have HL2 := Lib.hid (show Cl wa l L (fun y => if y = x then .slice (some ⟨g2, 0, none⟩) q cap2 else V y) from by rw [hwa]; exact HLL.out.set x _)
            have hlw : Cl wa j L (fun x => .int .i64 (((c.K[x]?.map (·.lo)).getD 0 : Nat) : Int)) := by rw [hwa]; exact HLW.out.other (a := ⟨l, x, none⟩) (fun e => N1.out.2.2 e.symm) _
            have hhd := HHD.out.other (a := ⟨l, x, none⟩) (fun e => N1.out.1 e.symm) (.slice (some ⟨g2, 0, none⟩) q cap2)
            rw [← hwa] at hhd
            have e4 := hhd.cell 4 (by omega)
            have e2 := hhd.cell 2 (by omega)
            rw [HCN.out.1] at e4
            rw [HCN.out.2] at e2
            have e5 : wa.cell? ⟨j, x, none⟩ = some (.int .i64 lo) := by rw [hwa]; exact (World.cell?_setCell_other w2 _ _ _ (fun e => N1.out.2.2 (by injection e))).trans HC5.out
            have e7 : wa.cell? ⟨l, x, none⟩ = some (.slice (some ⟨g2, 0, none⟩) q cap2) := by have := HL2.out.cell x hx; rw [if_pos rfl] at this; exact this
            have k5 := hlw.free x hx
            have HW2 := Lib.hid hlw
            have HK3 := Lib.hid (show Keep (fun g => g = l ∨ g = j) w2 wa from by rw [hwa]; exact keep_set (F := fun g => g = l ∨ g = j) (Keep.refl _ _) (.inl rfl) _)
            have hmn := HMI.out
            rw [← hwa]
            clear hwa hlw hhd a2 a7 b2 b7 d2 d7 f7 hs3 hmi
            rcases Nat.lt_or_ge q lo with hlq | hlq
            · obtain rfl : r = q := by omega
              have hlq2 : ¬ (lo : Int) ≤ (r : Int) := by omega
              have hmn2 : min (lo : Int) (r : Int) = (r : Int) := by omega
              clear hmn
              go_region
              go_wp2
              go_ret
              exact HP.out _ ((HL2.out.other (a := ⟨j, x, none⟩) N1.out.2.2 _).of_block rfl) ((HW2.out.set x _).of_block rfl) ((keep_set (F := fun g => g = l ∨ g = j) HK3.out (.inr rfl) _).trans (Keep.of (belowN (Below.refl _ _) 1)))
            · obtain rfl : r = lo := by omega
              have hlq2 : (r : Int) ≤ (q : Int) := by omega
              have hmn2 : min (r : Int) (q : Int) = (r : Int) := by omega
              clear hmn
              go_region
              go_wp2
              go_ret
              exact HP.out _ ((HL2.out.other (a := ⟨j, x, none⟩) N1.out.2.2 _).of_block rfl) ((HW2.out.set x _).of_block rfl) ((keep_set (F := fun g => g = l ∨ g = j) HK3.out (.inr rfl) _).trans (Keep.of (belowN (Below.refl _ _) 1)))
          exact AllReadyH.nil
        exact AllReadyH.nil
      exact AllReadyH.nil
    refine AllReadyH.cons rfl (fun K hK => ?_) ?_
    · go_simp
      refine hK.out _ _ ?_ ?_
      · ((try dsimp only); first | exact a2 | exact b2 | exact d2 | exact HK2.out _)
      clear hK K hHeld
      intro hHeld
      (try simp only [Act.put, List.setIfInBounds_toArray, List.set_cons_zero, List.set_cons_succ])
      refine wpAnyH_take (i := 14) (v := ?_) rfl (by kernel_rfl) (by kernel_rfl) (by kernel_rfl) (fun _ _ _ h => h) (Or.inl ⟨by rfl, ?_⟩) (by assumption) ?_
      rotate_left
      · (intro W hSW; (try dsimp only at hSW); go_simp; try with_reducible rfl)
      (try simp only [Act.put, List.setIfInBounds_toArray, List.set_cons_zero, List.set_cons_succ])
      refine wpAnyH_ready (rs := [5]) (by kernel_rfl) (by simp) ?_
      refine AllReadyH.cons rfl (fun K hK => ?_) ?_
      · go_simp
        refine hK.out _ _ ?_ ?_
        · ((try dsimp only); first | exact a2 | exact b2 | exact d2 | exact HK2.out _)
        clear hK K hHeld
        intro hHeld
        (try simp only [Act.put, List.setIfInBounds_toArray, List.set_cons_zero, List.set_cons_succ])
        refine wpAnyH_ready (rs := [15]) (by kernel_rfl) (by simp) ?_
        refine AllReadyH.cons rfl (fun K hK => ?_) ?_
        · refine step_run W1 (by rfl) (.tmp 34) (.tmp 43) 33 (by rfl) _ _ (by rfl) (by rfl) HR2.out ?_
          refine hK.out _ _ ?_ ?_
          · ((try dsimp only); first | exact a2 | exact b2 | exact d2 | exact HK2.out _)
          clear hK K hHeld
          intro hHeld
          (try simp only [Act.put, List.setIfInBounds_toArray, List.set_cons_zero, List.set_cons_succ])
          refine wpAnyH_take (i := 16) (v := ?_) rfl (by kernel_rfl) (by kernel_rfl) (by kernel_rfl) (fun _ _ _ h => h) (Or.inl ⟨by rfl, ?_⟩) (by assumption) ?_
          rotate_left
          · (intro W hSW; (try dsimp only at hSW); go_simp; try with_reducible rfl)
          (try simp only [Act.put, List.setIfInBounds_toArray, List.set_cons_zero, List.set_cons_succ])
          refine wpAnyH_ready (rs := [17]) (by kernel_rfl) (by simp) ?_
          refine AllReadyH.cons rfl (fun K hK => ?_) ?_
          · go_simp
            refine hK.out _ _ ?_ ?_
            · ((try dsimp only); first | exact a2 | exact b2 | exact d2 | exact HK2.out _)
            clear hK K hHeld
            intro hHeld
            (try simp only [Act.put, List.setIfInBounds_toArray, List.set_cons_zero, List.set_cons_succ])
            refine wpAnyH_done (by kernel_rfl) ?_ _
            refine NoPanic.normal ?_
            clear hHeld
            go_wp2
            obtain ⟨wa, hwa⟩ : ∃ wa, wa = w2.setCell ⟨l, x, none⟩ (.slice (some ⟨g2, 0, none⟩) q cap2) := ⟨_, rfl⟩
            have HL2 := Lib.hid (show Cl wa l L (fun y => if y = x then .slice (some ⟨g2, 0, none⟩) q cap2 else V y) from by rw [hwa]; exact HLL.out.set x _)
            have hlw : Cl wa j L (fun x => .int .i64 (((c.K[x]?.map (·.lo)).getD 0 : Nat) : Int)) := by rw [hwa]; exact HLW.out.other (a := ⟨l, x, none⟩) (fun e => N1.out.2.2 e.symm) _
            have hhd := HHD.out.other (a := ⟨l, x, none⟩) (fun e => N1.out.1 e.symm) (.slice (some ⟨g2, 0, none⟩) q cap2)
            rw [← hwa] at hhd
            have e4 := hhd.cell 4 (by omega)
            have e2 := hhd.cell 2 (by omega)
            rw [HCN.out.1] at e4
            rw [HCN.out.2] at e2
            have e5 : wa.cell? ⟨j, x, none⟩ = some (.int .i64 lo) := by rw [hwa]; exact (World.cell?_setCell_other w2 _ _ _ (fun e => N1.out.2.2 (by injection e))).trans HC5.out
            have e7 : wa.cell? ⟨l, x, none⟩ = some (.slice (some ⟨g2, 0, none⟩) q cap2) := by have := HL2.out.cell x hx; rw [if_pos rfl] at this; exact this
            have k5 := hlw.free x hx
            have HW2 := Lib.hid hlw
            have HK3 := Lib.hid (show Keep (fun g => g = l ∨ g = j) w2 wa from by rw [hwa]; exact keep_set (F := fun g => g = l ∨ g = j) (Keep.refl _ _) (.inl rfl) _)
            have hmn := HMI.out
            rw [← hwa]
            clear hwa hlw hhd a2 a7 b2 b7 d2 d7 f7 hs3 hmi
            rcases Nat.lt_or_ge q lo with hlq | hlq
            · obtain rfl : r = q := by omega
              have hlq2 : ¬ (lo : Int) ≤ (r : Int) := by omega
              have hmn2 : min (lo : Int) (r : Int) = (r : Int) := by omega
              clear hmn
              go_region
              go_wp2
              go_ret
              exact HP.out _ ((HL2.out.other (a := ⟨j, x, none⟩) N1.out.2.2 _).of_block rfl) ((HW2.out.set x _).of_block rfl) ((keep_set (F := fun g => g = l ∨ g = j) HK3.out (.inr rfl) _).trans (Keep.of (belowN (Below.refl _ _) 1)))
            · obtain rfl : r = lo := by omega
              have hlq2 : (r : Int) ≤ (q : Int) := by omega
              have hmn2 : min (r : Int) (q : Int) = (r : Int) := by omega
              clear hmn
              go_region
              go_wp2
              go_ret
              exact HP.out _ ((HL2.out.other (a := ⟨j, x, none⟩) N1.out.2.2 _).of_block rfl) ((HW2.out.set x _).of_block rfl) ((keep_set (F := fun g => g = l ∨ g = j) HK3.out (.inr rfl) _).trans (Keep.of (belowN (Below.refl _ _) 1)))
          exact AllReadyH.nil
        exact AllReadyH.nil
      exact AllReadyH.nil
    exact AllReadyH.nil
  · obtain rfl : n = m := by omega
    have hgt : (n : Int) ≤ (N : Int) := by omega
    go_enter Try.func70, Try.ntmps70
    go_wp2_with (at_builtin; refine Lib.wpList_append_run _ rfl _ _ _ _ rfl _ _ rfl rfl _ _ HR1.out ?_)
    clear hs2 c2 c7 z2 z7
    refine wp_region_noPanic ?_
    refine wp_region_held_drew (S := fun w' => w'.cell? ⟨B, 2, none⟩ = some (.slice (some ⟨l, 0, none⟩) L cl)) (by kernel_rfl) ?_ ?_
    · first | exact a2 | exact b2 | exact d2 | exact HK2.out _
    intro hHeld
    refine wpAnyH_take (i := 0) (v := ?_) rfl (by kernel_rfl) (by kernel_rfl) (by kernel_rfl) (fun _ _ _ h => h) (Or.inl ⟨by rfl, ?_⟩) (by assumption) ?_
    rotate_left
    · (intro W hSW; (try dsimp only at hSW); go_simp; try with_reducible rfl)
    (try simp only [Act.put, List.setIfInBounds_toArray, List.set_cons_zero, List.set_cons_succ])
    refine wpAnyH_take (i := 1) (v := ?_) rfl (by kernel_rfl) (by kernel_rfl) (by kernel_rfl) (fun _ _ _ h => h) (Or.inl ⟨by rfl, ?_⟩) (by assumption) ?_
    rotate_left
    · (intro W hSW; (try dsimp only at hSW); go_simp; try with_reducible rfl)
    (try simp only [Act.put, List.setIfInBounds_toArray, List.set_cons_zero, List.set_cons_succ])
    refine wpAnyH_take (i := 2) (v := ?_) rfl (by kernel_rfl) (by kernel_rfl) (by kernel_rfl) (fun _ _ _ h => h) (Or.inl ⟨by rfl, ?_⟩) (by assumption) ?_
    rotate_left
    · (intro W hSW; (try dsimp only at hSW); go_simp; try with_reducible rfl)
    (try simp only [Act.put, List.setIfInBounds_toArray, List.set_cons_zero, List.set_cons_succ])
    refine wpAnyH_take (i := 3) (v := ?_) rfl (by kernel_rfl) (by kernel_rfl) (by kernel_rfl) (fun _ _ _ h => h) (Or.inl ⟨by rfl, ?_⟩) (by assumption) ?_
    rotate_left
    · (intro W hSW; (try dsimp only at hSW); go_simp; try with_reducible rfl)
    (try simp only [Act.put, List.setIfInBounds_toArray, List.set_cons_zero, List.set_cons_succ])
    refine wpAnyH_take (i := 4) (v := ?_) rfl (by kernel_rfl) (by kernel_rfl) (by kernel_rfl) (fun _ _ _ h => h) (Or.inl ⟨by rfl, ?_⟩) (by assumption) ?_
    rotate_left
    · (intro W hSW; (try dsimp only at hSW); go_simp; try with_reducible rfl)
    (try simp only [Act.put, List.setIfInBounds_toArray, List.set_cons_zero, List.set_cons_succ])
    refine wpAnyH_take (i := 6) (v := ?_) rfl (by kernel_rfl) (by kernel_rfl) (by kernel_rfl) (fun _ _ _ h => h) (Or.inl ⟨by rfl, ?_⟩) (by assumption) ?_
    rotate_left
    · (intro W hSW; (try dsimp only at hSW); go_simp; try with_reducible rfl)
    (try simp only [Act.put, List.setIfInBounds_toArray, List.set_cons_zero, List.set_cons_succ])
    refine wpAnyH_take (i := 7) (v := ?_) rfl (by kernel_rfl) (by kernel_rfl) (by kernel_rfl) (fun _ _ _ h => h) (Or.inl ⟨by rfl, ?_⟩) (by assumption) ?_
    rotate_left
    · (intro W hSW; (try dsimp only at hSW); go_simp; try with_reducible rfl)
    (try simp only [Act.put, List.setIfInBounds_toArray, List.set_cons_zero, List.set_cons_succ])
    refine wpAnyH_take (i := 8) (v := ?_) rfl (by kernel_rfl) (by kernel_rfl) (by kernel_rfl) (fun _ _ _ h => h) (Or.inl ⟨by rfl, ?_⟩) (by assumption) ?_
    rotate_left
    · (intro W hSW; (try dsimp only at hSW); go_simp; try with_reducible rfl)
    (try simp only [Act.put, List.setIfInBounds_toArray, List.set_cons_zero, List.set_cons_succ])
    refine wpAnyH_take (i := 9) (v := ?_) rfl (by kernel_rfl) (by kernel_rfl) (by kernel_rfl) (fun _ _ _ h => h) (Or.inl ⟨by rfl, ?_⟩) (by assumption) ?_
    rotate_left
    · (intro W hSW; (try dsimp only at hSW); go_simp; try with_reducible rfl)
    (try simp only [Act.put, List.setIfInBounds_toArray, List.set_cons_zero, List.set_cons_succ])
    refine wpAnyH_take (i := 10) (v := ?_) rfl (by kernel_rfl) (by kernel_rfl) (by kernel_rfl) (fun _ _ _ h => h) (Or.inl ⟨by rfl, ?_⟩) (by assumption) ?_
    rotate_left
    · (intro W hSW; (try dsimp only at hSW); go_simp; try with_reducible rfl)
    (try simp only [Act.put, List.setIfInBounds_toArray, List.set_cons_zero, List.set_cons_succ])
    refine wpAnyH_take (i := 11) (v := ?_) rfl (by kernel_rfl) (by kernel_rfl) (by kernel_rfl) (fun _ _ _ h => h) (Or.inl ⟨by rfl, ?_⟩) (by assumption) ?_
    rotate_left
    · (intro W hSW; (try dsimp only at hSW); go_simp; try with_reducible rfl)
    (try simp only [Act.put, List.setIfInBounds_toArray, List.set_cons_zero, List.set_cons_succ])
    refine wpAnyH_take (i := 13) (v := ?_) rfl (by kernel_rfl) (by kernel_rfl) (by kernel_rfl) (fun _ _ _ h => h) (Or.inl ⟨by rfl, ?_⟩) (by assumption) ?_
    rotate_left
    · (intro W hSW; (try dsimp only at hSW); go_simp; try with_reducible rfl)
    (try simp only [Act.put, List.setIfInBounds_toArray, List.set_cons_zero, List.set_cons_succ])
    refine wpAnyH_ready (rs := [5, 12]) (by kernel_rfl) (by simp) ?_
    refine AllReadyH.cons rfl (fun K hK => ?_) ?_
    · go_simp
      refine hK.out _ _ ?_ ?_
      · ((try dsimp only); first | exact a2 | exact b2 | exact d2 | exact HK2.out _)
      clear hK K hHeld
      intro hHeld
      (try simp only [Act.put, List.setIfInBounds_toArray, List.set_cons_zero, List.set_cons_succ])
      refine wpAnyH_ready (rs := [12]) (by kernel_rfl) (by simp) ?_
      refine AllReadyH.cons rfl (fun K hK => ?_) ?_
      · go_simp
        refine hK.out _ _ ?_ ?_
        · ((try dsimp only); first | exact a2 | exact b2 | exact d2 | exact HK2.out _)
        clear hK K hHeld
        intro hHeld
        (try simp only [Act.put, List.setIfInBounds_toArray, List.set_cons_zero, List.set_cons_succ])
        refine wpAnyH_take (i := 14) (v := ?_) rfl (by kernel_rfl) (by kernel_rfl) (by kernel_rfl) (fun _ _ _ h => h) (Or.inl ⟨by rfl, ?_⟩) (by assumption) ?_
        rotate_left
        · (intro W hSW; (try dsimp only at hSW); go_simp; try with_reducible rfl)
        (try simp only [Act.put, List.setIfInBounds_toArray, List.set_cons_zero, List.set_cons_succ])
        refine wpAnyH_ready (rs := [15]) (by kernel_rfl) (by simp) ?_
        refine AllReadyH.cons rfl (fun K hK => ?_) ?_
        · refine step_run W1 (by rfl) (.tmp 34) (.tmp 43) 33 (by rfl) _ _ (by rfl) (by rfl) HR2.out ?_
          refine hK.out _ _ ?_ ?_
          · ((try dsimp only); first | exact a2 | exact b2 | exact d2 | exact HK2.out _)
          clear hK K hHeld
          intro hHeld
          (try simp only [Act.put, List.setIfInBounds_toArray, List.set_cons_zero, List.set_cons_succ])
          refine wpAnyH_take (i := 16) (v := ?_) rfl (by kernel_rfl) (by kernel_rfl) (by kernel_rfl) (fun _ _ _ h => h) (Or.inl ⟨by rfl, ?_⟩) (by assumption) ?_
          rotate_left
          · (intro W hSW; (try dsimp only at hSW); go_simp; try with_reducible rfl)
          (try simp only [Act.put, List.setIfInBounds_toArray, List.set_cons_zero, List.set_cons_succ])
          refine wpAnyH_ready (rs := [17]) (by kernel_rfl) (by simp) ?_
          refine AllReadyH.cons rfl (fun K hK => ?_) ?_
          · go_simp
            refine hK.out _ _ ?_ ?_
            · ((try dsimp only); first | exact a2 | exact b2 | exact d2 | exact HK2.out _)
            clear hK K hHeld
            intro hHeld
            (try simp only [Act.put, List.setIfInBounds_toArray, List.set_cons_zero, List.set_cons_succ])
            refine wpAnyH_done (by kernel_rfl) ?_ _
            refine NoPanic.normal ?_
            clear hHeld
            go_wp2
            obtain ⟨wa, hwa⟩ : ∃ wa, wa = w2.setCell ⟨l, x, none⟩ (.slice (some ⟨g2, 0, none⟩) q cap2) := ⟨_, rfl⟩
            have HL2 := Lib.hid (show Cl wa l L (fun y => if y = x then .slice (some ⟨g2, 0, none⟩) q cap2 else V y) from by rw [hwa]; exact HLL.out.set x _)
            have hlw : Cl wa j L (fun x => .int .i64 (((c.K[x]?.map (·.lo)).getD 0 : Nat) : Int)) := by rw [hwa]; exact HLW.out.other (a := ⟨l, x, none⟩) (fun e => N1.out.2.2 e.symm) _
            have hhd := HHD.out.other (a := ⟨l, x, none⟩) (fun e => N1.out.1 e.symm) (.slice (some ⟨g2, 0, none⟩) q cap2)
            rw [← hwa] at hhd
            have e4 := hhd.cell 4 (by omega)
            have e2 := hhd.cell 2 (by omega)
            rw [HCN.out.1] at e4
            rw [HCN.out.2] at e2
            have e5 : wa.cell? ⟨j, x, none⟩ = some (.int .i64 lo) := by rw [hwa]; exact (World.cell?_setCell_other w2 _ _ _ (fun e => N1.out.2.2 (by injection e))).trans HC5.out
            have e7 : wa.cell? ⟨l, x, none⟩ = some (.slice (some ⟨g2, 0, none⟩) q cap2) := by have := HL2.out.cell x hx; rw [if_pos rfl] at this; exact this
            have k5 := hlw.free x hx
            have HW2 := Lib.hid hlw
            have HK3 := Lib.hid (show Keep (fun g => g = l ∨ g = j) w2 wa from by rw [hwa]; exact keep_set (F := fun g => g = l ∨ g = j) (Keep.refl _ _) (.inl rfl) _)
            have hmn := HMI.out
            rw [← hwa]
            clear hwa hlw hhd a2 a7 b2 b7 d2 d7 f7 hs3 hmi
            rcases Nat.lt_or_ge q lo with hlq | hlq
            · obtain rfl : r = q := by omega
              have hlq2 : ¬ (lo : Int) ≤ (r : Int) := by omega
              have hmn2 : min (lo : Int) (r : Int) = (r : Int) := by omega
              clear hmn
              go_region
              go_wp2
              go_ret
              exact HP.out _ ((HL2.out.other (a := ⟨j, x, none⟩) N1.out.2.2 _).of_block rfl) ((HW2.out.set x _).of_block rfl) ((keep_set (F := fun g => g = l ∨ g = j) HK3.out (.inr rfl) _).trans (Keep.of (belowN (Below.refl _ _) 1)))
            · obtain rfl : r = lo := by omega
              have hlq2 : (r : Int) ≤ (q : Int) := by omega
              have hmn2 : min (r : Int) (q : Int) = (r : Int) := by omega
              clear hmn
              go_region
              go_wp2
              go_ret
              exact HP.out _ ((HL2.out.other (a := ⟨j, x, none⟩) N1.out.2.2 _).of_block rfl) ((HW2.out.set x _).of_block rfl) ((keep_set (F := fun g => g = l ∨ g = j) HK3.out (.inr rfl) _).trans (Keep.of (belowN (Below.refl _ _) 1)))
          exact AllReadyH.nil
        exact AllReadyH.nil
      exact AllReadyH.nil
    refine AllReadyH.cons rfl (fun K hK => ?_) ?_
    · go_simp
      refine hK.out _ _ ?_ ?_
      · ((try dsimp only); first | exact a2 | exact b2 | exact d2 | exact HK2.out _)
      clear hK K hHeld
      intro hHeld
      (try simp only [Act.put, List.setIfInBounds_toArray, List.set_cons_zero, List.set_cons_succ])
      refine wpAnyH_take (i := 14) (v := ?_) rfl (by kernel_rfl) (by kernel_rfl) (by kernel_rfl) (fun _ _ _ h => h) (Or.inl ⟨by rfl, ?_⟩) (by assumption) ?_
      rotate_left
      · (intro W hSW; (try dsimp only at hSW); go_simp; try with_reducible rfl)
      (try simp only [Act.put, List.setIfInBounds_toArray, List.set_cons_zero, List.set_cons_succ])
      refine wpAnyH_ready (rs := [5]) (by kernel_rfl) (by simp) ?_
      refine AllReadyH.cons rfl (fun K hK => ?_) ?_
      · go_simp
        refine hK.out _ _ ?_ ?_
        · ((try dsimp only); first | exact a2 | exact b2 | exact d2 | exact HK2.out _)
        clear hK K hHeld
        intro hHeld
        (try simp only [Act.put, List.setIfInBounds_toArray, List.set_cons_zero, List.set_cons_succ])
        refine wpAnyH_ready (rs := [15]) (by kernel_rfl) (by simp) ?_
        refine AllReadyH.cons rfl (fun K hK => ?_) ?_
        · refine step_run W1 (by rfl) (.tmp 34) (.tmp 43) 33 (by rfl) _ _ (by rfl) (by rfl) HR2.out ?_
          refine hK.out _ _ ?_ ?_
          · ((try dsimp only); first | exact a2 | exact b2 | exact d2 | exact HK2.out _)
          clear hK K hHeld
          intro hHeld
          (try simp only [Act.put, List.setIfInBounds_toArray, List.set_cons_zero, List.set_cons_succ])
          refine wpAnyH_take (i := 16) (v := ?_) rfl (by kernel_rfl) (by kernel_rfl) (by kernel_rfl) (fun _ _ _ h => h) (Or.inl ⟨by rfl, ?_⟩) (by assumption) ?_
          rotate_left
          · (intro W hSW; (try dsimp only at hSW); go_simp; try with_reducible rfl)
          (try simp only [Act.put, List.setIfInBounds_toArray, List.set_cons_zero, List.set_cons_succ])
          refine wpAnyH_ready (rs := [17]) (by kernel_rfl) (by simp) ?_
          refine AllReadyH.cons rfl (fun K hK => ?_) ?_
          · go_simp
            refine hK.out _ _ ?_ ?_
            · ((try dsimp only); first | exact a2 | exact b2 | exact d2 | exact HK2.out _)
            clear hK K hHeld
            intro hHeld
            (try simp only [Act.put, List.setIfInBounds_toArray, List.set_cons_zero, List.set_cons_succ])
            refine wpAnyH_done (by kernel_rfl) ?_ _
            refine NoPanic.normal ?_
            clear hHeld
            go_wp2
            obtain ⟨wa, hwa⟩ : ∃ wa, wa = w2.setCell ⟨l, x, none⟩ (.slice (some ⟨g2, 0, none⟩) q cap2) := ⟨_, rfl⟩
            have HL2 := Lib.hid (show Cl wa l L (fun y => if y = x then .slice (some ⟨g2, 0, none⟩) q cap2 else V y) from by rw [hwa]; exact HLL.out.set x _)
            have hlw : Cl wa j L (fun x => .int .i64 (((c.K[x]?.map (·.lo)).getD 0 : Nat) : Int)) := by rw [hwa]; exact HLW.out.other (a := ⟨l, x, none⟩) (fun e => N1.out.2.2 e.symm) _
            have hhd := HHD.out.other (a := ⟨l, x, none⟩) (fun e => N1.out.1 e.symm) (.slice (some ⟨g2, 0, none⟩) q cap2)
            rw [← hwa] at hhd
            have e4 := hhd.cell 4 (by omega)
            have e2 := hhd.cell 2 (by omega)
            rw [HCN.out.1] at e4
            rw [HCN.out.2] at e2
            have e5 : wa.cell? ⟨j, x, none⟩ = some (.int .i64 lo) := by rw [hwa]; exact (World.cell?_setCell_other w2 _ _ _ (fun e => N1.out.2.2 (by injection e))).trans HC5.out
            have e7 : wa.cell? ⟨l, x, none⟩ = some (.slice (some ⟨g2, 0, none⟩) q cap2) := by have := HL2.out.cell x hx; rw [if_pos rfl] at this; exact this
            have k5 := hlw.free x hx
            have HW2 := Lib.hid hlw
            have HK3 := Lib.hid (show Keep (fun g => g = l ∨ g = j) w2 wa from by rw [hwa]; exact keep_set (F := fun g => g = l ∨ g = j) (Keep.refl _ _) (.inl rfl) _)
            have hmn := HMI.out
            rw [← hwa]
            clear hwa hlw hhd a2 a7 b2 b7 d2 d7 f7 hs3 hmi
            rcases Nat.lt_or_ge q lo with hlq | hlq
            · obtain rfl : r = q := by omega
              have hlq2 : ¬ (lo : Int) ≤ (r : Int) := by omega
              have hmn2 : min (lo : Int) (r : Int) = (r : Int) := by omega
              clear hmn
              go_region
              go_wp2
              go_ret
              exact HP.out _ ((HL2.out.other (a := ⟨j, x, none⟩) N1.out.2.2 _).of_block rfl) ((HW2.out.set x _).of_block rfl) ((keep_set (F := fun g => g = l ∨ g = j) HK3.out (.inr rfl) _).trans (Keep.of (belowN (Below.refl _ _) 1)))
            · obtain rfl : r = lo := by omega
              have hlq2 : (r : Int) ≤ (q : Int) := by omega
              have hmn2 : min (r : Int) (q : Int) = (r : Int) := by omega
              clear hmn
              go_region
              go_wp2
              go_ret
              exact HP.out _ ((HL2.out.other (a := ⟨j, x, none⟩) N1.out.2.2 _).of_block rfl) ((HW2.out.set x _).of_block rfl) ((keep_set (F := fun g => g = l ∨ g = j) HK3.out (.inr rfl) _).trans (Keep.of (belowN (Below.refl _ _) 1)))
          exact AllReadyH.nil
        exact AllReadyH.nil
      exact AllReadyH.nil
    exact AllReadyH.nil
end Go.Proofs.Yticcjelaenhigaa
