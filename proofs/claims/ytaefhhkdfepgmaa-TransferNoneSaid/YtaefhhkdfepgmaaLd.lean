/- The library's slices.Clone of a batch; appends of numbers. -/
import Derived.Test.YtaefhhkdfepgmaaLc
import Derived.Lib.SliceRun
namespace Go.Proofs.Ytaefhhkdfepgmaa
open Go.RowKit

theorem info3 : (Try.prog.info? 3).map (fun i => (i.zero, i.size, i.bytes)) = some (some (.int .i64 0), 1, 8) := by kernel_rfl
theorem infoInts : (Try.prog.info? 32).map (fun i => (i.zero, i.size, i.bytes)) = some (some (.slice none 0 0), 1, 24) := by kernel_rfl
theorem undInts : Try.prog.underlying 32 = some (.slice 3) := by kernel_rfl
theorem undLL : Try.prog.underlying 40 = some (.slice 32) := by kernel_rfl
theorem own_empty {W : World} {base b : Nat} {t : TypeId} (hb : base ≤ b) (h : W.heap[b]? = some (.cells #[] t (0, 0))) : W.ownsRow base t 1 (.slice (some ⟨b, 0, none⟩) 0 0) 0 [] :=
  ⟨rfl, .inr ⟨b, 0, #[], rfl, hb, h, Nat.le_refl _, Nat.zero_le _, rfl, rfl⟩⟩
def cZ (l : List Int) : List Value := l.map (fun a => .int .i64 a)
theorem cZ_len (l : List Int) : (cZ l).length = l.length := by unfold cZ; rw [List.length_map]
theorem cZ_app (l k : List Int) : cZ (l ++ k) = cZ l ++ cZ k := by unfold cZ; rw [List.map_append]
theorem cZ_at {l : List Int} {i : Nat} {a : Int} (h : l[i]? = some a) : (cZ l)[i]? = some (.int .i64 a) := by unfold cZ; rw [List.getElem?_map, h]; rfl
theorem cZ_one (l : List Int) : ∀ u ∈ cZ l, u.oneCell' = true := by
  intro u hu
  obtain ⟨a, _, rfl⟩ := List.mem_map.1 hu
  rfl
/-- Numbers in memory that are some: where. -/
theorem IAt.some {P : Nat → Prop} {w : World} {A : Option Addr} {l : List Int} (h : IAt P w A l) (hl : 0 < l.length) : ∃ g o, A = .some ⟨g, o, none⟩ ∧ g < w.heap.size ∧ P g ∧ (∀ j u, (cZ l)[j]? = .some u → w.cell? ((⟨g, o, none⟩ : Addr).add j) = .some u) ∧ ∀ a ∈ l, InR a := by
  obtain ⟨g, o, e, h1, h2, _, _⟩ := h 0 l[0] (List.getElem?_eq_getElem hl)
  refine ⟨g, o, e, h1, h2, fun j u hu => ?_, fun a ha => ?_⟩
  · unfold cZ at hu
    rw [List.getElem?_map] at hu
    cases hj : l[j]? with
    | none => rw [hj] at hu; cases hu
    | some a =>
      rw [hj] at hu
      injection hu with hu
      subst hu
      obtain ⟨g', o', e', _, _, h3, _⟩ := h j a hj
      rw [e] at e'
      cases e'
      rw [Addr.add_lit]; exact h3
  · obtain ⟨i, hi⟩ := List.mem_iff_getElem?.1 ha
    obtain ⟨_, _, _, _, _, _, h4⟩ := h i a hi
    exact h4
/-- A row of numbers of one's own, as a batch. -/
theorem bt_of {w : World} {base : Nat} {v : Value} {l : List Int} {n : Nat} (h : w.ownsRow base 3 1 v n (cZ l)) (hn : n = l.length) (hl : 0 < l.length) (hr : ∀ a ∈ l, InR a) : ∃ x : Bt, v = x.v ∧ x.l = l ∧ base ≤ x.g ∧ BtAt w x := by
  subst hn
  rcases h.2 with ⟨_, h0⟩ | ⟨g, cap, cur, rfl, hb, hg, h1, h2, h3, h4⟩
  · omega
  · refine ⟨⟨g, l, cap⟩, rfl, rfl, hb, fun i a hi => ⟨?_, hr a (List.mem_of_getElem? hi)⟩, (Array.getElem?_eq_some_iff.1 hg).1⟩
    have hc := h.cells (g := g) rfl i _ (cZ_at hi)
    rwa [Addr.add_lit, Nat.zero_add] at hc

/-- What slices.Clone of a batch of n objects leaves. -/
def BtP (w : World) (l : List Int) (n : Nat) (e : Ending) (w' : World) : Prop := ∃ g c', e = .returned (.slice (some ⟨g, 0, none⟩) n c') ∧ w.heap.size ≤ g ∧ BtAt w' ⟨g, l, c'⟩ ∧ Below w.heap.size w w'
set_option maxRecDepth 100000 in
set_option maxHeartbeats 2000000 in
theorem slClone_any {P : Nat → Prop} (A : Option Addr) (c : Nat) (l : List Int) (w : World) (h0 : 0 < l.length) (h1 : l.length ≤ 60) (hA : IAt P w A l) : Calls Try.prog 30 #[.slice A l.length c] w (BtP w l l.length) := by
  obtain ⟨i0, hi, hz0, hz1, hz2⟩ := info_parts info3
  obtain ⟨g, o, rfl, hg, _, hc, hr⟩ := hA.some h0
  obtain ⟨n, hn⟩ : ∃ n, l.length = n := ⟨_, rfl⟩
  have HN := Lib.hid hn
  have HR := Lib.hid hr
  obtain ⟨W0, hW0⟩ : ∃ W0, w.alloc (.cells #[] 3) = W0 := ⟨_, rfl⟩
  have hb0 : Below w.heap.size w W0 := by rw [← hW0]; exact bnew _ _
  have hE : W0.ownsRow w.heap.size 3 1 (.slice (some ⟨w.heap.size, 0, none⟩) 0 0) 0 [] := own_empty (Nat.le_refl _) (by rw [← hW0]; exact World.alloc_heap_new w _)
  have hC : ∀ j u, (cZ l)[j]? = some u → W0.cell? ((⟨g, o, none⟩ : Addr).add j) = some u := fun j u hu => by
    rw [Addr.add_lit]
    have := hc j u hu
    rw [Addr.add_lit] at this
    exact (hb0.cell (p := ⟨g, _, none⟩) hg).trans this
  have HB := Lib.hid hb0
  have HE := Lib.hid (And.intro hE hC)
  have HS := Lib.hid (show w.heap.size ≤ W0.heap.size from hb0.size)
  have HL := Lib.hid (show (cZ l).length = n * 1 by rw [cZ_len, Nat.mul_one]; exact hn)
  rw [hn] at h0 h1 ⊢
  have q : ∀ (w : World) (a : Option Addr) (n c n' c' : Nat), (binOp .eql 32 (.slice a n c) (.slice none n' c')).run Try.prog w = .ok (.bool a.isNone) w := fun w a n c n' c' => Lib.run_eql_slice_nil w _ _ a n c n' c' undInts
  clear hA hc hr hE hC hb0 hn
  go_enter Try.func30, Try.ntmps30
  go_wp2_with (at_builtin; refine wpList_append_own _ rfl _ _ 32 rfl w.heap.size 3 i0 (.int .i64 0) 1 8 undInts hi hz0 hz1 hz2 rfl (by decide) _ _ _ rfl HE.out.1 ⟨g, o, none⟩ n c (cZ l) rfl HL.out HE.out.2 (cZ_one l) (by unfold maxLen; omega) (by omega) HS.out ?_; intro v' w3 hown' hgrow _; have HO := Lib.hid hown'; have HG := Lib.hid hgrow; clear hown' hgrow)
  go_ret
  have hown := HO.out
  rw [Nat.zero_add, List.nil_append] at hown
  obtain ⟨⟨xg, xl, xc⟩, e, e1, e2, e3⟩ := bt_of hown HN.out.symm (by rw [HN.out]; exact h0) HR.out
  subst e1
  exact ⟨xg, xc, by rw [← HN.out]; exact congrArg Ending.returned e, e2, e3, HB.out.grown HG.out HB.out.size (fun k hk => (HE.out.1.lt k hk).1)⟩
end Go.Proofs.Ytaefhhkdfepgmaa
