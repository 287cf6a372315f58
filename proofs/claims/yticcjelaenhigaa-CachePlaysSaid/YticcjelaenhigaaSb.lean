/- Package cache: New. -/
import Derived.Test.YticcjelaenhigaaSa
namespace Go.Proofs.Yticcjelaenhigaa
open Go.RowKit Go.Lib

def clsK (c : Cs) : Kl := ⟨c.s.toNat, c.b.toNat, 1, 0, []⟩
def okB (g : Int) : Bool := decide (0 ≤ g ∧ g ≤ 65536)
def newT (t : List Cs) (g : Int) : Option Tc := if okT t = true ∧ okB g = true then some ⟨g.toNat, t.map clsK⟩ else none
def newE (t : List Cs) (g : Int) : Int := if okT t = true then if okB g = true then 0 else 1 else 2
theorem clsK_wf {c : Cs} (h : okC c = true) : KWf (clsK c) := by
  obtain ⟨s, p, b⟩ := c
  obtain ⟨h1, h2, h3, h4, h5, h6, h7, h8⟩ := okC_bd h
  exact ⟨by show 8 ≤ s.toNat; omega, by show s.toNat ≤ 512; omega, by show 1 ≤ b.toNat; omega, by show b.toNat ≤ 32; omega, Nat.le_refl _, by show 1 ≤ 128; omega, Nat.le_refl _, by show 0 ≤ 256; omega⟩
theorem okT_at {t : List Cs} (h : okT t = true) {i : Nat} {c : Cs} (hc : t[i]? = some c) : okC c = true := by
  have hi := (List.getElem?_eq_some_iff.1 hc).1
  have h1 := okT_all h i hi
  unfold okAt at h1
  rw [Bool.and_eq_true, List.getD_eq_getElem?_getD, hc] at h1
  exact h1.1
theorem newT_wf {t : List Cs} {g : Int} (h : okT t = true) (hg : okB g = true) : TWf ⟨g.toNat, t.map clsK⟩ := by
  have hl := okT_len h
  unfold okB at hg
  rw [decide_eq_true_eq] at hg
  exact ⟨by show g.toNat ≤ 65536; omega, by show 1 ≤ (t.map clsK).length; rw [List.length_map]; exact hl.1, by show (t.map clsK).length ≤ 40; rw [List.length_map]; exact hl.2, fun x hx => by
    obtain ⟨c, hc, rfl⟩ := List.mem_map.1 hx
    obtain ⟨i, hi⟩ := List.mem_iff_getElem?.1 hc
    exact clsK_wf (okT_at h hi)⟩
/-- What New of a cache leaves. -/
def TNewP (r : Bool) (w : World) (om : Option Tc) (err : Int) (e : Ending) (w' : World) : Prop :=
  ∃ v, e = .returned (.tuple #[.pointer v, .int .i64 err]) ∧ TOb r w' (Nw w w') (.pointer v) om ∧ (om = none ↔ v = none) ∧ Below w.heap.size w w'
theorem TNewP.bad {r : Bool} {w w' : World} {err : Int} {e : Ending} (he : e = .returned (.tuple #[.pointer none, .int .i64 err])) (hb : Below w.heap.size w w') : TNewP r w none err e w' :=
  ⟨_, he, ⟨.inl rfl, fun _ hk => hk.2⟩, ⟨fun _ => rfl, fun _ => rfl⟩, hb⟩

/-- The lists so far. -/
structure NwI (w wr : World) (B' M' n : Nat) (p' : Nat → Nat) (g : Nat) (K : List Kl) : Prop where
  bel : Below w.heap.size w wr
  hd : Cl wr B' 2 (fun i => if i = 0 then .int .i64 g else .map (some M'))
  mp : MpA wr M' (List.range n) p'
  each : ∀ i k, i < n → K[i]? = some k → KOb wr (fun j => j = p' i) (p' i) k
  sub : ∀ i, i < n → w.heap.size ≤ p' i ∧ p' i ≠ B' ∧ p' i ≠ M' ∧ p' i < wr.heap.size
  dj : ∀ i i', i < n → i' < n → p' i = p' i' → i = i'
  nw : w.heap.size ≤ B' ∧ w.heap.size ≤ M'
  ne : B' ≠ M'
section
variable {w wr w1 w2 w3 : World} {B' M' n g : Nat} {p' : Nat → Nat} {K : List Kl} {k : Kl}
theorem NwI.end {c : Tc} (h : NwI w wr B' M' c.K.length p' c.g c.K) (hwf : TWf c) : TOb false wr (Nw w wr) (.pointer (some ⟨B', 0, none⟩)) (some c) := by
  have hMl := h.mp.lt
  refine ⟨B', M', List.range c.K.length, p', fun i j => j = p' i, rfl, ⟨hwf, h.hd, h.mp, fun i => List.mem_range, fun i k hk => h.each i k (List.getElem?_eq_some_iff.1 hk).1 hk, fun i hi j hj => ?_, fun i i' j hi hi' h1 h2 => h.dj i i' hi hi' (h1.symm.trans h2), ⟨h.nw.1, h.hd.lt⟩, ⟨h.nw.2, hMl⟩, h.ne, fun j hj => hj.2⟩⟩
  have hj : j = p' i := hj
  subst hj
  have := h.sub i hi
  exact ⟨⟨this.1, this.2.2.2⟩, this.2.1, this.2.2.1⟩
theorem NwI.below (h : NwI w wr B' M' n p' g K) (hb : Below wr.heap.size wr w1) : NwI w w1 B' M' n p' g K :=
  ⟨btr h.bel hb (Nat.le_refl _), h.hd.of_block (hb.block _ h.hd.lt), h.mp.block (hb.block _ h.mp.lt), fun i k hi hk => (h.each i k hi hk).below hb, fun i hi => by have := h.sub i hi; have := hb.size; exact ⟨by omega, by omega, by omega, by omega⟩, h.dj, h.nw, h.ne⟩
/-- A list more. -/
theorem NwI.step (h : NwI w wr B' M' n p' g K) (hk : K[n]? = some k) (hwf : KWf k) (hkl : k.l = []) {t : TypeId} (hw2 : w2 = (wr.drewN 1).alloc (.cells #[.int .i64 k.s, .int .i64 k.b, .slice none 0 0, .int .i64 k.lim, .int .i64 k.lo] t))
    (hmp : MpA w3 M' (List.range n ++ [n]) (fun j => if j = n then wr.heap.size else p' j)) (hgr : w2.grownBy w3 (some M')) : NwI w w3 B' M' (n + 1) (fun j => if j = n then wr.heap.size else p' j) g K := by
  have hwr := h.bel.size
  have s2 : w2.heap.size = wr.heap.size + 1 := by rw [hw2]; simp
  have s3 := hgr.size
  have hM'l := h.mp.lt
  have hB'l := h.hd.lt
  have b2 : Below wr.heap.size wr w2 := by rw [hw2]; exact (belowN (Below.refl _ wr) 1).alloc (Nat.le_refl _) _
  have hcl : Cl w2 wr.heap.size 5 (kF k (.slice none 0 0)) := by
    rw [hw2]
    exact Cl.new (wr.drewN 1) fun i hi => by rcases five hi with rfl | rfl | rfl | rfl | rfl <;> rfl
  have o3 : ∀ j, j < w2.heap.size → j ≠ M' → w3.heap[j]? = w2.heap[j]? := fun j hj hne => hgr.block j hj (fun e => hne (by cases e; rfl))
  have k3 : Keep (fun j => j = M') w2 w3 := ⟨hgr.os, hgr.tape, hgr.output, hgr.size, fun j hj hne => o3 j hj hne⟩
  refine ⟨?_, h.hd.of_block ((o3 _ (by omega) h.ne).trans (b2.block _ hB'l)), by rw [List.range_succ]; exact hmp, fun i k2 hi hk2 => ?_, fun i hi => ?_, fun i i' hi hi' e => ?_, h.nw, h.ne⟩
  · exact grown_below (btr h.bel b2 (Nat.le_refl _)) hgr h.nw.2 (Nat.le_refl _)
  · show KOb w3 (fun j => j = if i = n then _ else _) (if i = n then _ else _) k2
    by_cases e : i = n
    · subst e
      rw [if_pos rfl]
      rw [hk] at hk2
      injection hk2 with hk2
      subst hk2
      refine ⟨.slice none 0 0, hwf, hcl.of_block (o3 _ (by omega) (by omega)), by rw [hkl]; exact OffR.nil _ _, fun g hg => (by cases hg), rfl, fun a ha => (by rw [hkl] at ha; cases ha), fun j hj => by have hj : j = wr.heap.size := hj; omega⟩
    · rw [if_neg e]
      exact ((h.each i k2 (by omega) hk2).below b2).keep k3 (fun j h1 h2 => by have := h.sub i (by omega); rw [h1] at h2; exact this.2.2.1 h2)
  · show w.heap.size ≤ (if i = n then _ else _) ∧ (if i = n then _ else _) ≠ B' ∧ (if i = n then _ else _) ≠ M' ∧ (if i = n then _ else _) < w3.heap.size
    by_cases e : i = n
    · rw [if_pos e]
      exact ⟨by omega, by omega, by omega, by omega⟩
    · rw [if_neg e]
      have := h.sub i (by omega)
      exact ⟨this.1, this.2.1, this.2.2.1, by omega⟩
  · have e : (if i = n then wr.heap.size else p' i) = (if i' = n then wr.heap.size else p' i') := e
    by_cases h1 : i = n
    · by_cases h2 : i' = n
      · rw [h1, h2]
      · rw [if_pos h1, if_neg h2] at e
        have := h.sub i' (by omega)
        omega
    · by_cases h2 : i' = n
      · rw [if_neg h1, if_pos h2] at e
        have := h.sub i (by omega)
        omega
      · rw [if_neg h1, if_neg h2] at e
        exact h.dj i i' (by omega) (by omega) e
end

set_option maxRecDepth 100000 in
set_option maxHeartbeats 4000000 in
theorem cNew_any (A : Option Addr) (cap : Nat) (t : List Cs) (g : Int) (w : World) (hl : t.length ≤ 9223372036854775807) (hT : TabAt w w.heap.size A t) :
    Calls Try.prog 16 #[.slice A t.length cap, .int .i64 g] w (TNewP false w (newT t g) (newE t g)) := by
  have HV := Lib.hid (Valid_any A cap t w hl hT)
  by_cases hok : okT t = true
  · by_cases hb : okB g = true
    · have e1 : newE t g = 0 := by unfold newE; rw [if_pos hok, if_pos hb]
      have e2 : newT t g = some ⟨g.toNat, t.map clsK⟩ := if_pos ⟨hok, hb⟩
      rw [e1, e2]
      rw [hok] at HV
      have HWF := Lib.hid (newT_wf hok hb)
      have hl40 := okT_len hok
      have HOK := Lib.hid hok
      obtain ⟨n, hn⟩ : ∃ n : Nat, t.length = n := ⟨_, rfl⟩
      have HN := Lib.hid hn
      have HT := Lib.hid hT
      rw [hn] at HV hl40 ⊢
      unfold okB at hb
      rw [decide_eq_true_eq] at hb
      obtain ⟨gn, hgn⟩ : ∃ gn : Nat, g = (gn : Int) := ⟨g.toNat, by omega⟩
      subst hgn
      rw [show ((gn : Int)).toNat = gn from rfl] at HWF ⊢
      have d1 : decide ((gn : Int) < 0) = false := decide_eq_false (by omega)
      have d2 : decide ((65536 : Int) < (gn : Int)) = false := decide_eq_false (by omega)
      have hmm := @run_makeMap Try.prog
      have hnn : n ≤ 40 := hl40.2
      clear hok hb e1 e2 hT hn hl hl40
      go_enter Try.func16, Try.ntmps16
      go_wp2_with (go_at_call 39; refine HV.out.mono ?_; rintro e w1 ⟨rfl, hb1⟩; have HB1 := Lib.hid hb1; clear hb1)
      obtain ⟨W0, hW0⟩ : ∃ W0, (w1.alloc (.map #[] 0)).alloc (.cells #[.int .i64 gn, .map (some w1.heap.size)] 43) = W0 := ⟨_, rfl⟩
      have H0 := Lib.hid (show NwI w W0 (w1.heap.size + 1) w1.heap.size 0 (fun _ => 0) gn (t.map clsK) from by
        have hs1 := HB1.out.size
        rw [← hW0]
        refine ⟨btr HB1.out ((bnew _ _).alloc (by simp) _) (Nat.le_refl _), ?_, (MpA.made w1 _).block (Below.heap_alloc _ _ _ (by simp)), fun i k hi => by omega, fun i hi => by omega, fun i i' hi => by omega, ⟨by omega, hs1⟩, by omega⟩
        have := Cl.new (w1.alloc (.map #[] 0)) (t := 43) (n := 2) (f := fun i => if i = 0 then Value.int .i64 gn else .map (some w1.heap.size)) (a := #[.int .i64 gn, .map (some w1.heap.size)]) (fun i hi => by
          have : i = 0 ∨ i = 1 := by omega
          rcases this with rfl | rfl <;> rfl)
        rw [World.size_alloc] at this
        exact this)
      rw [hW0]
      clear hW0 hmm d1 d2
      go_loopw [24] (fun i wr => ∃ (k : Nat) (p' : Nat → Nat), k ≤ n ∧ i = .int .i64 k ∧ NwI w wr (w1.heap.size + 1) w1.heap.size k p' gn (t.map clsK)) (fun i _ => n - (intOf i).toNat)
      case atStart => exact ⟨0, _, by omega, rfl, H0.out⟩
      case round =>
        clear H0
        obtain ⟨k, p', hk, rfl, hC⟩ := hrel
        have HC := Lib.hid hC
        clear hC
        by_cases hlt : k < n
        · have hk' : k < t.length := by have := HN.out; omega
          obtain ⟨⟨cs, cp, cb⟩, hc⟩ : ∃ c, t[k]? = some c := ⟨_, List.getElem?_eq_getElem hk'⟩
          obtain ⟨bk, o, rfl, hab, g1, g2, g3⟩ := (HT.out.below HC.out.bel) k _ hc
          dsimp only at g1 g2 g3
          have hoc := okT_at HOK.out hc
          have hbd := okC_bd hoc
          obtain ⟨sn, rfl⟩ : ∃ sn : Nat, cs = (sn : Int) := ⟨cs.toNat, by omega⟩
          obtain ⟨bn, rfl⟩ : ∃ bn : Nat, cb = (bn : Int) := ⟨cb.toNat, by omega⟩
          have hK : (t.map clsK)[k]? = some ⟨sn, bn, 1, 0, []⟩ := by rw [List.getElem?_map, hc]; rfl
          obtain ⟨WA, hWA⟩ : ∃ WA, wr.alloc (.cells #[.int .i64 sn, .int .i64 cp, .int .i64 bn] 56) = WA := ⟨_, rfl⟩
          have hbA : Below wr.heap.size wr WA := by rw [← hWA]; exact bnew _ _
          have hCA := HC.out.below hbA
          have z0 : WA.cell? ⟨wr.heap.size, 0, none⟩ = some (.int .i64 sn) := by rw [← hWA]; exact cell_block (heap_alloc_new wr _) rfl
          have z2 : WA.cell? ⟨wr.heap.size, 2, none⟩ = some (.int .i64 bn) := by rw [← hWA]; exact cell_block (heap_alloc_new wr _) rfl
          have y1 := hCA.hd.cell 1 (by omega)
          replace y1 : WA.cell? ⟨w1.heap.size + 1, 1, none⟩ = some (.map (some w1.heap.size)) := y1
          have y1a := fun o => (hCA.below (bnew WA o)).hd.cell 1 (by omega)
          replace y1a : ∀ o, (WA.alloc o).cell? ⟨w1.heap.size + 1, 1, none⟩ = some (.map (some w1.heap.size)) := y1a
          have hm2 : MpA (WA.alloc (.cells #[.int .i64 sn, .int .i64 bn, .slice none 0 0, .int .i64 1, .int .i64 0] 71)).drew w1.heap.size (List.range k) p' := hCA.mp.block (Below.heap_alloc (w := WA) _ _ hCA.mp.lt)
          obtain ⟨w3, hrun, hmp3, hgr3, _⟩ := hm2.put (p' := fun j => if j = k then WA.heap.size else p' j) (i := k) ⟨by omega, by omega⟩ (by simp) (by rw [List.length_range]; unfold maxLen; omega) (fun j hj => if_neg (fun (e : j = k) => by subst e; simp at hj))
          rw [if_pos rfl] at hrun
          have HS := Lib.hid (hCA.step hK (clsK_wf hoc) rfl rfl hmp3 hgr3)
          clear hk' hc hoc hbd hK hbA hCA hm2 hmp3 hgr3
          go_wp2_with fail
          clear hWA g1 g2 g3
          go_region
          go_wp2_with fail
          go_roundw
          case rel => exact ⟨k + 1, _, by omega, by go_num, HS.out⟩
          case measure => simp [intOf]; omega
        · obtain rfl : k = n := by omega
          go_wp2_with fail
          go_ret2
          have hE := HC.out
          rw [show k = (⟨gn, t.map clsK⟩ : Tc).K.length from by show k = (t.map clsK).length; rw [List.length_map]; exact HN.out.symm] at hE
          exact ⟨_, rfl, NwI.end (c := ⟨gn, t.map clsK⟩) hE HWF.out, ⟨(fun e => nomatch e), (fun e => nomatch e)⟩, HC.out.bel⟩
    · have e1 : newE t g = 1 := by unfold newE; rw [if_pos hok, if_neg hb]
      have e2 : newT t g = none := if_neg (fun h => hb h.2)
      rw [e1, e2]
      rw [hok] at HV
      generalize t.length = n at *
      unfold okB at hb
      rw [decide_eq_true_eq] at hb
      have hc : g < 0 ∨ (0 ≤ g ∧ 65536 < g) := by omega
      clear hok e1 e2 hT hb hl
      rcases hc with h1 | ⟨h1, h2⟩
      all_goals
        go_enter Try.func16, Try.ntmps16
        go_wp2_with (go_at_call 39; refine HV.out.mono ?_; rintro e w1 ⟨rfl, hb1⟩; have HB1 := Lib.hid hb1; clear hb1)
        go_ret2
        exact TNewP.bad rfl HB1.out
  · have e1 : newE t g = 2 := by unfold newE; rw [if_neg hok]
    have e2 : newT t g = none := if_neg (fun h => hok h.1)
    rw [e1, e2]
    rw [show okT t = false from by simpa using hok] at HV
    generalize t.length = n at *
    clear hok e1 e2 hT hl
    go_enter Try.func16, Try.ntmps16
    go_wp2_with (go_at_call 39; refine HV.out.mono ?_; rintro e w1 ⟨rfl, hb1⟩; have HB1 := Lib.hid hb1; clear hb1)
    go_ret2
    exact TNewP.bad rfl HB1.out
end Go.Proofs.Yticcjelaenhigaa
