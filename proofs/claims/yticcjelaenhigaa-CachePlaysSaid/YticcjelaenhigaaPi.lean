/- Package cache: Clone. -/
import Derived.Test.YticcjelaenhigaaPh
namespace Go.Proofs.Yticcjelaenhigaa
open Go.RowKit Go.Lib

/-- What a clone leaves. -/
def ClnP (r : Bool) (w : World) (om : Option Tc) (e : Ending) (w' : World) : Prop := ∃ v, e = .returned (.pointer v) ∧ TOb r w' (Nw w w') (.pointer v) om ∧ (om = none ↔ v = none) ∧ Below w.heap.size w w'
theorem cln_no {r : Bool} {w w' : World} (hb : Below w.heap.size w w') : ClnP r w none (.returned (.pointer none)) w' := ⟨none, rfl, ⟨.inl rfl, fun _ hk => hk.2⟩, ⟨fun _ => rfl, fun _ => rfl⟩, hb⟩

/-- The lists so far. -/
structure ClI (w wr : World) (B' M' M R : Nat) (Q D : List Nat) (p p' : Nat → Nat) (F' : Nat → Nat → Prop) (c : Tc) : Prop where
  it : Itr wr M R Q D p
  bel : Below w.heap.size w wr
  hd : Cl wr B' 2 (fun i => if i = 0 then .int .i64 c.g else .map (some M'))
  mp : MpA wr M' D p'
  each : ∀ i ∈ D, ∀ k, c.K[i]? = some k → KOb wr (F' i) (p' i) k
  sub : ∀ i ∈ D, ∀ j, F' i j → w.heap.size ≤ j ∧ j ≠ B' ∧ j ≠ M' ∧ j ≠ R
  dj : ∀ i ∈ D, ∀ i' ∈ D, ∀ j, F' i j → F' i' j → i = i'
  nw : w.heap.size ≤ B' ∧ w.heap.size ≤ M' ∧ w.heap.size ≤ R
  ne : B' ≠ M' ∧ B' ≠ R ∧ M' ≠ R
section
variable {w wr w1 w2 w3 : World} {O : Nat → Prop} {B M B' M' R i : Nat} {Q D : List Nat} {p p' : Nat → Nat} {F F' : Nat → Nat → Prop} {c : Tc} {k : Kl}
theorem grown_below {w wr w1 : World} {N R : Nat} (hb : Below N w wr) (hg : wr.grownBy w1 (some R)) (hR : N ≤ R) (hN : N ≤ w.heap.size) : Below N w w1 :=
  ⟨hg.os.trans hb.os, hg.tape.trans hb.tape, hg.output.trans hb.output, Nat.le_trans hb.size hg.size, fun j hj => (hg.block j (by have := hb.size; omega) (fun e => by injection e with e; omega)).trans (hb.block j hj)⟩
theorem ClI.end (h : ClI w wr B' M' M R Q D p p' F' c) (hP : PcA w O B M Q p F c) (hall : ∀ i ∈ Q, i ∈ D) : ClnP false w (some c) (.returned (.pointer (some ⟨B', 0, none⟩))) wr := by
  have hperm := (h.it.all hall).trans hP.perm
  have hmem : ∀ i, i ∈ D ↔ i < c.K.length := fun i => by rw [hperm.mem_iff, List.mem_range]
  have hMl := h.mp.lt
  refine ⟨_, rfl, ⟨B', M', D, p', F', rfl, ⟨hP.wf, h.hd, h.mp, hmem, fun i k hk => h.each i ((hmem i).2 (List.getElem?_eq_some_iff.1 hk).1) k hk, fun i hi j hj => ?_, fun i i' j hi hi' h1 h2 => h.dj i ((hmem i).2 hi) i' ((hmem i').2 hi') j h1 h2, ⟨h.nw.1, h.hd.lt⟩, ⟨h.nw.2.1, hMl⟩, h.ne.1, fun j hj => hj.2⟩⟩, ⟨(fun e => nomatch e), (fun e => nomatch e)⟩, h.bel⟩
  have hs := h.sub i ((hmem i).2 hi) j hj
  have hk := h.each i ((hmem i).2 hi) _ (List.getElem?_eq_getElem hi)
  exact ⟨⟨hs.1, hk.lt j hj⟩, hs.2.1, hs.2.2.1⟩
theorem ClI.step (h : ClI w wr B' M' M R Q D p p' F' c) (hMw : M < w.heap.size) (hQ : ∀ i ∈ Q, i < c.K.length) (hk : c.K[i]? = some k) (hiD : i ∉ D) (hit : Itr w1 M R Q (D ++ [i]) p) (hg : wr.grownBy w1 (some R)) {q n2 : Nat}
    (hko : KOb w2 (Nw (w1.drewN q) w2) n2 k) (hbl : Below w1.heap.size (w1.drewN q) w2) (hmp : MpA w3 M' (D ++ [i]) (fun j => if j = i then n2 else p' j)) (hgr : w2.grownBy w3 (some M')) : ClI w w3 B' M' M R Q (D ++ [i]) p (fun j => if j = i then n2 else p' j) (fun j => if j = i then Nw (w1.drewN q) w2 else F' j) c ∧ w3.rangeLeft M R = w1.rangeLeft M R := by
  have hwr := h.bel.size
  have s1 := hg.size
  have s2 : w1.heap.size ≤ w2.heap.size := hbl.size
  have s3 := hgr.size
  have hM'l := h.mp.lt
  have hB'l := h.hd.lt
  have hRl := h.it.lt
  have b1 : Below w.heap.size w w1 := grown_below h.bel hg h.nw.2.2 (Nat.le_refl _)
  have o2 : ∀ j, j < w1.heap.size → w2.heap[j]? = w1.heap[j]? := fun j hj => hbl.block j hj
  have o3 : ∀ j, j < w2.heap.size → j ≠ M' → w3.heap[j]? = w2.heap[j]? := fun j hj hne => hgr.block j hj (fun e => hne (by cases e; rfl))
  have old : ∀ j, j < wr.heap.size → j ≠ R → j ≠ M' → w3.heap[j]? = wr.heap[j]? := fun j hj h1 h2 => (o3 j (by omega) h2).trans ((o2 j (by omega)).trans (hg.block j hj (fun e => h1 (by cases e; rfl))))
  have hMM' : M ≠ M' := fun e => by have := h.nw.2.1; omega
  have eM : w3.heap[M]? = w1.heap[M]? := (o3 M (by have := hit.map.lt; omega) hMM').trans (o2 M hit.map.lt)
  have eR : w3.heap[R]? = w1.heap[R]? := (o3 R (by omega) (fun e => h.ne.2.2 e.symm)).trans (o2 R (by omega))
  have b2 : Below w.heap.size w w2 := ⟨hbl.os.trans b1.os, hbl.tape.trans b1.tape, hbl.output.trans b1.output, by omega, fun j hj => (o2 j (by omega)).trans (b1.block j hj)⟩
  refine ⟨⟨hit.block eM eR, grown_below b2 hgr h.nw.2.1 (Nat.le_refl _), h.hd.of_block (old B' hB'l h.ne.2.1 h.ne.1), hmp, fun y hy k2 hk2 => ?_, fun y hy j hj => ?_, fun y hy y' hy' j h1 h2 => ?_, h.nw, h.ne⟩, rl_blk eM eR⟩
  · show KOb w3 (if y = i then _ else _) (if y = i then _ else _) k2
    by_cases e : y = i
    · subst e
      rw [if_pos rfl, if_pos rfl]
      rw [hk] at hk2
      injection hk2 with hk2
      subst hk2
      exact hko.keep (O1 := fun j => j = M') ⟨hgr.os, hgr.tape, hgr.output, hgr.size, fun j hj hne => o3 j hj hne⟩ (fun j h1 h2 => by have h1 : w1.heap.size ≤ j := h1.1; omega)
    · rw [if_neg e, if_neg e]
      have hyD : y ∈ D := by
        rcases List.mem_append.1 hy with h1 | h1
        · exact h1
        · exact absurd (List.mem_singleton.1 h1) e
      obtain ⟨V, ha⟩ := h.each y hyD k2 hk2
      have hs := h.sub y hyD
      refine ⟨V, ha.wf, ha.hd.of_block (old _ (ha.lt _ ha.ob) (hs _ ha.ob).2.2.2 (hs _ ha.ob).2.2.1), ha.row.block fun g hg' hl => old g hl (hs g (ha.rowO g hg').1).2.2.2 (hs g (ha.rowO g hg').1).2.2.1, ha.rowO, ha.ob, ha.inr, fun j hj => by have := ha.lt j hj; omega⟩
  · have hj : (if y = i then Nw (w1.drewN q) w2 else F' y) j := hj
    by_cases e : y = i
    · rw [if_pos e] at hj
      have hj : w1.heap.size ≤ j := hj.1
      exact ⟨by omega, by omega, by omega, by omega⟩
    · rw [if_neg e] at hj
      have hyD : y ∈ D := by
        rcases List.mem_append.1 hy with h1 | h1
        · exact h1
        · exact absurd (List.mem_singleton.1 h1) e
      exact h.sub y hyD j hj
  · have h1 : (if y = i then Nw (w1.drewN q) w2 else F' y) j := h1
    have h2 : (if y' = i then Nw (w1.drewN q) w2 else F' y') j := h2
    have inD : ∀ z, z ∈ D ++ [i] → z ≠ i → z ∈ D := fun z hz hne => by
      rcases List.mem_append.1 hz with h1 | h1
      · exact h1
      · exact absurd (List.mem_singleton.1 h1) hne
    have oldF : ∀ z, z ∈ D → F' z j → j < wr.heap.size := fun z hz hf => by
      have hzQ := hQ z (h.it.done.2 z hz)
      exact (h.each z hz _ (List.getElem?_eq_getElem hzQ)).lt j hf
    by_cases e : y = i
    · by_cases e' : y' = i
      · rw [e, e']
      · rw [if_pos e] at h1
        rw [if_neg e'] at h2
        have := oldF y' (inD y' hy' e') h2
        have h1 : w1.heap.size ≤ j := h1.1
        omega
    · rw [if_neg e] at h1
      by_cases e' : y' = i
      · rw [if_pos e'] at h2
        have := oldF y (inD y hy e) h1
        have h2 : w1.heap.size ≤ j := h2.1
        omega
      · rw [if_neg e'] at h2
        exact h.dj y (inD y hy e) y' (inD y' hy' e') j h1 h2
end

set_option maxRecDepth 100000 in
set_option maxHeartbeats 4000000 in
theorem cClone_any {O : Nat → Prop} {v : Value} {om : Option Tc} {w : World} (h : TOb false w O v om) : Calls Try.prog 18 #[v] w (ClnP false w om) := by
  cases om with
  | none =>
    have HM := Lib.hid (cmade_no h.1)
    clear h
    go_enter Try.func18, Try.ntmps18
    go_wp2_with (go_at_call 41; refine HM.out.mono ?_; rintro e w1 ⟨rfl, rfl⟩)
    go_ret
    exact cln_no (Below.refl _ _)
  | some c =>
    obtain ⟨B, M, Q, p, F, rfl, h⟩ := h
    have HM := Lib.hid (cmade_any h)
    have c0 := h.cells.1
    have c1 := h.cells.2
    have HH := Lib.hid h
    have hMl := h.lt _ h.om
    have hBl := h.lt _ h.ob
    obtain ⟨W0, hW0⟩ : ∃ W0, (w.alloc (.map #[] 0)).alloc (.cells #[.int .i64 c.g, .map (some w.heap.size)] 43) = W0 := ⟨_, rfl⟩
    have hb0 : Below w.heap.size w W0 := by rw [← hW0]; exact (bnew _ _).alloc (by simp) _
    have hs0 : W0.heap.size = w.heap.size + 2 := by rw [← hW0]; simp
    have hcl : Cl W0 (w.heap.size + 1) 2 (fun i => if i = 0 then .int .i64 c.g else .map (some w.heap.size)) := by
      rw [← hW0]
      have := Cl.new (w.alloc (.map #[] 0)) (t := 43) (n := 2) (f := fun i => if i = 0 then Value.int .i64 c.g else .map (some w.heap.size)) (a := #[.int .i64 c.g, .map (some w.heap.size)]) (fun i hi => by
        have : i = 0 ∨ i = 1 := by omega
        rcases this with rfl | rfl <;> rfl)
      rw [World.size_alloc] at this
      exact this
    have hmp0 : MpA W0 w.heap.size [] p := by
      rw [← hW0]
      exact (MpA.made w p).block (Below.heap_alloc _ _ _ (by simp))
    have HMP := Lib.hid (h.mp.block (w' := W0) (hb0.block _ hMl))
    have x1 := (h.below hb0).cells.2
    have H0 := Lib.hid (fun (w1 : World) (hit : Itr w1 M W0.heap.size Q [] p) (hb : Below W0.heap.size W0 w1) => show ClI w w1 (w.heap.size + 1) w.heap.size M (w.heap.size + 2) Q [] p p F c from
      ⟨by rw [← hs0]; exact hit, btr hb0 hb (Nat.le_refl _), hcl.of_block (hb.block _ hcl.lt), hmp0.block (hb.block _ hmp0.lt), fun i hi => (by cases hi), fun i hi => (by cases hi), fun i hi => (by cases hi), ⟨by omega, by omega, by omega⟩, ⟨by omega, by omega, by omega⟩⟩)
    have HQL := Lib.hid (fun i (hi : i ∈ Q) => (h.q i).1 hi)
    have HS0 := Lib.hid hs0
    have HML := Lib.hid hMl
    have hmm := @run_makeMap Try.prog
    clear h hb0 hcl hmp0 hBl hMl
    go_enter Try.func18, Try.ntmps18
    go_wp2_with (first
      | (go_at_call 41; refine HM.out.mono ?_; rintro e w1 ⟨rfl, rfl⟩)
      | (at_range; refine wpList_range_itr _ rfl _ rfl rfl HMP.out ?_; intro w0 hit hb hs1; have H1 := Lib.hid (H0.out _ hit hb); clear hit hb hs1))
    go_frame
    rw [hs0]
    go_loopw [] (fun wr => ∃ D p' F', ClI w wr (w.heap.size + 1) w.heap.size M (w.heap.size + 2) Q D p p' F' c) (fun wr => wr.rangeLeft M (w.heap.size + 2))
    case atStart => exact ⟨[], _, _, H1.out⟩
    case round =>
      clear c0 c1 x1 hmm
      obtain ⟨D, p', F', hC⟩ := hrel
      have HC := Lib.hid hC
      have hit := hC.it
      clear hC
      go_wp2_with (first
        | (at_next; refine wpList_next_itr _ rfl _ rfl rfl hit ?_ ?_)
        | go_in)
      · intro hall
        have HA := Lib.hid hall
        clear hall hit
        go_wp2
        go_ret
        exact HC.out.end HH.out HA.out
      · intro i w1 hiQ hiD hit1 hlt hg hs1 hen
        have hil := HQL.out i hiQ
        have hk : c.K[i]? = some c.K[i] := List.getElem?_eq_getElem hil
        obtain ⟨k, hk2⟩ : ∃ k, c.K[i] = k := ⟨_, rfl⟩
        rw [hk2] at hk
        have hn40 := HH.out.wf.n40
        have b1 : Below w.heap.size w w1 := grown_below HC.out.bel hg (by omega) (Nat.le_refl _)
        have hcl1 : Cl w1 (w.heap.size + 1) 2 (fun i => if i = 0 then .int .i64 c.g else .map (some w.heap.size)) := HC.out.hd.of_block (hg.block _ HC.out.hd.lt (fun e => by injection e with e; omega))
        have hmp1 : MpA w1 w.heap.size D p' := HC.out.mp.block (hg.block _ HC.out.mp.lt (fun e => by injection e with e; omega))
        have HCL := Lib.hid (lclone_any (((HH.out.below b1).each i k hk).below (w' := w1.drew) (belowN (Below.refl _ _) 1)))
        have d1 := hcl1.cell 1 (by omega)
        have HD := Lib.hid (fun (w2 : World) (hb : Below w1.heap.size w1.drew w2) => show w2.cell? ⟨w.heap.size + 1, 1, none⟩ = some (.map (some w.heap.size)) from
          (hcl1.of_block (hb.block _ hcl1.lt)).cell 1 (by omega))
        have hnd := HC.out.it.done
        have hDl := nodup_len c.K.length D hnd.1 (fun j hj => HQL.out j (hnd.2 j hj))
        have HPUT := Lib.hid (fun (w2 : World) (n2 : Nat) (hb : Below w1.heap.size w1.drew w2) => show ∃ w3, (Instr.mapUpdate 41 (.map (some w.heap.size)) (.int .i64 (i : Int)) (.pointer (some ⟨n2, 0, none⟩))).run Try.prog w2 = .ok () w3 ∧ MpA w3 w.heap.size (D ++ [i]) (fun j => if j = i then n2 else p' j) ∧ w2.grownBy w3 (some w.heap.size) from by
          have hm2 : MpA w2 w.heap.size D p' := hmp1.block (hb.block _ hmp1.lt)
          obtain ⟨w3, e1, e2, e3, _⟩ := hm2.put (p' := fun j => if j = i then n2 else p' j) (i := i) ⟨by omega, by omega⟩ hiD (by unfold maxLen; omega) (fun j hj => if_neg (fun (e : j = i) => hiD (e ▸ hj)))
          rw [if_pos rfl] at e1
          exact ⟨w3, e1, e2, e3⟩)
        have HN := Lib.hid (And.intro hk (And.intro hiD (And.intro hit1 (And.intro hg hlt))))
        clear hit hiQ hiD hit1 hlt hg hs1 hil hk hk2 b1 hcl1 hmp1 hnd hDl
        go_wp2_with fail
        go_region_law (go_simp; go_at_call 42; refine HCL.out.mono ?_; rintro e w2 ⟨n2, rfl, hko2, hbl2⟩; have d2 := HD.out _ hbl2; obtain ⟨w3, hrun, hmp3, hgr3⟩ := HPUT.out _ n2 hbl2; have HX := Lib.hid (And.intro hko2 (And.intro hbl2 (And.intro hmp3 hgr3))); clear hko2 hbl2 hmp3 hgr3)
        all_goals
          go_wp2
          have HS := Lib.hid (HC.out.step HML.out HQL.out HN.out.1 HN.out.2.1 HN.out.2.2.1 HN.out.2.2.2.1 (q := 1) HX.out.1 HX.out.2.1 HX.out.2.2.1 HX.out.2.2.2)
          go_roundw
          case rel => exact ⟨D ++ [i], _, _, HS.out.1⟩
          case measure =>
            rw [HS.out.2]
            exact HN.out.2.2.2.2
end Go.Proofs.Yticcjelaenhigaa
