/- Package pagemap: Clone. -/
import Derived.Test.YtdjfeibcbmelcaaLo
import Derived.Stop.RegionWithIn
import Derived.Test.YtdjfeibcbmelcaaLq
namespace Go.Proofs.Ytdjfeibcbmelcaa
open Go.RowKit Go.Shelf

attribute [local go_sem] Oper.semAt_some

/-- A clone on the way: the middles so far. -/
structure CnI (w : World) (C RC : Nat) (M : Nat → Int) (cl : Nat → Option Nat) (pre : List Nat) (mc lc : Nat → Option Nat) (X : World) : Prop where
  b : Cl X C 1 (fun _ => .pointer (some ⟨RC, 0, none⟩))
  r : Cl X RC 16 (fun i => pt (mc i))
  mem : ∀ t, mc t ≠ none ↔ t ∈ pre
  m : ∀ t b, mc t = some b → C < b ∧ RC < b ∧ b < X.heap.size ∧ Cl X b 8 (fun s => pt (lc (8 * t + s)))
  l : ∀ k b, lc k = some b → C < b ∧ RC < b ∧ b < X.heap.size ∧ Cl X b 8 (fun n => .int .i64 (M (8 * k + n)))
  lm : ∀ k, lc k ≠ none ↔ k / 8 ∈ pre ∧ cl k ≠ none
  im : ∀ t t' b, mc t = some b → mc t' = some b → t = t'
  il : ∀ k k' b, lc k = some b → lc k' = some b → k = k'
  ml : ∀ t k b, mc t = some b → lc k = some b → False
  bel : Below w.heap.size w X
  cC : w.heap.size ≤ C
  cR : w.heap.size ≤ RC
  ne : C ≠ RC
section
variable {w X Y : World} {C RC : Nat} {M : Nat → Int} {cl : Nat → Option Nat} {pre : List Nat} {mc lc : Nat → Option Nat}
theorem CnI.below (h : CnI w C RC M cl pre mc lc X) (hb : Below X.heap.size X Y) : CnI w C RC M cl pre mc lc Y :=
  ⟨h.b.of_block (hb.block _ h.b.lt), h.r.of_block (hb.block _ h.r.lt), h.mem,
    fun t b e => ⟨(h.m t b e).1, (h.m t b e).2.1, Nat.lt_of_lt_of_le (h.m t b e).2.2.1 hb.size, (h.m t b e).2.2.2.of_block (hb.block _ (h.m t b e).2.2.1)⟩,
    fun k b e => ⟨(h.l k b e).1, (h.l k b e).2.1, Nat.lt_of_lt_of_le (h.l k b e).2.2.1 hb.size, (h.l k b e).2.2.2.of_block (hb.block _ (h.l k b e).2.2.1)⟩,
    h.lm, h.im, h.il, h.ml, h.bel.trans (hb.mono h.bel.size), h.cC, h.cR, h.ne⟩
theorem CnI.grown {row : Option Nat} (h : CnI w C RC M cl pre mc lc X) (hg : X.grownBy Y row) (hr : ∀ r, row = some r → w.heap.size ≤ r ∧ ∃ o : Obj, X.heap[r]? = some o ∧ o.isCells = false) : CnI w C RC M cl pre mc lc Y := by
  have hr' := fun r e => (hr r e).2
  exact ⟨h.b.grown hg hr', h.r.grown hg hr', h.mem,
    fun t b e => ⟨(h.m t b e).1, (h.m t b e).2.1, Nat.lt_of_lt_of_le (h.m t b e).2.2.1 hg.size, (h.m t b e).2.2.2.grown hg hr'⟩,
    fun k b e => ⟨(h.l k b e).1, (h.l k b e).2.1, Nat.lt_of_lt_of_le (h.l k b e).2.2.1 hg.size, (h.l k b e).2.2.2.grown hg hr'⟩,
    h.lm, h.im, h.il, h.ml, h.bel.grown hg (Nat.le_trans h.bel.size (Nat.le_refl _)) (fun k e => by have := (hr k e).1; omega), h.cC, h.cR, h.ne⟩
theorem cn_step {Cm t : Nat} {lf : Nat → Option Nat} (h : CnI w C RC M cl pre mc lc X) (hM : McI X Cm (fun s n => M (8 * (8 * t + s) + n)) (hl (fun s => (cl (8 * t + s)).isSome) 0 8) lf Y) :
    CnI w C RC M cl (pre ++ [t]) (upd mc t (some Cm)) (fun k => if k / 8 = t then lf (k % 8) else lc k) (Y.setCell ⟨RC, t, none⟩ (.pointer (some ⟨Cm, 0, none⟩))) := by
  have hY := h.below hM.bel
  have hsz := hM.bel.size
  have hcw := hM.cw
  have hR := h.r.lt
  have hC := h.b.lt
  have hCm := hM.c.lt
  have hml : ∀ s, lf s ≠ none → s < 8 := fun s hs => by
    have := (hM.mem s).1 hs
    rw [hl_mem] at this
    omega
  refine ⟨hY.b.other h.ne _, ?_, fun t' => ?_, fun t' b e => ?_, fun k b e => ?_, fun k => ?_, fun a a' b e1 e2 => ?_, fun k k' b e1 e2 => ?_, fun a k b e1 e2 => ?_, hY.bel.setCell (p := ⟨RC, t, none⟩) h.cR _, h.cC, h.cR, h.ne⟩
  · refine (hY.r.set t (.pointer (some ⟨Cm, 0, none⟩))).congr fun i hi => ?_
    by_cases e : i = t
    · rw [if_pos e, e, upd_at]; rfl
    · rw [if_neg e, upd_ne _ e]
  · rw [List.mem_append, List.mem_singleton, ← h.mem t']
    by_cases e : t' = t
    · rw [e, upd_at]
      exact ⟨fun _ => .inr rfl, (fun _ h => nomatch h)⟩
    · rw [upd_ne _ e]
      exact ⟨fun h => .inl h, fun h => h.elim id (fun h => absurd h e)⟩
  · rw [World.size_setCell]
    by_cases e2 : t' = t
    · rw [e2, upd_at] at e
      cases e
      refine ⟨by omega, by omega, hCm, ((hM.c.other (a := ⟨RC, t, none⟩) (by show Cm ≠ RC; omega) _)).congr fun s hs => ?_⟩
      rw [if_pos (by omega), show (8 * t' + s) % 8 = s by omega]
    · rw [upd_ne _ e2] at e
      obtain ⟨h1, h2, h3, h4⟩ := hY.m t' b e
      refine ⟨h1, h2, h3, (h4.other (a := ⟨RC, t, none⟩) (by show b ≠ RC; omega) _).congr fun s hs => ?_⟩
      rw [if_neg (by omega)]
  · rw [World.size_setCell]
    by_cases e2 : k / 8 = t
    · rw [if_pos e2] at e
      obtain ⟨h1, h2, h3⟩ := hM.l _ _ e
      refine ⟨by omega, by omega, h2, (h3.other (a := ⟨RC, t, none⟩) (by show b ≠ RC; omega) _).congr fun n hn => ?_⟩
      rw [show 8 * (8 * t + k % 8) + n = 8 * k + n by omega]
    · rw [if_neg e2] at e
      obtain ⟨h1, h2, h3, h4⟩ := hY.l k b e
      exact ⟨h1, h2, h3, h4.other (a := ⟨RC, t, none⟩) (by show b ≠ RC; omega) _⟩
  · rw [List.mem_append, List.mem_singleton]
    by_cases e2 : k / 8 = t
    · rw [if_pos e2, hM.mem, hl_mem]
      have e3 : 8 * t + k % 8 = k := by omega
      rw [e3]
      constructor
      · rintro ⟨_, h3⟩
        exact ⟨.inr e2, fun h => by rw [h] at h3; cases h3⟩
      · rintro ⟨_, h3⟩
        refine ⟨⟨by omega, by omega⟩, ?_⟩
        cases e : cl k with
        | none => exact absurd e h3
        | some b => rfl
    · rw [if_neg e2, h.lm]
      exact ⟨fun h => ⟨.inl h.1, h.2⟩, fun h => ⟨h.1.elim id (fun h => absurd h e2), h.2⟩⟩
  · by_cases ea : a = t
    · by_cases eb : a' = t
      · rw [ea, eb]
      · rw [ea, upd_at] at e1
        rw [upd_ne _ eb] at e2
        cases e1
        have := (h.m a' _ e2).2.2.1
        omega
    · by_cases eb : a' = t
      · rw [eb, upd_at] at e2
        rw [upd_ne _ ea] at e1
        cases e2
        have := (h.m a _ e1).2.2.1
        omega
      · rw [upd_ne _ ea] at e1
        rw [upd_ne _ eb] at e2
        exact h.im _ _ _ e1 e2
  · by_cases ea : k / 8 = t
    · rw [if_pos ea] at e1
      have hb := (hM.l _ _ e1).1
      by_cases eb : k' / 8 = t
      · rw [if_pos eb] at e2
        have := hM.inj _ _ _ e1 e2
        omega
      · rw [if_neg eb] at e2
        have := (h.l k' _ e2).2.2.1
        omega
    · rw [if_neg ea] at e1
      have hb := (h.l k _ e1).2.2.1
      by_cases eb : k' / 8 = t
      · rw [if_pos eb] at e2
        have := (hM.l _ _ e2).1
        omega
      · rw [if_neg eb] at e2
        exact h.il _ _ _ e1 e2
  · by_cases ea : a = t
    · rw [ea, upd_at] at e1
      cases e1
      by_cases eb : k / 8 = t
      · rw [if_pos eb] at e2
        have := (hM.l _ _ e2).1
        omega
      · rw [if_neg eb] at e2
        have := (h.l k _ e2).2.2.1
        omega
    · rw [upd_ne _ ea] at e1
      by_cases eb : k / 8 = t
      · rw [if_pos eb] at e2
        have := (hM.l _ _ e2).1
        have := (h.m a _ e1).2.2.1
        omega
      · rw [if_neg eb] at e2
        exact h.ml _ _ _ e1 e2

open Classical in
theorem CnI.tags (h : CnI w C RC M cl pre mc lc X) : ∃ T : Nat → Nat, T C = 0 ∧ T RC = 1 ∧ (∀ t b, mc t = some b → T b = 2 + t) ∧ (∀ k b, lc k = some b → T b = 18 + k) := by
  refine ⟨fun b => if b = C then 0 else if b = RC then 1 else if h : ∃ t, mc t = some b then 2 + Classical.choose h else if h : ∃ k, lc k = some b then 18 + Classical.choose h else 0, if_pos rfl, ?_, fun t b e => ?_, fun k b e => ?_⟩
  · show (if RC = C then _ else _) = _
    rw [if_neg (fun e => h.ne e.symm), if_pos rfl]
  · have h1 := h.m t b e
    have hx : ∃ t, mc t = some b := ⟨t, e⟩
    show (if b = C then _ else _) = _
    rw [if_neg (by omega), if_neg (by omega), dif_pos hx, h.im _ _ _ (Classical.choose_spec hx) e]
  · have h1 := h.l k b e
    have hx : ∃ t, lc t = some b := ⟨k, e⟩
    have hn : ¬ ∃ t, mc t = some b := fun ⟨t, e2⟩ => h.ml t k b e2 e
    show (if b = C then _ else _) = _
    rw [if_neg (by omega), if_neg (by omega), dif_neg hn, dif_pos hx, h.il _ _ _ (Classical.choose_spec hx) e]

theorem CnI.tr {O : Nat → Prop} {B R : Nat} {cm : Nat → Option Nat} {T : Nat → Nat} (h : CnI w C RC M cl (hl (fun t => (cm t).isSome) 0 16) mc lc X) (hA : TrA w O B R cm cl T M) (ti : Ti cm cl M) : Tr X (Nw w X) C M := by
  obtain ⟨T', t0, t1, t2, t3⟩ := h.tags
  have hcC := h.cC
  have hmc : ∀ t, t < 16 → mc t = none → cm t = none := fun t ht e => by
    cases e2 : cm t with
    | none => rfl
    | some b => exact absurd e ((h.mem t).2 (by rw [hl_mem]; exact ⟨⟨by omega, ht⟩, by show (cm t).isSome = true; rw [e2]; rfl⟩))
  have hlc : ∀ k, k < 128 → lc k = none → cl k = none := fun k hk e => by
    cases e2 : cl k with
    | none => rfl
    | some b =>
      cases e3 : cm (k / 8) with
      | none =>
        have := hA.nm (k / 8) (by omega) e3 (k % 8) (by omega)
        rw [show 8 * (k / 8) + k % 8 = k by omega, e2] at this
        exact this
      | some b3 => exact absurd e ((h.lm k).2 ⟨by rw [hl_mem]; exact ⟨⟨by omega, by omega⟩, by show (cm (k / 8)).isSome = true; rw [e3]; rfl⟩, by rw [e2]; exact fun h => nomatch h⟩)
  refine ⟨RC, mc, lc, T', ⟨hA.wf, h.b, h.r, fun t _ b e => (h.m t b e).2.2.2, fun k _ b e => (h.l k b e).2.2.2, ⟨h.cC, h.b.lt⟩, ⟨h.cR, h.r.lt⟩, fun t _ b e => ?_, fun k _ b e => ?_, fun k hk => hk.2, t0, t1, fun t _ b e => t2 t b e, fun k _ b e => t3 k b e, fun k hk e => hA.nl k hk (hlc k hk e), fun t ht e s hs => ?_⟩, fun k hk b e => ?_, fun t ht b e => ?_⟩
  · have := h.m t b e
    exact ⟨by omega, this.2.2.1⟩
  · have := h.l k b e
    exact ⟨by omega, this.2.2.1⟩
  · cases e2 : lc (8 * t + s) with
    | none => rfl
    | some b =>
      have := ((h.lm _).1 (by rw [e2]; exact fun h => nomatch h)).1
      rw [show (8 * t + s) / 8 = t by omega, ← h.mem t] at this
      exact absurd e this
  · have h2 := ((h.lm k).1 (by rw [e]; exact fun h => nomatch h)).2
    cases e2 : cl k with
    | none => exact absurd e2 h2
    | some b2 => exact ti.l k hk b2 e2
  · have h2 := (h.mem t).1 (by rw [e]; exact fun h => nomatch h)
    rw [hl_mem] at h2
    cases e2 : cm t with
    | none => rw [e2] at h2; exact absurd h2.2 (by decide)
    | some b2 =>
      obtain ⟨s, hs, h3⟩ := ti.m t ht b2 e2
      exact ⟨s, hs, (h.lm _).2 ⟨by rw [show (8 * t + s) / 8 = t by omega, hl_mem]; exact h2, h3⟩⟩
end
def fK46 {V : Nat → Option Nat} {N : Nat} (l : List (El46 V N)) : List Nat := l.map (·.1)
theorem fK46_snoc {V : Nat → Option Nat} {N : Nat} (l : List (El46 V N)) (x : El46 V N) : fK46 (l ++ [x]) = fK46 l ++ [x.1] := by unfold fK46; rw [List.map_append, List.map_singleton]
theorem cn_own (w : World) (C RC : Nat) (M : Nat → Int) (cl : Nat → Option Nat) {V : Nat → Option Nat} {N B : Nat} (hB : w.heap.size ≤ B) : OwnFrom B (fun (pre : List (El46 V N)) X => ∃ mc lc, CnI w C RC M cl (fK46 pre) mc lc X) := fun pre X Y row hs hg hr => by
  obtain ⟨mc, lc, h⟩ := hs
  exact ⟨mc, lc, h.grown hg (fun r e => ⟨Nat.le_trans hB (hr r e).1, (hr r e).2⟩)⟩

theorem cn_end {w X : World} {O : Nat → Prop} {B R D C RC : Nat} {cm cl mc lc : Nat → Option Nat} {T : Nat → Nat} {M : Nat → Int} (h : CnI w C RC M cl (hl (fun t => (cm t).isSome) 0 16) mc lc X) (hA : TrA w O B R cm cl T M) (ti : Ti cm cl M) (hD : w.heap.size ≤ D) (hK : X.heap[D]? = some (.deferred (some []))) : ∀ (tmps : Array Value), tmps[2]? = some (.pointer (some ⟨C, 0, none⟩)) →
    LeavesInM Fence.wide 20 Try.prog Try.f16 tmps (fun e w' => ∃ C, e = .returned (.pointer (some ⟨C, 0, none⟩)) ∧ Below w.heap.size w w' ∧ Tr w' (Nw w w') C M) [{ target := .collected D, args := #[] }] .returning X := by
  intro tmps t2
  refine ⟨by simp, .inl ⟨_, _, rfl, run_takeDeferred hK, ?_⟩⟩
  have hg := h.grown (grownBy_putObj' X D (.deferred none)) (fun r e => by cases e; exact ⟨hD, _, hK, rfl⟩)
  refine ⟨.pointer (some ⟨C, 0, none⟩), ?_, C, rfl, hg.bel, hg.tr hA ti⟩
  simp [results, Try.results16, go_sem, t2]

set_option maxRecDepth 100000 in
set_option maxHeartbeats 4000000 in
theorem Clone_any {O : Nat → Prop} {B : Nat} {M : Nat → Int} {w : World} (h : Tr w O B M) :
    Calls Try.prog 16 #[.pointer (some ⟨B, 0, none⟩)] w fun e w' => ∃ C, e = .returned (.pointer (some ⟨C, 0, none⟩)) ∧ Below w.heap.size w w' ∧ Tr w' (Nw w w') C M := by
  have HM := Lib.hid (made_any h)
  have HNEW := Lib.hid (New_any w)
  obtain ⟨R, cm, cl, T, hA, ti⟩ := h
  have HA := Lib.hid hA
  have HTI := Lib.hid ti
  clear hA ti
  refine (callsIn_wide (n := 20)).1 ?_
  refine callsIn_of_wp_marks Try.func16 rfl trivial ?_ rfl
  simp only [Try.ntmps16, List.size_toArray, List.length_cons, List.length_nil, Nat.reduceAdd, Nat.reduceSub, Array.replicate_succ, Array.replicate_zero, List.push_toArray, List.append_toArray, List.nil_append, List.cons_append]
  gi_wp2_with (first
    | (refine ⟨trivial, ?_⟩; gi_at_call 33; refine (callsIn_wide.2 HM.out).mono ?_; rintro x _ ⟨rfl, rfl⟩)
    | (refine ⟨trivial, ?_⟩; gi_at_call 14; refine (callsIn_wide.2 HNEW.out).mono ?_; rintro x W1 ⟨C, rfl, hbW1, hTC⟩
       have hbA : Below W1.heap.size W1 (W1.alloc (.cells #[.pointer (some ⟨C, 0, none⟩)] 25)) := bnew _ _
       have cB := ((HA.out.below hbW1).below hbA).c0
       have HBW := Lib.hid hbW1
       have HTC := Lib.hid hTC
       have HBA := Lib.hid hbA
       clear hbW1 hTC hbA)
    | (refine ⟨trivial, ?_⟩; gi_at_call 34; refine (callsIn_wide.2 (held34_any (some ⟨R, 0, none⟩) 16 16 0 (W1.alloc (.cells #[.pointer (some ⟨C, 0, none⟩)] 25)))).mono ?_; rintro x W3 ⟨rfl, hW3⟩))
  obtain ⟨RC, cm0, cl0, T0, hA0, ti0⟩ := HTC.out
  have hn0 : ∀ t, t < 16 → cm0 t = none := fun t ht => by
    cases e : cm0 t with
    | none => rfl
    | some b =>
      obtain ⟨s, hs, h1⟩ := ti0.m t ht b e
      cases e2 : cl0 (8 * t + s) with
      | none => exact absurd e2 h1
      | some b2 =>
        obtain ⟨n, hn, h2⟩ := ti0.l _ (by omega) b2 e2
        exact absurd rfl h2
  have hI1 : CnI w C RC M cl [] (fun _ => none) (fun _ => none) W1 :=
    ⟨hA0.b, hA0.r.congr (fun i hi => by rw [hn0 i hi]), fun s => ⟨fun h => absurd rfl h, (fun h => nomatch h)⟩, (fun _ _ e => nomatch e), (fun _ _ e => nomatch e), fun k => ⟨fun h => absurd rfl h, (fun h => nomatch h.1)⟩, (fun _ _ _ e => nomatch e), (fun _ _ _ e => nomatch e), (fun _ _ _ e => nomatch e), HBW.out, hA0.ob.1, hA0.or.1, fun e => by
      have h0 := hA0.tb
      rw [e, hA0.tr] at h0
      cases h0⟩
  have hsA := HBA.out.size
  have hb3 : Below (W1.alloc (.cells #[.pointer (some ⟨C, 0, none⟩)] 25)).heap.size (W1.alloc (.cells #[.pointer (some ⟨C, 0, none⟩)] 25)) W3 := by rw [← hW3]; exact (bnew _ _).alloc (by simp) _
  have hI3 := (hI1.below HBA.out).below hb3
  have x3 : Boxed W3 W1.heap.size 25 (.pointer (some ⟨C, 0, none⟩)) := (hb3.block _ (by simp)).trans (Boxed.new W1 25 _)
  have hsz3 : W3.heap.size = W1.heap.size + 3 := by rw [← hW3]; simp
  have w1 : Boxed W3 (W1.heap.size + 2) 3 (.int .i64 ((0 : Nat) : Int)) := by
    rw [← hW3]
    have := Boxed.new ((W1.alloc (.cells #[.pointer (some ⟨C, 0, none⟩)] 25)).alloc (.cells #[.slice (some ⟨R, 0, none⟩) 16 16] 67)) 3 (.int .i64 0)
    rwa [World.size_alloc, World.size_alloc] at this
  have w2 : Boxed W3 (W1.heap.size + 1) 67 (.slice (some ⟨R, 0, none⟩) 16 16) := by
    rw [← hW3]
    have := (Boxed.new (W1.alloc (.cells #[.pointer (some ⟨C, 0, none⟩)] 25)) 67 (.slice (some ⟨R, 0, none⟩) 16 16)).alloc (.cells #[.int .i64 0] 3)
    rwa [World.size_alloc] at this
  have hT3 := HA.out.below hI3.bel
  have hOw := HA.out.lt
  have hcR := hI3.cR
  have hRlt : RC < W1.heap.size := hA0.r.lt
  have hClt : C < W1.heap.size := hA0.b.lt
  have hcne := hI3.ne
  obtain ⟨Zs, hZs⟩ : ∃ Zs : Nat → Prop, Zs = fun b => b = RC := ⟨_, rfl⟩
  have zne : ∀ b, b ≠ RC → ¬ Zs b := fun b hb h => by rw [hZs] at h; exact hb h
  have zRC : Zs RC := by rw [hZs]
  have zO : ∀ b, O b → ¬ Zs b := fun b hb => zne b (by have := hOw b hb; omega)
  have zb4 : ¬ Zs (W1.heap.size + 2) := zne _ (by omega)
  have zb5 : ¬ Zs (W1.heap.size + 1) := zne _ (by omega)
  have zZc : ¬ Zs W1.heap.size := zne _ (by omega)
  have zC : ¬ Zs C := zne _ hcne
  have zR : ¬ Zs R := zO _ hT3.or
  have hwW := hI3.bel.size
  have hwB := HBW.out.size
  obtain ⟨Zc, hZc⟩ : ∃ Zc, W1.heap.size = Zc := ⟨_, rfl⟩
  obtain ⟨b4, hb4e⟩ : ∃ b4, W1.heap.size + 2 = b4 := ⟨_, rfl⟩
  obtain ⟨b5, hb5e⟩ : ∃ b5, W1.heap.size + 1 = b5 := ⟨_, rfl⟩
  rw [hb4e] at w1 zb4 ⊢
  rw [hb5e] at w2 zb5 ⊢
  rw [hZc] at x3 zZc ⊢
  clear hsz3 hZc hW3 hb4e hb5e zne hZs hA0 ti0 hn0 hI1 hb3 cB HBA HTC HBW hsA hRlt hClt hwB
  gi_wp2
  refine wpIn_rangeFunc_ownH rfl (by omega) (gf := 46) (lb := #[.pointer (some ⟨b4, 0, none⟩), .pointer (some ⟨b5, 0, none⟩)]) rfl trivial (enters_of Try.func46 (by kernel_rfl) rfl)
    (it46_stops 19 (Zs := Zs) (V := cm) (f := 0) (by omega) (by omega) zb4 zb5 zR W3 w1 w2 hT3.r) (fun h k => KpC.trans h k) (fun W l o o' _ h hc _ => kpC_b W l o o' h hc) (Below.refl _ _) (fun _ => rfl)
    (fun pre X => (∃ mc lc, CnI w C RC M cl (fK46 pre) mc lc X) ∧ KpC Zs W3 X)
    (fun _ _ _ => False)
    (OwnFrom.and (cn_own w C RC M cl (by omega)) (kpC_own _ _ _))
    (fun _ _ _ _ _ hs _ _ => hs)
    ⟨⟨_, _, hI3⟩, KpC.refl _ _⟩
    (fun x a' _ => ∃ bm, cm x.1 = some bm ∧ a' = { tmps := #[.pointer (some ⟨B, 0, none⟩), undef, .pointer none, .pointer (some ⟨Zc, 0, none⟩), .int .i64 x.1, .pointer (some ⟨bm, 0, none⟩), .pointer (some ⟨B, 0, none⟩), .bool true, .bool false, .pointer (some ⟨C, 0, none⟩), .pointer (some ⟨B, 0, none⟩), .pointer (some ⟨B, 0, none⟩), .pointer (some ⟨B, 0, none⟩), .pointer (some ⟨R, 0, none⟩), .pointer (some ⟨R, 0, none⟩), .slice (some ⟨R, 0, none⟩) 16 16, .func (.func 46) #[] #[.pointer (some ⟨b4, 0, none⟩), .pointer (some ⟨b5, 0, none⟩)], .int .i64 x.1, .pointer (some ⟨bm, 0, none⟩), undef, undef, undef, undef, undef, undef, undef, undef, undef, undef], defers := [] })
    (fun _ _ _ _ _ _ hs _ _ => hs)
    ?assign ?body ?done ?stop
  case assign =>
    rintro lw pre ⟨x, hx, hx2⟩ X K hs hK
    unfold enc46
    dsimp only at hx2 ⊢
    cases hcm : cm x with
    | none => rw [hcm] at hx2; cases hx2
    | some bm =>
      rw [pt_some]
      gi_wp2
      exact hK _ _ (KeepsFrom.refl _ _) (KpC.refl _ _) hs ⟨bm, hcm, rfl⟩
  case stop =>
    rintro D c pre X hD hP h hD2
    exact h.elim
  case done =>
    rintro D xs X hD hS ⟨⟨mc, lc, hI⟩, hK⟩ hD2
    have c1 := (bx_kp x3 (by decide) zZc hK).cell
    rw [show fK46 xs = hl (fun t => (cm t).isSome) 0 16 from hS] at hI
    have HE := Lib.hid (cn_end hI HA.out HTI.out (by omega) hD2)
    clear hI hS hK hD2
    gi_wp2
    exact HE.out _ rfl
  case body =>
    rintro l1 pre ⟨t, ht, ht2⟩ a' X hl1 _ ⟨⟨mc, lc, hI⟩, hK⟩ ⟨bm, hbm, rfl⟩ hlen
    dsimp only at hbm ⊢
    have c1 := (bx_kp x3 (by decide) zZc hK).cell
    have c2 := hI.b.cell 0 (by omega)
    have hTX := (hT3.kp zO hK).below (belowN (Below.refl _ _) 1)
    have HCL := Lib.hid (mclone_any hTX ht hbm)
    have HI := Lib.hid hI
    have HHK := Lib.hid hK
    have c1' : X.drew.cell? ⟨Zc, 0, none⟩ = some (.pointer (some ⟨C, 0, none⟩)) := c1
    have c2' : X.drew.cell? ⟨C, 0, none⟩ = some (.pointer (some ⟨RC, 0, none⟩)) := c2
    have hb1 : Below X.heap.size X X.drew := belowN (Below.refl _ _) 1
    have HB1 := Lib.hid hb1
    have hti : (t : Int) < 16 := by omega
    clear hK hTX c1 c2
    have hend : ∀ (Cm : Nat) (lf : Nat → Option Nat) (Y : World), McI X.drew Cm (fun s n => M (8 * (8 * t + s) + n)) (hl (fun s => (cl (8 * t + s)).isSome) 0 8) lf Y → KeepsFrom W3.heap.size X (Y.setCell ⟨RC, t, none⟩ (.pointer (some ⟨Cm, 0, none⟩))) ∧ KpC Zs X (Y.setCell ⟨RC, t, none⟩ (.pointer (some ⟨Cm, 0, none⟩))) ∧ (∃ mc lc, CnI w C RC M cl (fK46 (pre ++ [⟨t, ht, ht2⟩])) mc lc (Y.setCell ⟨RC, t, none⟩ (.pointer (some ⟨Cm, 0, none⟩)))) ∧ KpC Zs W3 (Y.setCell ⟨RC, t, none⟩ (.pointer (some ⟨Cm, 0, none⟩))) := fun Cm lf Y hMc => by
      have hbY : Below X.heap.size X Y := hb1.trans hMc.bel
      have hk : KpC Zs X (Y.setCell ⟨RC, t, none⟩ (.pointer (some ⟨Cm, 0, none⟩))) := ((KpC.refl Zs X).below hbY).trans (kpC_step (grown_set _ _ _) (fun g e => .inl (by cases e; exact zRC)))
      exact ⟨(kf_below hbY).trans ((KeepsOthers.setCell _ _ _).from _), hk, ⟨_, _, by rw [fK46_snoc]; exact cn_step (hI.below hb1) hMc⟩, HHK.out.trans hk⟩
    have HEND := Lib.hid hend
    clear hI hb1 hend
    gi_wp2
    refine wpIn_region_round (by kernel_rfl) (by kernel_rfl) ?_
    refine wpAnyIn_take (i := 4) (v := ?_) rfl rfl (by kernel_rfl) (by kernel_rfl) (by kernel_rfl) (fun _ _ _ h => h) ⟨Or.inl ⟨by rfl, ?_⟩, fun _ => rfl⟩ ?_
    rotate_left
    · (intro w; go_simp; try with_reducible rfl)
    refine wpAnyIn_take (i := 5) (v := ?_) rfl rfl (by kernel_rfl) (by kernel_rfl) (by kernel_rfl) (fun _ _ _ h => h) ⟨Or.inl ⟨by rfl, ?_⟩, fun _ => rfl⟩ ?_
    rotate_left
    · (intro w; go_simp; try with_reducible rfl)
    refine wpAnyIn_ready (rs := [0, 6]) (by kernel_rfl) (by simp) ?_
    refine AllReadyIn.cons rfl (fun K hK => ?_) ?_
    · go_simp
      refine hK _ _ ?_
      clear hK K
      refine wpAnyIn_take (i := 1) (v := ?_) rfl rfl (by kernel_rfl) (by kernel_rfl) (by kernel_rfl) (fun _ _ _ h => h) ⟨Or.inl ⟨by rfl, ?_⟩, fun _ => rfl⟩ ?_
      rotate_left
      · (intro w; go_simp; try with_reducible rfl)
      refine wpAnyIn_take (i := 2) (v := ?_) rfl rfl (by kernel_rfl) (by kernel_rfl) (by kernel_rfl) (fun _ _ _ h => h) ⟨Or.inl ⟨by rfl, ?_⟩, fun _ => rfl⟩ ?_
      rotate_left
      · (intro w; go_simp; try with_reducible rfl)
      refine wpAnyIn_ready (rs := [3, 6]) (by kernel_rfl) (by simp) ?_
      refine AllReadyIn.cons rfl (fun K hK => ?_) ?_
      · go_simp
        refine hK _ _ ?_
        clear hK K
        refine wpAnyIn_take (i := 7) (v := ?_) rfl rfl (by kernel_rfl) (by kernel_rfl) (by kernel_rfl) (fun _ _ _ h => h) ⟨Or.inl ⟨by rfl, ?_⟩, fun _ => rfl⟩ ?_
        rotate_left
        · (intro w; go_simp; try with_reducible rfl)
        refine wpAnyIn_ready (rs := [6]) (by kernel_rfl) (by simp) ?_
        refine AllReadyIn.cons rfl (fun K hK => ?_) ?_
        · go_simp
          gi_wp2_with (refine ⟨trivial, ?_⟩; gi_at_call 35; refine (callsIn_wide.2 HCL.out).mono ?_; rintro e Y ⟨Cm, lf, rfl, hMc⟩; have hIY := (HI.out.below HB1.out).below hMc.bel; have y1 := (hMc.bel.cell (p := ⟨Zc, 0, none⟩) (World.block_lt_of_cell? _ _ c1')).trans c1'; have y2 := hIY.b.cell 0 (by omega); have y3 := hIY.r.cell t ht; have y4 := hIY.r.free t ht; have HMC := Lib.hid hMc; clear hIY hMc)
          refine wpAnyIn_take (i := 8) (v := ?_) rfl rfl (by kernel_rfl) (by kernel_rfl) (by kernel_rfl) (fun _ _ _ h => h) ⟨Or.inl ⟨by rfl, ?_⟩, fun _ => rfl⟩ ?_
          rotate_left
          · (intro w; go_simp; try with_reducible rfl)
          refine wpAnyIn_ready (rs := [9]) (by kernel_rfl) (by simp) ?_
          refine AllReadyIn.cons rfl (fun K hK => ?_) ?_
          · go_simp
            refine hK _ _ ?_
            clear hK K
            refine wpAnyIn_done (by kernel_rfl) ?_ _
            gi_wp2; exact HEND.out _ _ _ HMC.out
          exact AllReadyIn.nil
        exact AllReadyIn.nil
      refine AllReadyIn.cons rfl (fun K hK => ?_) ?_
      · go_simp
        gi_wp2_with (refine ⟨trivial, ?_⟩; gi_at_call 35; refine (callsIn_wide.2 HCL.out).mono ?_; rintro e Y ⟨Cm, lf, rfl, hMc⟩; have hIY := (HI.out.below HB1.out).below hMc.bel; have y1 := (hMc.bel.cell (p := ⟨Zc, 0, none⟩) (World.block_lt_of_cell? _ _ c1')).trans c1'; have y2 := hIY.b.cell 0 (by omega); have y3 := hIY.r.cell t ht; have y4 := hIY.r.free t ht; have HMC := Lib.hid hMc; clear hIY hMc)
        refine wpAnyIn_ready (rs := [3]) (by kernel_rfl) (by simp) ?_
        refine AllReadyIn.cons rfl (fun K hK => ?_) ?_
        · go_simp
          refine hK _ _ ?_
          clear hK K
          refine wpAnyIn_take (i := 7) (v := ?_) rfl rfl (by kernel_rfl) (by kernel_rfl) (by kernel_rfl) (fun _ _ _ h => h) ⟨Or.inl ⟨by rfl, ?_⟩, fun _ => rfl⟩ ?_
          rotate_left
          · (intro w; go_simp; try with_reducible rfl)
          refine wpAnyIn_take (i := 8) (v := ?_) rfl rfl (by kernel_rfl) (by kernel_rfl) (by kernel_rfl) (fun _ _ _ h => h) ⟨Or.inl ⟨by rfl, ?_⟩, fun _ => rfl⟩ ?_
          rotate_left
          · (intro w; go_simp; try with_reducible rfl)
          refine wpAnyIn_ready (rs := [9]) (by kernel_rfl) (by simp) ?_
          refine AllReadyIn.cons rfl (fun K hK => ?_) ?_
          · go_simp
            refine hK _ _ ?_
            clear hK K
            refine wpAnyIn_done (by kernel_rfl) ?_ _
            gi_wp2; exact HEND.out _ _ _ HMC.out
          exact AllReadyIn.nil
        exact AllReadyIn.nil
      exact AllReadyIn.nil
    refine AllReadyIn.cons rfl (fun K hK => ?_) ?_
    · go_simp
      gi_wp2_with (refine ⟨trivial, ?_⟩; gi_at_call 35; refine (callsIn_wide.2 HCL.out).mono ?_; rintro e Y ⟨Cm, lf, rfl, hMc⟩; have hIY := (HI.out.below HB1.out).below hMc.bel; have y1 := (hMc.bel.cell (p := ⟨Zc, 0, none⟩) (World.block_lt_of_cell? _ _ c1')).trans c1'; have y2 := hIY.b.cell 0 (by omega); have y3 := hIY.r.cell t ht; have y4 := hIY.r.free t ht; have HMC := Lib.hid hMc; clear hIY hMc)
      refine wpAnyIn_ready (rs := [0]) (by kernel_rfl) (by simp) ?_
      refine AllReadyIn.cons rfl (fun K hK => ?_) ?_
      · go_simp
        refine hK _ _ ?_
        clear hK K
        refine wpAnyIn_take (i := 1) (v := ?_) rfl rfl (by kernel_rfl) (by kernel_rfl) (by kernel_rfl) (fun _ _ _ h => h) ⟨Or.inl ⟨by rfl, ?_⟩, fun _ => rfl⟩ ?_
        rotate_left
        · (intro w; go_simp; try with_reducible rfl)
        refine wpAnyIn_take (i := 2) (v := ?_) rfl rfl (by kernel_rfl) (by kernel_rfl) (by kernel_rfl) (fun _ _ _ h => h) ⟨Or.inl ⟨by rfl, ?_⟩, fun _ => rfl⟩ ?_
        rotate_left
        · (intro w; go_simp; try with_reducible rfl)
        refine wpAnyIn_ready (rs := [3]) (by kernel_rfl) (by simp) ?_
        refine AllReadyIn.cons rfl (fun K hK => ?_) ?_
        · go_simp
          refine hK _ _ ?_
          clear hK K
          refine wpAnyIn_take (i := 7) (v := ?_) rfl rfl (by kernel_rfl) (by kernel_rfl) (by kernel_rfl) (fun _ _ _ h => h) ⟨Or.inl ⟨by rfl, ?_⟩, fun _ => rfl⟩ ?_
          rotate_left
          · (intro w; go_simp; try with_reducible rfl)
          refine wpAnyIn_take (i := 8) (v := ?_) rfl rfl (by kernel_rfl) (by kernel_rfl) (by kernel_rfl) (fun _ _ _ h => h) ⟨Or.inl ⟨by rfl, ?_⟩, fun _ => rfl⟩ ?_
          rotate_left
          · (intro w; go_simp; try with_reducible rfl)
          refine wpAnyIn_ready (rs := [9]) (by kernel_rfl) (by simp) ?_
          refine AllReadyIn.cons rfl (fun K hK => ?_) ?_
          · go_simp
            refine hK _ _ ?_
            clear hK K
            refine wpAnyIn_done (by kernel_rfl) ?_ _
            gi_wp2; exact HEND.out _ _ _ HMC.out
          exact AllReadyIn.nil
        exact AllReadyIn.nil
      exact AllReadyIn.nil
    exact AllReadyIn.nil
end Go.Proofs.Ytdjfeibcbmelcaa
