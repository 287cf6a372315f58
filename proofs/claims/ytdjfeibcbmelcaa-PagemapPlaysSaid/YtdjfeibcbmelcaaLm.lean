/- Package pagemap: Nodes. -/
import Derived.Test.YtdjfeibcbmelcaaLk
namespace Go.Proofs.Ytdjfeibcbmelcaa
open Go.RowKit Go.Shelf

attribute [local go_sem] Oper.semAt_some

def midsN (M : Nat → Int) : Nat := (hl (mdB M) 0 16).length
def leavesN (M : Nat → Int) : Nat := (hl (lfB M) 0 128).length
/-- The leaves of some middles. -/
def fN (cl : Nat → Option Nat) {V : Nat → Option Nat} {N : Nat} (l : List (El46 V N)) : List Nat := (l.map (·.1)).flatMap fun t => (hl (fun s => (cl (8 * t + s)).isSome) 0 8).map (8 * t + ·)
theorem fN_snoc {cl V : Nat → Option Nat} {N : Nat} (l : List (El46 V N)) (x : El46 V N) : (fN cl (l ++ [x])).length = (fN cl l).length + (hl (fun s => (cl (8 * x.1 + s)).isSome) 0 8).length := by unfold fN; rw [List.map_append, List.map_singleton, flat_snoc, List.length_append, List.length_map]
theorem fN_len {cl V : Nat → Option Nat} {N : Nat} (l : List (El46 V N)) : (fN cl l).length ≤ 8 * l.length := by
  have := flat_len (g := fun t => (hl (fun s => (cl (8 * t + s)).isSome) 0 8).map (8 * t + ·)) (c := 8) (fun t => by rw [List.length_map]; exact hl_len _ _ _) (l.map (·.1))
  rwa [List.length_map] at this
theorem isSome_md {w : World} {O : Nat → Prop} {B R : Nat} {cm cl : Nat → Option Nat} {T : Nat → Nat} {M : Nat → Int} (h : TrA w O B R cm cl T M) (ti : Ti cm cl M) {t : Nat} (ht : t < 16) : (cm t).isSome = mdB M t := by
  unfold mdB
  cases hc : cm t with
  | none =>
    symm
    refine decide_eq_false fun ⟨n, hn, h2⟩ => h2 ?_
    have := h.nl (8 * t + n / 8) (by omega) (h.nm t ht hc _ (by omega)) (n % 8) (by omega)
    rwa [show 8 * (8 * t + n / 8) + n % 8 = 64 * t + n from by omega] at this
  | some b =>
    symm
    obtain ⟨s, hs, h1⟩ := ti.m t ht b hc
    cases hl : cl (8 * t + s) with
    | none => exact absurd hl h1
    | some b2 =>
      obtain ⟨n, hn, h2⟩ := ti.l _ (by omega) b2 hl
      exact decide_eq_true ⟨8 * s + n, by omega, by rwa [show 64 * t + (8 * s + n) = 8 * (8 * t + s) + n from by omega]⟩
theorem isSome_lf {w : World} {O : Nat → Prop} {B R : Nat} {cm cl : Nat → Option Nat} {T : Nat → Nat} {M : Nat → Int} (h : TrA w O B R cm cl T M) (ti : Ti cm cl M) {k : Nat} (hk : k < 128) : (cl k).isSome = lfB M k := by
  unfold lfB
  cases hc : cl k with
  | none =>
    symm
    exact decide_eq_false fun ⟨n, hn, h2⟩ => h2 (h.nl k hk hc n hn)
  | some b =>
    symm
    exact decide_eq_true (ti.l k hk b hc)
theorem nodes_flat {w : World} {O : Nat → Prop} {B R : Nat} {cm cl : Nat → Option Nat} {T : Nat → Nat} {M : Nat → Int} (h : TrA w O B R cm cl T M) (ti : Ti cm cl M) :
    (((hl (fun t => (cm t).isSome) 0 16).flatMap fun t => (hl (fun s => (cl (8 * t + s)).isSome) 0 8).map (8 * t + ·)).length) = leavesN M := by
  have := hl_groups (c := fun k => (cl k).isSome) (d := fun t => (cm t).isSome) (w := 8) (o := 0) (f := 0) (n := 16) (by omega) (fun t ht hd p h1 h2 => by
    have hcm : cm t = none := by cases e : cm t with
      | none => rfl
      | some b => rw [e] at hd; cases hd
    have := h.nm t ht hcm (p - 8 * t) (by omega)
    rw [show 8 * t + (p - 8 * t) = p from by omega] at this
    show (cl p).isSome = false
    rw [this]; rfl)
  simp only [Nat.sub_zero, Nat.zero_add, Nat.zero_div, Nat.max_zero, Nat.zero_max] at this
  unfold leavesN
  rw [← hl_congr (c := fun k => (cl k).isSome) (fun p _ hp => isSome_lf h ti hp)]
  have e : (fun t => (hl (fun s => (cl (8 * t + s)).isSome) 0 8).map (8 * t + ·)) = fun t => hl (fun k => (cl k).isSome) (8 * t) (8 * t + 8) := by
    funext t
    exact hl_shift (fun k => (cl k).isSome) (8 * t) _ 0 8 rfl
  rw [e, this]
theorem nodes_mids {w : World} {O : Nat → Prop} {B R : Nat} {cm cl : Nat → Option Nat} {T : Nat → Nat} {M : Nat → Int} (h : TrA w O B R cm cl T M) (ti : Ti cm cl M) : (hl (fun t => (cm t).isSome) 0 16).length = midsN M := by
  unfold midsN
  rw [hl_congr (c := fun t => (cm t).isSome) (fun p _ hp => isSome_md h ti hp)]

theorem nodes_end {w X : World} {D a b a' b' : Nat} (ha : a' = a) (hbb : b' = b) (hb : Below w.heap.size w X) (hD : w.heap.size ≤ D) (hK : X.heap[D]? = some (.deferred (some []))) : ∀ (tmps : Array Value), tmps[2]? = some (.int .i64 a) → tmps[3]? = some (.int .i64 b) →
    LeavesInM Fence.wide 20 Try.prog Try.f31 tmps (fun e w' => e = .returned (.tuple #[.int .i64 a', .int .i64 b']) ∧ Below w.heap.size w w') [{ target := .collected D, args := #[] }] .returning X := by
  intro tmps t2 t3
  subst ha hbb
  refine ⟨by simp, .inl ⟨_, _, rfl, run_takeDeferred hK, ?_⟩⟩
  refine ⟨.tuple #[.int .i64 a', .int .i64 b'], ?_, rfl, hb.trans (belowK_b (w := w) (Nat.le_refl _) X D _ _ hD hK rfl rfl)⟩
  simp [results, Try.results31, go_sem, t2, t3]

set_option maxRecDepth 100000 in
set_option maxHeartbeats 4000000 in
theorem Nodes_any {O : Nat → Prop} {B : Nat} {M : Nat → Int} {w : World} (h : Tr w O B M) :
    Calls Try.prog 31 #[.pointer (some ⟨B, 0, none⟩)] w fun e w' => e = .returned (.tuple #[.int .i64 (midsN M), .int .i64 (leavesN M)]) ∧ Below w.heap.size w w' := by
  have HM := Lib.hid (made_any h)
  obtain ⟨R, cm, cl, T, hA, ti⟩ := h
  have HMID := Lib.hid (nodes_mids hA ti)
  have HFL := Lib.hid (nodes_flat hA ti)
  obtain ⟨Wa, hWa⟩ : ∃ Wa, (w.alloc (.cells #[.int .i64 0] 3)).alloc (.cells #[.int .i64 0] 3) = Wa := ⟨_, rfl⟩
  have hba : Below w.heap.size w Wa := by rw [← hWa]; exact (bnew _ _).alloc (by simp) _
  have hza : Wa.heap.size = w.heap.size + 2 := by rw [← hWa]; simp
  have a1 : Boxed Wa w.heap.size 3 (.int .i64 0) := by rw [← hWa]; exact (Boxed.new w 3 _).alloc _
  have a2 : Boxed Wa (w.heap.size + 1) 3 (.int .i64 0) := by
    rw [← hWa]
    have := Boxed.new (w.alloc (.cells #[.int .i64 0] 3)) 3 (.int .i64 0)
    rwa [World.size_alloc] at this
  have a2' := a2.other (show w.heap.size + 1 ≠ w.heap.size by omega) (.int .i64 0)
  have k1 := a1.cell
  have k2 := a1.frozen
  have k3 := a2'.cell
  have k4 := a2'.frozen
  obtain ⟨W1, hW1⟩ : ∃ W1, (Wa.setCell ⟨w.heap.size, 0, none⟩ (.int .i64 0)).setCell ⟨w.heap.size + 1, 0, none⟩ (.int .i64 0) = W1 := ⟨_, rfl⟩
  have hb1 : Below w.heap.size w W1 := by rw [← hW1]; exact (hba.setCell (p := ⟨w.heap.size, 0, none⟩) (Nat.le_refl _) _).setCell (p := ⟨w.heap.size + 1, 0, none⟩) (by show w.heap.size ≤ w.heap.size + 1; omega) _
  have hz1 : W1.heap.size = w.heap.size + 2 := by rw [← hW1, World.size_setCell, World.size_setCell]; exact hza
  have x1 : Boxed W1 w.heap.size 3 (.int .i64 0) := by rw [← hW1]; exact (a1.set _).other (by omega) _
  have x2 : Boxed W1 (w.heap.size + 1) 3 (.int .i64 0) := by rw [← hW1]; exact a2'.set _
  have hA1 := hA.below hb1
  have cB := hA1.c0
  have hOw := hA.lt
  have HN := Lib.hid (held34_any (some ⟨R, 0, none⟩) 16 16 0 W1)
  have HX := Lib.hid (And.intro x1 x2)
  have HB1 := Lib.hid hb1
  have HA1 := Lib.hid hA1
  have HZ1 := Lib.hid hz1
  have hmx : Try.prog.follows .mixedOrders = true := by kernel_rfl
  clear x1 x2 hb1 hz1 hA1 ti hA a1 a2 a2' hza hba
  refine (callsIn_wide (n := 20)).1 ?_
  refine callsIn_of_wp_marks Try.func31 rfl trivial ?_ rfl
  simp only [Try.ntmps31, List.size_toArray, List.length_cons, List.length_nil, Nat.reduceAdd, Nat.reduceSub, Array.replicate_succ, Array.replicate_zero, List.push_toArray, List.append_toArray, List.nil_append, List.cons_append]
  gi_wp2_with (first | (refine ⟨trivial, ?_⟩; gi_at_call 33; refine (callsIn_wide.2 HM.out).mono ?_; rintro x _ ⟨rfl, rfl⟩) | (refine ⟨trivial, ?_⟩; gi_at_call 34; refine (callsIn_wide.2 HN.out).mono ?_; rintro x W3 ⟨rfl, hW3⟩))
  have hb3 : Below W1.heap.size W1 W3 := by rw [← hW3]; exact (bnew _ _).alloc (by simp) _
  have hsz3 : W3.heap.size = W1.heap.size + 2 := by rw [← hW3]; simp
  have w1 : Boxed W3 (W1.heap.size + 1) 3 (.int .i64 ((0 : Nat) : Int)) := by
    rw [← hW3]
    have := Boxed.new (W1.alloc (.cells #[.slice (some ⟨R, 0, none⟩) 16 16] 67)) 3 (.int .i64 0)
    rwa [World.size_alloc] at this
  have w2 : Boxed W3 W1.heap.size 67 (.slice (some ⟨R, 0, none⟩) 16 16) := by rw [← hW3]; exact (Boxed.new W1 67 _).alloc _
  have hX := HX.out
  have z1 : Boxed W3 w.heap.size 3 (.int .i64 0) := (hb3.block _ hX.1.lt).trans hX.1
  have z2 : Boxed W3 (w.heap.size + 1) 3 (.int .i64 0) := (hb3.block _ hX.2.lt).trans hX.2
  have hbW := HB1.out.trans (hb3.mono HB1.out.size)
  have hT3 := HA1.out.below hb3
  have hz1 := HZ1.out
  obtain ⟨Zs, hZs⟩ : ∃ Zs : Nat → Prop, Zs = fun b => w.heap.size ≤ b ∧ b < w.heap.size + 2 := ⟨_, rfl⟩
  have hzz : ∀ b, b < w.heap.size ∨ w.heap.size + 2 ≤ b → ¬ Zs b := fun b hb h => by subst hZs; have h' : w.heap.size ≤ b ∧ b < w.heap.size + 2 := h; omega
  have zO : ∀ b, O b → ¬ Zs b := fun b hb => hzz b (.inl (hOw b hb))
  have hZ1s : Zs w.heap.size := by rw [hZs]; exact ⟨by omega, by omega⟩
  have hZ2s : Zs (w.heap.size + 1) := by rw [hZs]; exact ⟨by omega, by omega⟩
  have zb4 : ¬ Zs (W1.heap.size + 1) := hzz _ (by omega)
  have zb5 : ¬ Zs W1.heap.size := hzz _ (by omega)
  have zR : ¬ Zs R := zO _ hT3.or
  obtain ⟨Z1, hZ1⟩ : ∃ Z1, w.heap.size = Z1 := ⟨_, rfl⟩
  obtain ⟨Z2, hZ2⟩ : ∃ Z2, w.heap.size + 1 = Z2 := ⟨_, rfl⟩
  obtain ⟨b4, hb4e⟩ : ∃ b4, W1.heap.size + 1 = b4 := ⟨_, rfl⟩
  obtain ⟨b5, hb5e⟩ : ∃ b5, W1.heap.size = b5 := ⟨_, rfl⟩
  rw [hb4e] at w1 zb4 ⊢
  rw [hb5e] at w2 zb5 ⊢
  rw [hZ2] at z2 hZ2s ⊢
  rw [hZ1] at z1 hZ1s ⊢
  have hn12 : Z1 ≠ Z2 := by omega
  have hsW : w.heap.size + 4 ≤ W3.heap.size := by omega
  have HE1 := Lib.hid (And.intro hZ1 hZ2)
  clear hsz3 hZ1 hZ2 hW3 hWa k1 k2 k3 k4 hX cB hZs hW1 hz1 hb4e hb5e
  gi_wp2
  refine wpIn_rangeFunc_ownH rfl (by omega) (gf := 46) (lb := #[.pointer (some ⟨b4, 0, none⟩), .pointer (some ⟨b5, 0, none⟩)]) rfl trivial (enters_of Try.func46 (by kernel_rfl) rfl)
    (it46_stops 19 (Zs := Zs) (V := cm) (f := 0) (by omega) (by omega) zb4 zb5 zR W3 w1 w2 hT3.r) (fun h k => KpC.trans h k) (fun W l o o' _ h hc _ => kpC_b W l o o' h hc) (Below.refl _ _) (fun _ => rfl)
    (fun pre X => Below w.heap.size w X ∧ Boxed X Z1 3 (.int .i64 (pre.length : Nat)) ∧ Boxed X Z2 3 (.int .i64 ((fN cl pre).length : Nat)) ∧ KpC Zs W3 X)
    (fun _ _ _ => False)
    (OwnFrom.and (ownFrom_below (Nat.le_refl _) (by omega)) (OwnFrom.and (Own.from (boxed_own _ _ _) _) (OwnFrom.and (Own.from (boxed_own _ _ _) _) (kpC_own _ _ _))))
    (fun _ _ _ _ _ hs _ _ => hs)
    ⟨hbW, z1, z2, KpC.refl _ _⟩
    (fun x a' _ => ∃ bm, cm x.1 = some bm ∧ a' = { tmps := #[.pointer (some ⟨B, 0, none⟩), undef, .int .i64 0, .int .i64 0, .pointer (some ⟨Z1, 0, none⟩), .pointer (some ⟨Z2, 0, none⟩), undef, .pointer (some ⟨bm, 0, none⟩), .pointer (some ⟨B, 0, none⟩), .bool true, .bool false, .pointer (some ⟨B, 0, none⟩), .pointer (some ⟨B, 0, none⟩), .pointer (some ⟨B, 0, none⟩), .pointer (some ⟨R, 0, none⟩), .pointer (some ⟨R, 0, none⟩), .slice (some ⟨R, 0, none⟩) 16 16, .func (.func 46) #[] #[.pointer (some ⟨b4, 0, none⟩), .pointer (some ⟨b5, 0, none⟩)], .int .i64 x.1, .pointer (some ⟨bm, 0, none⟩), undef, undef, undef, undef, undef, undef, undef, undef, undef, undef, undef, undef], defers := [] })
    (fun _ _ _ _ _ _ hs _ _ => hs)
    ?assign ?body ?done ?stop
  case assign =>
    rintro lw pre ⟨x, hx, hx2⟩ X K hs hK
    unfold enc46
    dsimp only at hx2 ⊢
    cases hcm : cm x with
    | none => rw [hcm] at hx2; cases hx2
    | some bm =>
      rw [pt_some]
      gi_wp2
      exact hK _ _ (KeepsFrom.refl _ _) (KpC.refl _ _) hs ⟨bm, hcm, rfl⟩
  case stop =>
    rintro D c pre X hD hP h hD2
    exact h.elim
  case done =>
    rintro D xs X hD hS ⟨hbX, q1, q2, _⟩ hD2
    have c1 := q1.cell
    have c2 := q2.cell
    have HE := Lib.hid (nodes_end (X := X.drew) (a := xs.length) (b := (fN cl xs).length) (a' := midsN M) (b' := leavesN M) (by rw [← HMID.out, ← List.length_map (f := fun x : El46 cm 16 => x.1), hS]) (by unfold fN; rw [← HFL.out, hS]) (belowN hbX 1) (by omega) hD2)
    clear q1 q2 hS hbX hD2
    gi_wp2
    refine wpIn_wide.2 ?_
    go_still hmx
    gi_wp2
    exact HE.out _ rfl rfl
  case body =>
    rintro l1 pre ⟨t, ht, ht2⟩ a' X hl1 ⟨r1, hr1⟩ ⟨hbX, q1, q2, hK⟩ ⟨bm, hbm, rfl⟩ hlen
    dsimp only at hbm ⊢
    have hTX := hT3.kp zO hK
    have hsX := hbX.size
    have hsX3 := hK.size
    have hfl := fN_len (cl := cl) pre
    have HSN := Lib.hid (fN_snoc (cl := cl) pre ⟨t, ht, ht2⟩)
    have HPL := Lib.hid (show (pre ++ [(⟨t, ht, ht2⟩ : El46 cm 16)]).length = pre.length + 1 by simp)
    generalize hpl : pre.length = pl at q1 hlen hfl
    generalize hfn : (fN cl pre).length = fl at q2 hfl
    have HPE := Lib.hid hpl
    have HFE := Lib.hid hfn
    have E1 := Lib.hid (w64 ((pl : Int) + 1) (by omega))
    have c1 := q1.cell
    have f1 := q1.frozen
    obtain ⟨Xa, hXa⟩ : ∃ Xa, X.setCell ⟨Z1, 0, none⟩ (.int .i64 ((pl : Int) + 1)) = Xa := ⟨_, rfl⟩
    have q1a : Boxed Xa Z1 3 (.int .i64 ((pl : Int) + 1)) := by rw [← hXa]; exact q1.set _
    have q2a : Boxed Xa Z2 3 (.int .i64 fl) := by rw [← hXa]; exact q2.other (fun e => hn12 e.symm) _
    have hKa : KpC Zs X Xa := by rw [← hXa]; exact kpC_step (grown_set _ _ _) (fun g e => .inl (by cases e; exact hZ1s))
    have hFa : KeepsFrom W3.heap.size X Xa := by rw [← hXa]; exact (KeepsOthers.setCell _ _ _).from _
    have hbXa : Below w.heap.size w Xa := by rw [← hXa]; exact hbX.setCell (p := ⟨Z1, 0, none⟩) (by show w.heap.size ≤ Z1; have := HE1.out; omega) _
    have hsa : Xa.heap.size = X.heap.size := by rw [← hXa, World.size_setCell]
    have HN2 := Lib.hid (held45_any (some ⟨bm, 0, none⟩) 8 8 0 Xa)
    have hra : Xa.heap[l1]? = some (.loop r1) := hFa.same _ _ hl1 hr1 rfl
    obtain ⟨e1, e1'⟩ := E1.out
    have h1' : 1 ≤ 20 - 1 - 1 := by omega
    have HSA := Lib.hid hsa
    clear hpl hfn q1 q2 hr1 hsa
    gi_wp2_with (refine ⟨trivial, ?_⟩; gi_at_call 45; refine (CallsIn.inRound l1 (callsIn_wide.2 HN2.out)).mono ?_; rintro e X3 ⟨rfl, hX3⟩)
    have hsa := HSA.out
    have hb03 : Below Xa.heap.size Xa X3 := by rw [← hX3]; exact (bnew _ _).alloc (by simp) _
    have hs3 := hb03.size
    have w6 : Boxed X3 (Xa.heap.size + 1) 3 (.int .i64 ((0 : Nat) : Int)) := by
      rw [← hX3]
      have := Boxed.new (Xa.alloc (.cells #[.slice (some ⟨bm, 0, none⟩) 8 8] 79)) 3 (.int .i64 0)
      rwa [World.size_alloc] at this
    have w7 : Boxed X3 Xa.heap.size 79 (.slice (some ⟨bm, 0, none⟩) 8 8) := by rw [← hX3]; exact (Boxed.new Xa 79 _).alloc _
    have q13 : Boxed X3 Z1 3 (.int .i64 ((pl : Int) + 1)) := (hb03.block _ q1a.lt).trans q1a
    have q23 : Boxed X3 Z2 3 (.int .i64 fl) := (hb03.block _ q2a.lt).trans q2a
    have hr3 : X3.heap[l1]? = some (.loop r1) := (hb03.block _ (Array.getElem?_eq_some_iff.1 hra).1).trans hra
    have hK3 : KpC Zs X X3 := hKa.below hb03
    have hF3 : KeepsFrom W3.heap.size X X3 := hFa.trans (kf_below hb03)
    have hbX3 : Below w.heap.size w X3 := hbXa.trans (hb03.mono (by omega))
    have hTX3 := hTX.kp zO hK3
    have zb6 : ¬ Zs (Xa.heap.size + 1) := hzz _ (by omega)
    have zb7 : ¬ Zs Xa.heap.size := hzz _ (by omega)
    have zbm : ¬ Zs bm := zO _ (hTX.om t ht bm hbm)
    obtain ⟨b6, hb6e⟩ : ∃ b6, Xa.heap.size + 1 = b6 := ⟨_, rfl⟩
    obtain ⟨b7, hb7e⟩ : ∃ b7, Xa.heap.size = b7 := ⟨_, rfl⟩
    rw [hb6e] at w6 zb6 ⊢
    rw [hb7e] at w7 zb7 ⊢
    have HHK := Lib.hid hK
    have hsX3' : X.heap.size ≤ X3.heap.size := by omega
    clear hsa hX3 hXa q1a q2a e1 e1' c1 f1 hb6e hb7e hK
    refine wpIn_rangeFunc_ownN (l₀ := l1) (r₀ := r1) rfl hr3 (by omega) (gf := 52) (lb := #[.pointer (some ⟨b6, 0, none⟩), .pointer (some ⟨b7, 0, none⟩)]) rfl trivial (enters_of Try.func52 (by kernel_rfl) rfl)
      ((it52_stops 17 (Zs := Zs) (V := fun s => cl (8 * t + s)) (f := 0) (by omega) (by omega) zb6 zb7 zbm X3 w6 w7 (hTX3.m t ht bm hbm)).inRound l1) (fun h k => KpC.trans h k) (fun W l o o' _ h hc _ => kpC_b W l o o' h hc) (Below.refl _ _) (fun _ => rfl)
      (fun pre2 X' => Below w.heap.size w X' ∧ Boxed X' Z1 3 (.int .i64 ((pl : Int) + 1)) ∧ Boxed X' Z2 3 (.int .i64 ((fl + pre2.length : Nat) : Int)) ∧ KpC Zs X X' ∧ KeepsFrom W3.heap.size X X')
      (fun _ _ _ => False)
      (OwnFrom.and (ownFrom_below (Nat.le_refl _) (by omega)) (OwnFrom.and (Own.from (boxed_own _ _ _) _) (OwnFrom.and (Own.from (boxed_own _ _ _) _) (OwnFrom.and (kpC_own _ _ _) (ownFrom_keepsFrom (by omega))))))
      (fun _ _ _ _ _ hs _ _ => hs)
      ⟨hbX3, q13, q23, hK3, hF3⟩
      (fun x a' _ => a' = { tmps := #[.pointer (some ⟨B, 0, none⟩), undef, .int .i64 0, .int .i64 0, .pointer (some ⟨Z1, 0, none⟩), .pointer (some ⟨Z2, 0, none⟩), undef, .pointer (some ⟨bm, 0, none⟩), .pointer (some ⟨B, 0, none⟩), .bool true, .bool false, .pointer (some ⟨B, 0, none⟩), .pointer (some ⟨B, 0, none⟩), .pointer (some ⟨B, 0, none⟩), .pointer (some ⟨R, 0, none⟩), .pointer (some ⟨R, 0, none⟩), .slice (some ⟨R, 0, none⟩) 16 16, .func (.func 46) #[] #[.pointer (some ⟨b4, 0, none⟩), .pointer (some ⟨b5, 0, none⟩)], .int .i64 t, .pointer (some ⟨bm, 0, none⟩), .int .i64 pl, .int .i64 ((pl : Int) + 1), .pointer (some ⟨bm, 0, none⟩), .pointer (some ⟨bm, 0, none⟩), .slice (some ⟨bm, 0, none⟩) 8 8, .func (.func 52) #[] #[.pointer (some ⟨b6, 0, none⟩), .pointer (some ⟨b7, 0, none⟩)], .int .i64 x.1, pt (cl (8 * t + x.1)), undef, undef, undef, undef], defers := [] })
      (fun _ _ _ _ _ _ hs _ _ => hs)
      ?assign2 ?body2 ?done2 ?stop2
    case assign2 =>
      rintro lw pre2 x X' K hs hK'
      unfold enc52
      gi_wp2
      exact hK' _ _ (KeepsFrom.refl _ _) (KpC.refl _ _) hs rfl
    case stop2 =>
      rintro c pre X hP h
      exact h.elim
    case done2 =>
      rintro xs X' hS ⟨hb2, p1, p2, hK2, hF2⟩
      gi_wp2
      refine ⟨hF2, hK2, hb2, ?_, ?_, HHK.out.trans hK2⟩
      · rw [HPL.out, HPE.out]
        exact p1
      · rw [HSN.out, HFE.out]
        rw [← hS, List.length_map]
        exact p2
    case body2 =>
      rintro l2 pre2 x a'' V hl2 _ ⟨hb2, p1, p2, hK2, hF2⟩ rfl hlen2
      have c2 := p2.cell
      have f2 := p2.frozen
      have E2 := Lib.hid (w64 (((fl + pre2.length : Nat) : Int) + 1) (by omega))
      have HPL2 := Lib.hid (show (pre2 ++ [x]).length = pre2.length + 1 by simp)
      generalize hg : fl + pre2.length = g at p2 c2 E2
      have HG := Lib.hid hg
      have HP := Lib.hid (And.intro hb2 (And.intro p1 (And.intro p2 (And.intro hK2 hF2))))
      obtain ⟨e2, e2'⟩ := E2.out
      clear hb2 p1 p2 hK2 hF2 hg
      gi_wp2
      have hk := kpC_step (Zs := Zs) (grown_set V ⟨Z2, 0, none⟩ (.int .i64 ((g : Int) + 1))) (fun r e => .inl (by cases e; exact hZ2s))
      refine ⟨(KeepsOthers.setCell _ _ _).from _, hk, HP.out.1.setCell (p := ⟨Z2, 0, none⟩) (by show w.heap.size ≤ Z2; have := HE1.out; omega) _, HP.out.2.1.other hn12 _, ?_, HP.out.2.2.2.1.trans hk, HP.out.2.2.2.2.trans ((KeepsOthers.setCell _ _ _).from _)⟩
      have := HP.out.2.2.1.set (.int .i64 ((g : Int) + 1))
      rw [HPL2.out, show fl + (pre2.length + 1) = g + 1 from by have := HG.out; omega]
      exact this

end Go.Proofs.Ytdjfeibcbmelcaa
