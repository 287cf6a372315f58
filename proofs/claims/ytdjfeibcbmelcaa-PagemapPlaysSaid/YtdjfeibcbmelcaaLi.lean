/- Package pagemap: the iterator of pages with numbers. -/
import Derived.Test.YtdjfeibcbmelcaaLr
namespace Go.Proofs.Ytdjfeibcbmelcaa
open Go.RowKit Go.Shelf

attribute [local go_sem] Oper.semAt_some

def encP (M : Nat → Int) : Nat → Array Value := fun p => #[.int .i64 p, .int .i64 (M p)]
def PdP (M : Nat → Int) : Nat → Prop := fun p => p < 1024 ∧ M p ≠ 0
theorem hl_shift (c : Nat → Bool) (o : Nat) : ∀ (m k n : Nat), n - k = m → (hl (fun i => c (o + i)) k n).map (o + ·) = hl c (o + k) (o + n)
  | 0, k, n, h => by rw [hl_end (by omega), hl_end (by omega)]; rfl
  | m + 1, k, n, h => by
    have ih := hl_shift c o m (k + 1) n (by omega)
    cases e : c (o + k) with
    | true => rw [hl_hit (c := fun i => c (o + i)) (by omega) e, hl_hit (c := c) (by omega) e, List.map_cons, ih, Nat.add_assoc]
    | false => rw [hl_miss (c := fun i => c (o + i)) (by omega) e, hl_miss (c := c) (by omega) e, ih, Nat.add_assoc]
theorem alloc_set (w : World) (u v : Value) (t : TypeId) : (w.alloc (.cells #[u] t)).setCell ⟨w.heap.size, 0, none⟩ v = w.alloc (.cells #[v] t) := by
  have h1 : (w.heap.push (.cells #[u] t)).modify w.heap.size (fun
      | .cells c elem frozen => .cells (if (none : Option Nat).isSome then c else c.setIfInBounds 0 v) elem frozen
      | o => o) = w.heap.push (.cells #[v] t) := by
    apply Array.ext_getElem?
    intro i
    rw [Array.getElem?_modify]
    by_cases e : w.heap.size = i
    · subst e
      simp
    · rw [if_neg e, Array.getElem?_push, Array.getElem?_push, if_neg (fun h => e h.symm)]
      rw [if_neg (fun h => e h.symm)]
  show World.mk _ _ _ _ _ = World.mk _ _ _ _ _
  congr 1
theorem grown_of {w w' : World} (h : Below w.heap.size w w') (row : Option Nat) : w.grownBy w' row := ⟨h.os, h.tape, h.output, h.size, fun k hk _ => h.block k hk⟩
theorem ownFrom_more {β : Type} {B B' : Nat} {I : β → World → Prop} (h : OwnFrom B I) (hB : B ≤ B') : OwnFrom B' I := fun s X Y row hs hg hr => h s X Y row hs hg (fun r e => ⟨Nat.le_trans hB (hr r e).1, (hr r e).2⟩)
theorem ownFrom_map {β γ : Type} {B : Nat} {I : β → World → Prop} (h : OwnFrom B I) (F : γ → β) : OwnFrom B (fun s W => I (F s) W) := fun s X Y row hs hg hr => h (F s) X Y row hs hg hr
theorem flat_len {α : Type} {g : α → List Nat} {c : Nat} (h : ∀ x, (g x).length ≤ c) : ∀ l : List α, (l.flatMap g).length ≤ c * l.length
  | [] => by simp
  | x :: l => by
    have := flat_len h l
    have := h x
    rw [List.flatMap_cons, List.length_append, List.length_cons, Nat.mul_succ]
    omega
theorem flat_snoc {α : Type} (g : α → List Nat) (l : List α) (x : α) : (l ++ [x]).flatMap g = l.flatMap g ++ g x := by simp
theorem pre_flat {α : Type} (g : α → List Nat) {a b : List α} (h : a <+: b) : a.flatMap g <+: b.flatMap g := by
  obtain ⟨t, rfl⟩ := h
  exact ⟨t.flatMap g, by simp⟩
theorem pre_step {a q b : List Nat} (h : q <+: b) : a ++ q <+: a ++ b := by
  obtain ⟨t, rfl⟩ := h
  exact ⟨t, by simp⟩

theorem kf_below {B : Nat} {w w' : World} (h : Below w.heap.size w w') : KeepsFrom B w w' := ⟨h.size, fun k _ _ hk _ => (h.block k (Array.getElem?_eq_some_iff.1 hk).1).trans hk⟩
theorem kf_mono {B B' : Nat} {w w' : World} (h : KeepsFrom B w w') (hB : B ≤ B') : KeepsFrom B' w w' := ⟨h.size, fun k o hk => h.same k o (Nat.le_trans hB hk)⟩

theorem pre_map (g : Nat → Nat) {a b : List Nat} (h : a <+: b) : a.map g <+: b.map g := by
  obtain ⟨t, rfl⟩ := h
  exact ⟨t.map g, by simp⟩
theorem RoundIn.anyD {m m' l : Nat} {P : Program} {f : FuncId} {tmps : Array Value} {assign body : Code} {w : World} {R : Ending → World → Prop} (l0 : Nat)
    (h : RoundIn Fence.wide m P l f tmps assign body w R) : RoundIn (Fence.wide.inRound l0) m' P l f tmps assign body w R := ⟨h.1, fun c cs _ => h.2 c cs (room_wide _)⟩

theorem w64 (a : Int) (h : -9223372036854775808 ≤ a ∧ a ≤ 9223372036854775807) : wrap64 a = a ∧ IntKind.i64.wrap a = a := ⟨IntWalk.wrap64_in _ h, IntWalk.i64_in _ h⟩

/-- The pages with numbers of the group of w pages behind o, from f on. -/
def grp (M : Nat → Int) (f w o : Nat) : List Nat := hl (nz M) (max f o) (o + w)
theorem grp_len (M : Nat → Int) (f w o : Nat) : (grp M f w o).length ≤ w := Nat.le_trans (hl_len _ _ _) (by omega)
section
variable {w : World} {O : Nat → Prop} {B R : Nat} {cm cl : Nat → Option Nat} {T : Nat → Nat} {M : Nat → Int}
theorem TrA.flat1 (h : TrA w O B R cm cl T M) (f : Nat) : (hl (fun i => (cm i).isSome) (f / 64) 16).flatMap (fun t => grp M f 64 (64 * t)) = pgs M f := by
  have := hl_groups (c := nz M) (d := fun i => (cm i).isSome) (w := 64) (o := 0) (f := f) (n := 16) (by omega) (fun t ht hd p h1 h2 => by
    have hcm : cm t = none := by cases e : cm t with
      | none => rfl
      | some b => rw [e] at hd; cases hd
    have := h.nl (p / 8) (by omega) (by have := h.nm t ht hcm (p / 8 - 8 * t) (by omega); rwa [show 8 * t + (p / 8 - 8 * t) = p / 8 from by omega] at this) (p % 8) (by omega)
    rw [show 8 * (p / 8) + p % 8 = p from by omega] at this
    exact nz_false this)
  simp only [Nat.sub_zero, Nat.zero_add, Nat.max_zero] at this
  exact this
theorem TrA.flat2 (h : TrA w O B R cm cl T M) (f : Nat) {t : Nat} (ht : t < 16) : (hl (fun s => (cl (8 * t + s)).isSome) ((f - 64 * t) / 8) 8).flatMap (fun s => grp M f 8 (64 * t + 8 * s)) = grp M f 64 (64 * t) :=
  hl_groups (c := nz M) (d := fun s => (cl (8 * t + s)).isSome) (w := 8) (o := 64 * t) (f := f) (n := 8) (by omega) (fun s hs hd p h1 h2 => by
    have hcl : cl (8 * t + s) = none := by cases e : cl (8 * t + s) with
      | none => rfl
      | some b => rw [e] at hd; cases hd
    have := h.nl (8 * t + s) (by omega) hcl (p % 8) (by omega)
    rw [show 8 * (8 * t + s) + p % 8 = p from by omega] at this
    exact nz_false this)
end
theorem flat3 (M : Nat → Int) (f o : Nat) : (hl (fun i => M (o + i) != 0) (f - o) 8).map (o + ·) = grp M f 8 o := by
  have := hl_shift (nz M) o _ (f - o) 8 rfl
  rw [show o + (f - o) = max f o from by omega] at this
  exact this

def fA (M : Nat → Int) (f : Nat) {V : Nat → Option Nat} {N : Nat} (l : List (El46 V N)) : List Nat := (l.map (·.1)).flatMap fun t => grp M f 64 (64 * t)
def fB (M : Nat → Int) (f o : Nat) {V : Nat → Option Nat} {N : Nat} (l : List (El52 V N)) : List Nat := (l.map (·.1)).flatMap fun s => grp M f 8 (o + 8 * s)
def fC (o : Nat) {V : Nat → Int} {N : Nat} (l : List (El53 V N)) : List Nat := (l.map (·.1)).map (o + ·)
theorem fA_snoc {M : Nat → Int} {f : Nat} {V : Nat → Option Nat} {N : Nat} (l : List (El46 V N)) (x : El46 V N) : fA M f (l ++ [x]) = fA M f l ++ grp M f 64 (64 * x.1) := by unfold fA; rw [List.map_append, List.map_singleton, flat_snoc]
theorem fB_snoc {M : Nat → Int} {f o : Nat} {V : Nat → Option Nat} {N : Nat} (l : List (El52 V N)) (x : El52 V N) : fB M f o (l ++ [x]) = fB M f o l ++ grp M f 8 (o + 8 * x.1) := by unfold fB; rw [List.map_append, List.map_singleton, flat_snoc]
theorem fC_snoc {o : Nat} {V : Nat → Int} {N : Nat} (l : List (El53 V N)) (x : El53 V N) : fC o (l ++ [x]) = fC o l ++ [o + x.1] := by unfold fC; rw [List.map_append, List.map_append]; rfl
theorem fA_len (M : Nat → Int) (f : Nat) {V : Nat → Option Nat} {N : Nat} (l : List (El46 V N)) : (fA M f l).length ≤ 64 * l.length := by have := flat_len (g := fun t => grp M f 64 (64 * t)) (fun t => grp_len M f 64 (64 * t)) (l.map (·.1)); rwa [List.length_map] at this
theorem fB_len (M : Nat → Int) (f o : Nat) {V : Nat → Option Nat} {N : Nat} (l : List (El52 V N)) : (fB M f o l).length ≤ 8 * l.length := by have := flat_len (g := fun t => grp M f 8 (o + 8 * t)) (fun t => grp_len M f 8 (o + 8 * t)) (l.map (·.1)); rwa [List.length_map] at this
theorem fC_len (o : Nat) {V : Nat → Int} {N : Nat} (l : List (El53 V N)) : (fC o l).length = l.length := by unfold fC; rw [List.length_map, List.length_map]

set_option maxRecDepth 100000 in
set_option maxHeartbeats 4000000 in
theorem num_seq {Zs O : Nat → Prop} {B R : Nat} {cm cl : Nat → Option Nat} {T : Nat → Nat} {M : Nat → Int} {w : World} {n f b1 b2 : Nat} (hn : 9 ≤ n) (h : TrA w O B R cm cl T M) (x1 : Boxed w b1 25 (.pointer (some ⟨B, 0, none⟩))) (x2 : Boxed w b2 3 (.int .i64 f))
    (zO : ∀ b, O b → ¬ Zs b) (z2 : ¬ Zs b2) (zs : ∀ b, Zs b → b < w.heap.size) (hf : f ≤ 9223372036854775807) :
    SeqO n 48 #[.pointer (some ⟨b1, 0, none⟩), .pointer (some ⟨b2, 0, none⟩)] (encP M) (PdP M) Zs (pgs M f) w := by
  intro l J Jx W hW hJ hJx hY h0
  have hT := h.below hW
  have y1 : Boxed W b1 25 (.pointer (some ⟨B, 0, none⟩)) := (hW.block _ x1.lt).trans x1
  have y2 : Boxed W b2 3 (.int .i64 f) := (hW.block _ x2.lt).trans x2
  have hzW : ∀ b, Zs b → b < W.heap.size := fun b hb => Nat.lt_of_lt_of_le (zs b hb) hW.size
  clear h x1 x2 zs hW
  refine callsIn_of_wp_marks Try.func48 rfl trivial ?_ rfl
  simp only [Try.ntmps48, List.size_toArray, List.length_cons, List.length_nil, Nat.reduceAdd, Nat.reduceSub, Array.replicate_succ, Array.replicate_zero, List.push_toArray, List.append_toArray, List.nil_append, List.cons_append]
  obtain ⟨W1, hW1⟩ : ∃ W1, W.alloc (.cells #[.func (.yield l) #[] #[]] 72) = W1 := ⟨_, rfl⟩
  have hb1 : Below W.heap.size W W1 := by rw [← hW1]; exact bnew _ _
  have y3 : Boxed W1 W.heap.size 72 (.func (.yield l) #[] #[]) := by rw [← hW1]; exact Boxed.new _ _ _
  have hT1 := hT.below hb1
  have c1 : W1.cell? ⟨b1, 0, none⟩ = some (.pointer (some ⟨B, 0, none⟩)) := Boxed.cell ((hb1.block _ y1.lt).trans y1)
  have c2 : W1.cell? ⟨b2, 0, none⟩ = some (.int .i64 f) := Boxed.cell ((hb1.block _ y2.lt).trans y2)
  have c3 := hT1.c0
  obtain ⟨q, hq⟩ : ∃ q, f / 64 = q := ⟨_, rfl⟩
  have e1 : (f : Int).tdiv 64 = (q : Int) := by rw [Int.tdiv_eq_ediv_of_nonneg (by omega)]; omega
  have e1' : (f : Int) / 64 = (q : Int) := by omega
  have E2 := Lib.hid (w64 (q : Int) (by omega))
  have hq63 : q ≤ 9223372036854775807 := by omega
  have HQ := Lib.hid hq
  clear hq
  have hmx : Try.prog.follows .mixedOrders = true := by kernel_rfl
  have e2 := E2.out.2
  gi_wp2
  refine wpIn_wide.2 ?_
  go_still_tail 8, hmx
  change wpList _ _ _ _ _ W1.drew
  have hb2 : Below W.heap.size W W1.drew := belowN hb1 1
  have y3' : Boxed W1.drew W.heap.size 72 (.func (.yield l) #[] #[]) := y3
  generalize W1.drew = W2 at *
  go_wp2_with (go_at_call 34; refine (held34_any _ _ _ _ _).mono ?_; rintro e W3 ⟨rfl, hW3⟩)
  have hb3 : Below W2.heap.size W2 W3 := by rw [← hW3]; exact (bnew _ _).alloc (by simp) _
  have hbW := btr hb2 hb3 (Nat.le_refl _)
  have hT3 := hT.below hbW
  have w1 : Boxed W3 (W2.heap.size + 1) 3 (.int .i64 q) := by
    rw [← hW3]
    have := Boxed.new (W2.alloc (.cells #[.slice (some ⟨R, 0, none⟩) 16 16] 67)) 3 (.int .i64 (q : Int))
    rwa [World.size_alloc] at this
  have w2 : Boxed W3 W2.heap.size 67 (.slice (some ⟨R, 0, none⟩) 16 16) := by rw [← hW3]; exact (Boxed.new W2 67 _).alloc _
  have v2 : Boxed W3 b2 3 (.int .i64 f) := (hbW.block _ y2.lt).trans y2
  have v3 : Boxed W3 W.heap.size 72 (.func (.yield l) #[] #[]) := (hb3.block _ y3'.lt).trans y3'
  have hs2 := hb2.size
  have hs3 := hb3.size
  have hzz : ∀ b, W.heap.size ≤ b → ¬ Zs b := fun b hb h => by have := hzW b h; omega
  obtain ⟨b3, hb3e⟩ : ∃ b3, W.heap.size = b3 := ⟨_, rfl⟩
  obtain ⟨b4, hb4e⟩ : ∃ b4, W2.heap.size + 1 = b4 := ⟨_, rfl⟩
  obtain ⟨b5, hb5e⟩ : ∃ b5, W2.heap.size = b5 := ⟨_, rfl⟩
  have hJ3 : J [] W3 := hJ _ _ _ none h0 (grown_of hbW none) (fun _ e => nomatch e)
  have zb4 : ¬ Zs b4 := hzz _ (by omega)
  have zb5 : ¬ Zs b5 := hzz _ (by omega)
  have zb3 : ¬ Zs b3 := hzz _ (by omega)
  have zR : ¬ Zs R := zO _ hT.or
  rw [hb4e] at w1 ⊢
  rw [hb5e] at w2 ⊢
  rw [hb3e] at v3 ⊢
  clear hW1 hW3 y1 y2 y3 y3' hT1 c1 c2 c3 hb1 e1 e1' e2 hb4e hb5e
  gi_wp2
  refine wpIn_rangeFunc_ownH rfl (by omega) (gf := 46) (lb := #[.pointer (some ⟨b4, 0, none⟩), .pointer (some ⟨b5, 0, none⟩)]) rfl trivial (enters_of Try.func46 (by kernel_rfl) rfl)
    (it46_stops (n - 1) (Zs := Zs) (V := cm) (by omega) hq63 zb4 zb5 zR W3 w1 w2 hT3.r) (fun h k => KpC.trans h k) (fun W l o o' _ h hc _ => kpC_b W l o o' h hc) (Below.refl _ _) (fun _ => rfl)
    (fun pre X => J (fA M f pre) X ∧ KpC Zs W3 X)
    (fun c pre X => c = .ret ∧ ∃ q, q <+: (fA M f pre) ∧ Jx q X)
    (OwnFrom.and (ownFrom_map (ownFrom_more hJ (by omega)) _) (kpC_own _ _ _))
    (fun c pre X Y row hs hg hr => by obtain ⟨e, q, h1, h2⟩ := hs; exact ⟨e, q, h1, hJx q X Y row h2 hg (fun r e => ⟨by have := (hr r e).1; omega, (hr r e).2⟩)⟩)
    ⟨hJ3, KpC.refl _ _⟩
    (fun x a' _ => ∃ bm, cm x.1 = some bm ∧ a' = { tmps := #[.func (.yield l) #[] #[], .pointer (some ⟨b1, 0, none⟩), .pointer (some ⟨b2, 0, none⟩), .pointer (some ⟨b3, 0, none⟩), .int .i64 x.1, .pointer (some ⟨bm, 0, none⟩), undef, undef, undef, undef, undef, undef, .pointer (some ⟨B, 0, none⟩), .pointer (some ⟨B, 0, none⟩), .pointer (some ⟨B, 0, none⟩), .pointer (some ⟨R, 0, none⟩), .pointer (some ⟨R, 0, none⟩), .slice (some ⟨R, 0, none⟩) 16 16, .int .i64 f, .int .i64 q, .func (.func 46) #[] #[.pointer (some ⟨b4, 0, none⟩), .pointer (some ⟨b5, 0, none⟩)], .int .i64 x.1, .pointer (some ⟨bm, 0, none⟩), undef, undef, undef, undef, undef, undef, undef, undef, undef, undef, undef, undef, undef, undef, undef, undef, undef, undef, undef, undef, undef, undef, undef, undef, undef, undef, undef, undef, undef, undef, undef, undef, undef, undef], defers := [] })
    (fun _ _ _ _ _ _ hs _ _ => hs)
    ?assign ?body ?done ?stop
  case assign =>
    rintro lw pre ⟨x, hx, hx2⟩ X K hs hK
    unfold enc46
    dsimp only at hx2 ⊢
    cases hcm : cm x with
    | none => rw [hcm] at hx2; cases hx2
    | some bm =>
      rw [pt_some]
      gi_wp2
      exact hK _ _ (KeepsFrom.refl _ _) (KpC.refl _ _) hs ⟨bm, hcm, rfl⟩
  case done =>
    rintro D xs X hD hS ⟨hJs, _⟩ hD2
    gi_wp2
    refine ⟨by simp, .inl ⟨_, _, rfl, run_takeDeferred hD2, ?_⟩⟩
    refine ⟨.tuple #[], by simp [results, Try.results48, go_sem], ⟨_, rfl⟩, .inl ?_⟩
    rw [← hT3.flat1 f, HQ.out, ← hS]
    exact hJ.putObj _ hJs (by omega) hD2 rfl
  case stop =>
    rintro D c pre X hD hP ⟨rfl, r, hr, hJs⟩ hD2
    gi_wp2
    refine ⟨by simp, .inl ⟨_, _, rfl, run_takeDeferred hD2, ?_⟩⟩
    refine ⟨.tuple #[], by simp [results, Try.results48, go_sem], ⟨_, rfl⟩, .inr ⟨r, ?_, hJx.putObj _ hJs (by omega) hD2 rfl⟩⟩
    rw [← hT3.flat1 f, HQ.out]
    exact hr.trans (pre_flat (fun t => grp M f 64 (64 * t)) hP)
  case body =>
    rintro l1 pre ⟨t, ht, ht2⟩ a' X hl1 ⟨r1, hr1⟩ ⟨hJs, hK⟩ ⟨bm, hbm, rfl⟩ hlen
    dsimp only at hbm ⊢
    have hTX := hT3.kp zO hK
    have u2 := (bx_kp v2 (by decide) z2 hK).cell
    have hsX := hK.size
    obtain ⟨o1, ho1⟩ : ∃ o1, 64 * t = o1 := ⟨_, rfl⟩
    have e1 : (t : Int) * 64 = (o1 : Int) := by omega
    have E2 := Lib.hid (w64 (o1 : Int) (by omega))
    obtain ⟨m2, hm2⟩ : ∃ m2, f - o1 = m2 := ⟨_, rfl⟩
    obtain ⟨q2, hq2⟩ : ∃ q2, m2 / 8 = q2 := ⟨_, rfl⟩
    have E3 := Lib.hid (w64 ((f : Int) - (o1 : Int)) (by omega))
    have e4 : (if (f : Int) - (o1 : Int) < 0 then (0 : Int) else (f : Int) - (o1 : Int)) = (m2 : Int) := by split <;> omega
    have e5 : (m2 : Int).tdiv 8 = (q2 : Int) := by rw [Int.tdiv_eq_ediv_of_nonneg (by omega)]; omega
    have e5' : (m2 : Int) / 8 = (q2 : Int) := by omega
    have E6 := Lib.hid (w64 (q2 : Int) (by omega))
    obtain ⟨Xa, hXa⟩ : ∃ Xa, (X.alloc (.cells #[.int .i64 0] 3)).setCell ⟨X.heap.size, 0, none⟩ (.int .i64 (o1 : Int)) = Xa := ⟨_, rfl⟩
    have hba : Below X.heap.size X Xa := by rw [← hXa, alloc_set]; exact bnew _ _
    have s6a : Boxed Xa X.heap.size 3 (.int .i64 o1) := by rw [← hXa, alloc_set]; exact Boxed.new _ _ _
    have u6 := s6a.cell
    have u2' : Xa.cell? ⟨b2, 0, none⟩ = some (.int .i64 f) := (hba.cell (p := ⟨b2, 0, none⟩) (World.block_lt_of_cell? _ _ u2)).trans u2
    have HO1 := Lib.hid ho1
    have HQ2 := Lib.hid hq2
    have HM2 := Lib.hid hm2
    clear ho1 hq2 hm2
    have h1' : 1 ≤ n - 1 - 1 := by omega
    obtain ⟨e2', e2⟩ := E2.out
    obtain ⟨e3', e3⟩ := E3.out
    have e6 := E6.out.2
    gi_wp2
    refine wpIn_region_tail 8 hmx (by kernel_rfl) (by kernel_rfl) rfl ?_
    simp only [List.take_succ_cons, List.take_zero]
    have u6' : Xa.drew.cell? ⟨X.heap.size, 0, none⟩ = some (.int .i64 o1) := u6
    have u2'' : Xa.drew.cell? ⟨b2, 0, none⟩ = some (.int .i64 f) := u2'
    have s6b : Boxed Xa.drew X.heap.size 3 (.int .i64 o1) := s6a
    have hbb : Below X.heap.size X Xa.drew := belowN hba 1
    generalize Xa.drew = Xb at *
    repeat still_step
    try refine wpStill_nil ?_
    gi_wp2_with (refine ⟨trivial, ?_⟩; gi_at_call 45; refine (CallsIn.inRound l1 (callsIn_wide.2 (held45_any _ _ _ _ _))).mono ?_; rintro e X3 ⟨rfl, hX3⟩)
    clear e2 e2' e3 e3' e4 e5 e5' e6 E2 E3 E6
    have hb03 : Below Xb.heap.size Xb X3 := by rw [← hX3]; exact (bnew _ _).alloc (by simp) _
    have hbX3 : Below X.heap.size X X3 := hbb.trans (hb03.mono hbb.size)
    have hsz3 := hbX3.size
    have hszb := hbb.size
    have w6 : Boxed X3 (Xb.heap.size + 1) 3 (.int .i64 q2) := by
      rw [← hX3]
      have := Boxed.new (Xb.alloc (.cells #[.slice (some ⟨bm, 0, none⟩) 8 8] 79)) 3 (.int .i64 (q2 : Int))
      rwa [World.size_alloc] at this
    have w7 : Boxed X3 Xb.heap.size 79 (.slice (some ⟨bm, 0, none⟩) 8 8) := by rw [← hX3]; exact (Boxed.new Xb 79 _).alloc _
    have w8 : Boxed X3 X.heap.size 3 (.int .i64 o1) := (hb03.block _ s6b.lt).trans s6b
    obtain ⟨s6, hs6e⟩ : ∃ s6, X.heap.size = s6 := ⟨_, rfl⟩
    obtain ⟨b6, hb6e⟩ : ∃ b6, Xb.heap.size + 1 = b6 := ⟨_, rfl⟩
    obtain ⟨b7, hb7e⟩ : ∃ b7, Xb.heap.size = b7 := ⟨_, rfl⟩
    have zb6 : ¬ Zs b6 := hzz _ (by omega)
    have zb7 : ¬ Zs b7 := hzz _ (by omega)
    have zs6 : ¬ Zs s6 := hzz _ (by omega)
    have zbm : ¬ Zs bm := zO _ (hTX.om t ht bm hbm)
    have hr3 : X3.heap[l1]? = some (.loop r1) := (hbX3.block _ (Array.getElem?_eq_some_iff.1 hr1).1).trans hr1
    have hJ3' : J (fA M f pre) X3 := hJ _ _ _ none hJs (grown_of hbX3 none) (fun _ e => nomatch e)
    have hKX3 : KpC Zs X X3 := (KpC.refl Zs X).below hbX3
    have hFX3 : KeepsFrom W3.heap.size X X3 := kf_below hbX3
    have hTX3 := hTX.below hbX3
    have v22 : Boxed X3 b2 3 (.int .i64 f) := bx_kp v2 (by decide) z2 (hK.trans hKX3)
    have v33 : Boxed X3 b3 72 (.func (.yield l) #[] #[]) := bx_kp v3 (by decide) zb3 (hK.trans hKX3)
    have hq2 : q2 ≤ 9223372036854775807 := by have := HQ2.out; have := HM2.out; omega
    have hl15 : (fA M f pre).length ≤ 64 * 15 := Nat.le_trans (fA_len M f pre) (by omega)
    rw [hb6e] at w6 ⊢
    rw [hb7e] at w7 ⊢
    rw [hs6e] at w8 ⊢
    generalize hY1 : fA M f pre = Y1 at hJ3' hl15
    have HY1 := Lib.hid hY1
    have HHK := Lib.hid hK
    clear hXa hX3 hba s6a u6 u2' u6' u2'' hbb hb03 s6b hb6e hb7e hY1 hJs hr1 u2
    refine wpIn_rangeFunc_ownN (l₀ := l1) (r₀ := r1) rfl hr3 (by omega) (gf := 52) (lb := #[.pointer (some ⟨b6, 0, none⟩), .pointer (some ⟨b7, 0, none⟩)]) rfl trivial (enters_of Try.func52 (by kernel_rfl) rfl)
      ((it52_stops (n - 1 - 1 - 1) (Zs := Zs) (V := fun s => cl (8 * t + s)) (by omega) hq2 zb6 zb7 zbm X3 w6 w7 (hTX3.m t ht bm hbm)).inRound l1) (fun h k => KpC.trans h k) (fun W l o o' _ h hc _ => kpC_b W l o o' h hc) (Below.refl _ _) (fun _ => rfl)
      (fun pre2 X' => J (Y1 ++ fB M f (64 * t) pre2) X' ∧ KpC Zs X3 X' ∧ KeepsFrom W3.heap.size X X')
      (fun c pre2 X' => c = .ret ∧ (∃ q, q <+: (fB M f (64 * t) pre2) ∧ Jx (Y1 ++ q) X') ∧ KeepsFrom W3.heap.size X X')
      (OwnFrom.and (ownFrom_map (ownFrom_more hJ (by omega)) _) (OwnFrom.and (kpC_own _ _ _) (ownFrom_keepsFrom (by omega))))
      (fun c pre X' Y row hs hg hr => by
        obtain ⟨e, ⟨q, h1, h2⟩, h3⟩ := hs
        exact ⟨e, ⟨q, h1, hJx _ X' Y row h2 hg (fun r e => ⟨by have := (hr r e).1; omega, (hr r e).2⟩)⟩, ownFrom_keepsFrom (β := Unit) (B := W3.heap.size) (B' := X3.heap.size) (w₀ := X) (by omega) () X' Y row h3 hg hr⟩)
      ⟨by unfold fB; simpa using hJ3', KpC.refl _ _, hFX3⟩
      (fun x a' _ => ∃ bl, cl (8 * t + x.1) = some bl ∧ a' = { tmps := #[.func (.yield l) #[] #[], .pointer (some ⟨b1, 0, none⟩), .pointer (some ⟨b2, 0, none⟩), .pointer (some ⟨b3, 0, none⟩), .int .i64 t, .pointer (some ⟨bm, 0, none⟩), .pointer (some ⟨s6, 0, none⟩), .int .i64 x.1, .pointer (some ⟨bl, 0, none⟩), undef, undef, undef, .pointer (some ⟨B, 0, none⟩), .pointer (some ⟨B, 0, none⟩), .pointer (some ⟨B, 0, none⟩), .pointer (some ⟨R, 0, none⟩), .pointer (some ⟨R, 0, none⟩), .slice (some ⟨R, 0, none⟩) 16 16, .int .i64 f, .int .i64 q, .func (.func 46) #[] #[.pointer (some ⟨b4, 0, none⟩), .pointer (some ⟨b5, 0, none⟩)], .int .i64 t, .pointer (some ⟨bm, 0, none⟩), .int .i64 t, .int .i64 o1, .pointer (some ⟨bm, 0, none⟩), .pointer (some ⟨bm, 0, none⟩), .slice (some ⟨bm, 0, none⟩) 8 8, .int .i64 f, .int .i64 o1, .int .i64 ((f : Int) - o1), .int .i64 m2, .int .i64 q2, .func (.func 52) #[] #[.pointer (some ⟨b6, 0, none⟩), .pointer (some ⟨b7, 0, none⟩)], .int .i64 x.1, .pointer (some ⟨bl, 0, none⟩), undef, undef, undef, undef, undef, undef, undef, undef, undef, undef, undef, undef, undef, undef, undef, undef, undef, undef, undef, undef, undef], defers := [] })
      (fun _ _ _ _ _ _ hs _ _ => hs)
      ?assign2 ?body2 ?done2 ?stop2
    case assign2 =>
      rintro lw pre2 ⟨x, hx, hx2⟩ X' K hs hK'
      unfold enc52
      dsimp only at hx2 ⊢
      cases hcl : cl (8 * t + x) with
      | none => rw [hcl] at hx2; cases hx2
      | some bl =>
        rw [pt_some]
        gi_wp2
        exact hK' _ _ (KeepsFrom.refl _ _) (KpC.refl _ _) hs ⟨bl, hcl, rfl⟩
    case done2 =>
      rintro xs X' hS ⟨hJ2, hK2, hF2⟩
      gi_wp2
      refine ⟨hF2, hKX3.trans hK2, ?_, HHK.out.trans (hKX3.trans hK2)⟩
      rw [fA_snoc, HY1.out]
      dsimp only
      rw [← hT3.flat2 f ht, HO1.out, HM2.out, HQ2.out, ← hS, ← HO1.out]
      exact hJ2
    case stop2 =>
      rintro c pre2 X' hP ⟨rfl, ⟨q, hq, hJ2⟩, hF2⟩
      gi_wp2
      refine ⟨hF2, rfl, Y1 ++ q, ?_, hJ2⟩
      rw [fA_snoc, HY1.out]
      dsimp only
      rw [← hT3.flat2 f ht, HO1.out, HM2.out, HQ2.out, ← HO1.out]
      exact pre_step (hq.trans (pre_flat (fun s => grp M f 8 (64 * t + 8 * s)) hP))
    case body2 =>
      rintro l2 pre2 ⟨s, hs, hs2⟩ a'' V hl2 ⟨r2, hr2⟩ ⟨hJ2, hK2, hF2⟩ ⟨bl, hbl, rfl⟩ hlen2
      dsimp only at hbl ⊢
      have hTV := hTX3.kp zO hK2
      have u2 := (bx_kp v22 (by decide) z2 hK2).cell
      have u6 := (bx_kp w8 (by decide) zs6 hK2).cell
      have hsV := hK2.size
      obtain ⟨o2, ho2⟩ : ∃ o2, o1 + 8 * s = o2 := ⟨_, rfl⟩
      have E0 := Lib.hid (w64 ((s : Int) * 8) (by omega))
      have ho1 := HO1.out
      have e1 : (o1 : Int) + (s : Int) * 8 = (o2 : Int) := by omega
      have E2 := Lib.hid (w64 (o2 : Int) (by omega))
      obtain ⟨q3, hq3⟩ : ∃ q3, f - o2 = q3 := ⟨_, rfl⟩
      have E3 := Lib.hid (w64 ((f : Int) - (o2 : Int)) (by omega))
      have e4 : (if (f : Int) - (o2 : Int) < 0 then (0 : Int) else (f : Int) - (o2 : Int)) = (q3 : Int) := by split <;> omega
      obtain ⟨Xa, hXa⟩ : ∃ Xa, (V.alloc (.cells #[.int .i64 0] 3)).setCell ⟨V.heap.size, 0, none⟩ (.int .i64 (o2 : Int)) = Xa := ⟨_, rfl⟩
      have hba : Below V.heap.size V Xa := by rw [← hXa, alloc_set]; exact bnew _ _
      have s9a : Boxed Xa V.heap.size 3 (.int .i64 o2) := by rw [← hXa, alloc_set]; exact Boxed.new _ _ _
      have u9 := s9a.cell
      have u2' : Xa.cell? ⟨b2, 0, none⟩ = some (.int .i64 f) := (hba.cell (p := ⟨b2, 0, none⟩) (World.block_lt_of_cell? _ _ u2)).trans u2
      have HO2 := Lib.hid ho2
      have HQ3 := Lib.hid hq3
      have h1' : 1 ≤ n - 1 - 1 - 1 - 1 := by omega
      have ho16 : o2 + 8 ≤ 1024 := by omega
      clear ho2 hq3 ho1
      obtain ⟨e0, e0'⟩ := E0.out
      obtain ⟨e2', e2⟩ := E2.out
      obtain ⟨e3', e3⟩ := E3.out
      gi_wp2
      refine wpIn_region_tail 7 hmx (by kernel_rfl) (by kernel_rfl) rfl ?_
      simp only [List.take_succ_cons, List.take_zero]
      have u9' : Xa.drew.cell? ⟨V.heap.size, 0, none⟩ = some (.int .i64 o2) := u9
      have u2'' : Xa.drew.cell? ⟨b2, 0, none⟩ = some (.int .i64 f) := u2'
      have s9b : Boxed Xa.drew V.heap.size 3 (.int .i64 o2) := s9a
      have hbb : Below V.heap.size V Xa.drew := belowN hba 1
      generalize Xa.drew = Xb at *
      repeat still_step
      try refine wpStill_nil ?_
      gi_wp2_with (refine ⟨trivial, ?_⟩; gi_at_call 49; refine (CallsIn.inRound l2 (callsIn_wide.2 (held49_any _ _ _ _ _))).mono ?_; rintro e X5 ⟨rfl, hX5⟩)
      clear e0 e0' e1 e2 e2' e3 e3' e4 E0 E2 E3
      have hb05 : Below Xb.heap.size Xb X5 := by rw [← hX5]; exact (bnew _ _).alloc (by simp) _
      have hbX5 : Below V.heap.size V X5 := hbb.trans (hb05.mono hbb.size)
      have hsz5 := hbX5.size
      have hszb := hbb.size
      have w8' : Boxed X5 (Xb.heap.size + 1) 3 (.int .i64 q3) := by
        rw [← hX5]
        have := Boxed.new (Xb.alloc (.cells #[.slice (some ⟨bl, 0, none⟩) 8 8] 61)) 3 (.int .i64 (q3 : Int))
        rwa [World.size_alloc] at this
      have w9 : Boxed X5 Xb.heap.size 61 (.slice (some ⟨bl, 0, none⟩) 8 8) := by rw [← hX5]; exact (Boxed.new Xb 61 _).alloc _
      have w10 : Boxed X5 V.heap.size 3 (.int .i64 o2) := (hb05.block _ s9b.lt).trans s9b
      obtain ⟨s9, hs9e⟩ : ∃ s9, V.heap.size = s9 := ⟨_, rfl⟩
      obtain ⟨b8, hb8e⟩ : ∃ b8, Xb.heap.size + 1 = b8 := ⟨_, rfl⟩
      obtain ⟨b9, hb9e⟩ : ∃ b9, Xb.heap.size = b9 := ⟨_, rfl⟩
      have zb8 : ¬ Zs b8 := hzz _ (by omega)
      have zb9 : ¬ Zs b9 := hzz _ (by omega)
      have zs9 : ¬ Zs s9 := hzz _ (by omega)
      have zbl : ¬ Zs bl := zO _ (hTV.ol _ (by omega) bl hbl)
      have hr5 : X5.heap[l2]? = some (.loop r2) := (hbX5.block _ (Array.getElem?_eq_some_iff.1 hr2).1).trans hr2
      have hJ5 : J (Y1 ++ fB M f (64 * t) pre2) X5 := hJ _ _ _ none hJ2 (grown_of hbX5 none) (fun _ e => nomatch e)
      have hKX5 : KpC Zs V X5 := (KpC.refl Zs V).below hbX5
      have hFX5 : KeepsFrom W3.heap.size V X5 := kf_below hbX5
      have hTX5 := hTV.below hbX5
      have v35 : Boxed X5 b3 72 (.func (.yield l) #[] #[]) := bx_kp v33 (by decide) zb3 (hK2.trans hKX5)
      have hq3' : q3 ≤ 9223372036854775807 := by have := HQ3.out; omega
      have hl56 : (Y1 ++ fB M f (64 * t) pre2).length ≤ 64 * 15 + 56 := by rw [List.length_append]; have := fB_len M f (64 * t) pre2; omega
      have hcl5 : Cl X5 bl 8 (fun i => .int .i64 ((fun i => M (o2 + i)) i)) := (hTX5.l _ (by omega) bl hbl).congr fun i _ => by rw [show 8 * (8 * t + s) + i = o2 + i from by have := HO1.out; have := HO2.out; omega]
      rw [hb8e] at w8' ⊢
      rw [hb9e] at w9 ⊢
      rw [hs9e] at w10 ⊢
      generalize hY2 : Y1 ++ fB M f (64 * t) pre2 = Y2 at hJ5 hl56
      have HY2 := Lib.hid hY2
      have HHK2 := Lib.hid hK2
      have HHF2 := Lib.hid hF2
      clear hXa hX5 hba s9a u9 u2' u9' u2'' hbb hb05 s9b hb8e hb9e hY2 hJ2 hr2 u2 u6 hF2
      refine wpIn_rangeFunc_ownN (l₀ := l2) (r₀ := r2) rfl hr5 (by omega) (gf := 53) (lb := #[.pointer (some ⟨b8, 0, none⟩), .pointer (some ⟨b9, 0, none⟩)]) rfl trivial (enters_of Try.func53 (by kernel_rfl) rfl)
        ((it53_stops (n - 1 - 1 - 1 - 1 - 1) (Zs := Zs) (V := fun i => M (o2 + i)) (by omega) hq3' zb8 zb9 zbl X5 w8' w9 hcl5).inRound l2) (fun h k => KpC.trans h k) (fun W l o o' _ h hc _ => kpC_b W l o o' h hc) (Below.refl _ _) (fun _ => rfl)
        (fun pre3 X' => J (Y2 ++ fC o2 pre3) X' ∧ KpC Zs X5 X' ∧ KeepsFrom W3.heap.size V X')
        (fun c pre3 X' => c = .ret ∧ Jx (Y2 ++ fC o2 pre3) X' ∧ KeepsFrom W3.heap.size V X')
        (OwnFrom.and (ownFrom_map (ownFrom_more hJ (by omega)) _) (OwnFrom.and (kpC_own _ _ _) (ownFrom_keepsFrom (by omega))))
        (fun c => OwnFrom.and (ownFrom_pure _ _) (OwnFrom.and (ownFrom_map (ownFrom_more hJx (by omega)) _) (ownFrom_keepsFrom (by omega))))
        ⟨by unfold fC; simpa using hJ5, KpC.refl _ _, hFX5⟩
        (fun x a' _ => a' = { tmps := #[.func (.yield l) #[] #[], .pointer (some ⟨b1, 0, none⟩), .pointer (some ⟨b2, 0, none⟩), .pointer (some ⟨b3, 0, none⟩), .int .i64 t, .pointer (some ⟨bm, 0, none⟩), .pointer (some ⟨s6, 0, none⟩), .int .i64 s, .pointer (some ⟨bl, 0, none⟩), .pointer (some ⟨s9, 0, none⟩), .int .i64 x.1, .int .i64 (M (o2 + x.1)), .pointer (some ⟨B, 0, none⟩), .pointer (some ⟨B, 0, none⟩), .pointer (some ⟨B, 0, none⟩), .pointer (some ⟨R, 0, none⟩), .pointer (some ⟨R, 0, none⟩), .slice (some ⟨R, 0, none⟩) 16 16, .int .i64 f, .int .i64 q, .func (.func 46) #[] #[.pointer (some ⟨b4, 0, none⟩), .pointer (some ⟨b5, 0, none⟩)], .int .i64 t, .pointer (some ⟨bm, 0, none⟩), .int .i64 t, .int .i64 o1, .pointer (some ⟨bm, 0, none⟩), .pointer (some ⟨bm, 0, none⟩), .slice (some ⟨bm, 0, none⟩) 8 8, .int .i64 f, .int .i64 o1, .int .i64 ((f : Int) - o1), .int .i64 m2, .int .i64 q2, .func (.func 52) #[] #[.pointer (some ⟨b6, 0, none⟩), .pointer (some ⟨b7, 0, none⟩)], .int .i64 s, .pointer (some ⟨bl, 0, none⟩), .int .i64 o1, .int .i64 s, .int .i64 ((s : Int) * 8), .int .i64 o2, .pointer (some ⟨bl, 0, none⟩), .pointer (some ⟨bl, 0, none⟩), .slice (some ⟨bl, 0, none⟩) 8 8, .int .i64 f, .int .i64 o2, .int .i64 ((f : Int) - o2), .int .i64 q3, .func (.func 53) #[] #[.pointer (some ⟨b8, 0, none⟩), .pointer (some ⟨b9, 0, none⟩)], .int .i64 x.1, .int .i64 (M (o2 + x.1)), undef, undef, undef, undef, undef, undef, undef], defers := [] })
        (fun _ _ _ _ _ _ hs _ _ => hs)
        ?assign3 ?body3 ?done3 ?stop3
      case assign3 =>
        rintro lw pre3 ⟨x, hx, hx2⟩ X' K hs hK'
        unfold enc53
        gi_wp2
        exact hK' _ _ (KeepsFrom.refl _ _) (KpC.refl _ _) hs rfl
      case done3 =>
        rintro xs X' hS ⟨hJ3, hK3, hF3⟩
        gi_wp2
        refine ⟨kf_mono hF3 (by omega), hKX5.trans hK3, ?_, HHK2.out.trans (hKX5.trans hK3), HHF2.out.trans hF3⟩
        rw [fB_snoc, ← List.append_assoc, HY2.out]
        dsimp only
        rw [HO1.out, HO2.out, ← flat3, HQ3.out, ← hS]
        exact hJ3
      case stop3 =>
        rintro c pre3 X' hP ⟨rfl, hJ3, hF3⟩
        gi_wp2
        refine ⟨kf_mono hF3 (by omega), rfl, ⟨fB M f (64 * t) pre2 ++ fC o2 pre3, ?_, by rw [← List.append_assoc, HY2.out]; exact hJ3⟩, HHF2.out.trans hF3⟩
        rw [fB_snoc]
        dsimp only
        rw [HO1.out, HO2.out, ← flat3, HQ3.out]
        exact pre_step (pre_map (o2 + ·) hP)
      case body3 =>
        rintro l3 pre3 ⟨x, hx, hx2⟩ a3 U _ _ ⟨hJ3, hK3, hF3⟩ rfl hlen3
        dsimp only at hx2 ⊢
        have u3 := (bx_kp v35 (by decide) zb3 hK3).cell
        have u9 := (bx_kp w10 (by decide) zs9 hK3).cell
        have hm0 : M (o2 + x) ≠ 0 := by simpa using hx2
        have hlen : (Y2 ++ fC o2 pre3).length < 1024 := by rw [List.length_append, fC_len]; omega
        obtain ⟨fn, tmps, assign, body, hy, hR⟩ := hY (Y2 ++ fC o2 pre3) (o2 + x) U ⟨by omega, hm0⟩ hJ3 hlen
        unfold encP at hy
        rw [show (((o2 + x : Nat)) : Int) = (o2 : Int) + (x : Int) from by omega] at hy
        have E1 := Lib.hid (w64 ((o2 : Int) + (x : Int)) (by omega))
        have hsn : Y2 ++ fC o2 pre3 ++ [o2 + x] = Y2 ++ fC o2 (pre3 ++ [⟨x, hx, hx2⟩]) := by rw [fC_snoc, List.append_assoc]
        rw [hsn] at hR
        have hR2 := hR.mono (R' := fun e W' => ∃ c : Bool, e = .returned (.bool c) ∧ YBoth (J (Y2 ++ fC o2 (pre3 ++ [⟨x, hx, hx2⟩])) W' ∧ KpC Zs U W' ∧ KeepsFrom W.heap.size U W') (Jx (Y2 ++ fC o2 (pre3 ++ [⟨x, hx, hx2⟩])) W' ∧ KeepsFrom W.heap.size U W') c) (fun e W' h => by
          rcases h with ⟨h1, h2⟩ | ⟨h1, h2⟩
          · exact ⟨true, h1, (fun _ => h2), (fun h => nomatch h)⟩
          · exact ⟨false, h1, (fun h => nomatch h), (fun _ => h2)⟩)
        have HR2 := Lib.hid hR2
        have HK3 := Lib.hid hK3
        have HF3 := Lib.hid hF3
        clear hR hR2 hm0 hlen hsn hK3 hF3 hJ3
        obtain ⟨e1, e1'⟩ := E1.out
        gi_wp2
        refine ⟨(fun h => nomatch h), RoundIn.mono (RoundIn.anyD _ HR2.out) ?_⟩
        rintro e U3 ⟨c, rfl, hYB⟩
        have HYB := Lib.hid hYB
        clear hYB e1 e1'
        cases c
        · have hX := HYB.out.2 rfl
          have HX := Lib.hid hX
          clear hX
          gi_wp2
          exact ⟨kf_mono HX.out.2 (by omega), rfl, HX.out.1, HF3.out.trans (kf_mono HX.out.2 (by omega))⟩
        · have hX := HYB.out.1 rfl
          have HX := Lib.hid hX
          clear hX
          gi_wp2
          exact ⟨kf_mono HX.out.2.2 (by omega), HX.out.2.1, HX.out.1, HK3.out.trans HX.out.2.1, HF3.out.trans (kf_mono HX.out.2.2 (by omega))⟩
end Go.Proofs.Ytdjfeibcbmelcaa
