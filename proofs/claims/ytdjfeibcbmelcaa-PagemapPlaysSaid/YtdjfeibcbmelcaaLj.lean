/- Package pagemap: numbers, Next. -/
import Derived.Test.YtdjfeibcbmelcaaLi
namespace Go.Proofs.Ytdjfeibcbmelcaa
open Go.RowKit Go.Shelf

attribute [local go_sem] Oper.semAt_some

set_option maxHeartbeats 400000 in
theorem numbers_any (B : Nat) (f : Int) (w : World) :
    Calls Try.prog 39 #[.pointer (some ⟨B, 0, none⟩), .int .i64 f] w fun e w' => e = .returned (.func (.func 48) #[] #[.pointer (some ⟨w.heap.size, 0, none⟩), .pointer (some ⟨w.heap.size + 1, 0, none⟩)]) ∧
      (w.alloc (.cells #[.pointer (some ⟨B, 0, none⟩)] 25)).alloc (.cells #[.int .i64 f] 3) = w' := by
  go_enter Try.func39, Try.ntmps39
  go_wp2
  go_ret
  exact ⟨rfl, rfl⟩

/-- What Next returns from a page on. -/
def nextV (M : Nat → Int) (f : Nat) : Int × Int × Int := match pgs M f with
  | [] => (0, 0, 4)
  | p :: _ => ((p : Int), M p, 0)
def three (v : Int × Int × Int) : Value := .tuple #[.int .i64 v.1, .int .i64 v.2.1, .int .i64 v.2.2]

theorem next_end {w X : World} {D f : Nat} {M : Nat → Int} {a b c : Int} (hb : Below w.heap.size w X) (hD : w.heap.size ≤ D) (hK : X.heap[D]? = some (.deferred (some []))) (h1 : Boxed X w.heap.size 3 (.int .i64 a)) (h2 : Boxed X (w.heap.size + 1) 3 (.int .i64 b)) (h3 : Boxed X (w.heap.size + 1 + 1) 32 (.int .i64 c))
    (hv : nextV M f = (a, b, c)) : ∀ (tmps : Array Value), tmps[4]? = some (.pointer (some ⟨w.heap.size, 0, none⟩)) → tmps[5]? = some (.pointer (some ⟨w.heap.size + 1, 0, none⟩)) → tmps[6]? = some (.pointer (some ⟨w.heap.size + 1 + 1, 0, none⟩)) →
    LeavesInM Fence.wide 20 Try.prog Try.f19 tmps (fun e w' => e = .returned (three (nextV M f)) ∧ Below w.heap.size w w') [{ target := .collected D, args := #[] }] .returning X := by
  intro tmps t4 t5 t6
  have k1 := cell_kept (Boxed.cell h1) (grownBy_putObj' _ D (.deferred none)) (fun r e => by cases e; exact ⟨_, hK, rfl⟩)
  have k2 := cell_kept (Boxed.cell h2) (grownBy_putObj' _ D (.deferred none)) (fun r e => by cases e; exact ⟨_, hK, rfl⟩)
  have k3 := cell_kept (Boxed.cell h3) (grownBy_putObj' _ D (.deferred none)) (fun r e => by cases e; exact ⟨_, hK, rfl⟩)
  refine ⟨by simp, .inl ⟨_, _, rfl, run_takeDeferred hK, ?_⟩⟩
  refine ⟨three (a, b, c), ?_, by rw [hv], hb.trans (belowK_b (w := w) (Nat.le_refl _) X D _ _ hD hK rfl rfl)⟩
  simp [results, Try.results19, go_sem, t4, t5, t6, k1, k2, k3, three]

set_option maxRecDepth 100000 in
set_option maxHeartbeats 4000000 in
theorem Next_any {O : Nat → Prop} {B : Nat} {M : Nat → Int} {w : World} (p : Int) (h : Tr w O B M) (hp : InR p) :
    Calls Try.prog 19 #[.pointer (some ⟨B, 0, none⟩), .int .i64 p] w fun e w' => e = .returned (three (nextV M p.toNat)) ∧ Below w.heap.size w w' := by
  obtain ⟨W1, hW1⟩ : ∃ W1, ((w.alloc (.cells #[.int .i64 0] 3)).alloc (.cells #[.int .i64 0] 3)).alloc (.cells #[.int .i64 0] 32) = W1 := ⟨_, rfl⟩
  have hb1 : Below w.heap.size w W1 := by rw [← hW1]; exact ((bnew _ _).alloc (by simp) _).alloc (by simp; omega) _
  have hz1 : W1.heap.size = w.heap.size + 3 := by rw [← hW1]; simp
  have x1 : Boxed W1 w.heap.size 3 (.int .i64 0) := by rw [← hW1]; exact ((Boxed.new w 3 _).alloc _).alloc _
  have x2 : Boxed W1 (w.heap.size + 1) 3 (.int .i64 0) := by
    rw [← hW1]
    have := Boxed.new (w.alloc (.cells #[.int .i64 0] 3)) 3 (.int .i64 0)
    rw [World.size_alloc] at this
    exact this.alloc _
  have x3 : Boxed W1 (w.heap.size + 1 + 1) 32 (.int .i64 0) := by
    rw [← hW1]
    have := Boxed.new ((w.alloc (.cells #[.int .i64 0] 3)).alloc (.cells #[.int .i64 0] 3)) 32 (.int .i64 0)
    rwa [World.size_alloc, World.size_alloc] at this
  have HM := Lib.hid (made_any (h.below hb1))
  obtain ⟨hp1, hp2⟩ := hp
  obtain ⟨f, hf⟩ : ∃ f, p.toNat = f := ⟨_, rfl⟩
  have e4 : (if p < 0 then (0 : Int) else p) = (f : Int) := by split <;> omega
  have hf63 : f ≤ 9223372036854775807 := by omega
  have HN := Lib.hid (numbers_any B (f : Int) W1)
  have HF := Lib.hid hf
  have HX := Lib.hid (And.intro x1 (And.intro x2 x3))
  have HB1 := Lib.hid hb1
  have HH := Lib.hid h
  have HZ1 := Lib.hid hz1
  clear h hf x1 x2 x3 hb1 hz1
  rw [HF.out]
  refine (callsIn_wide (n := 20)).1 ?_
  refine callsIn_of_wp_marks Try.func19 rfl trivial ?_ rfl
  simp only [Try.ntmps19, List.size_toArray, List.length_cons, List.length_nil, Nat.reduceAdd, Nat.reduceSub, Array.replicate_succ, Array.replicate_zero, List.push_toArray, List.append_toArray, List.nil_append, List.cons_append]
  gi_wp2_with (first | (refine ⟨trivial, ?_⟩; gi_at_call 33; refine (callsIn_wide.2 HM.out).mono ?_; rintro x _ ⟨rfl, rfl⟩) | (refine ⟨trivial, ?_⟩; gi_at_call 39; refine (callsIn_wide.2 HN.out).mono ?_; rintro x W2 ⟨rfl, hW2⟩))
  have hb2 : Below W1.heap.size W1 W2 := by rw [← hW2]; exact (bnew _ _).alloc (by simp) _
  have hsz2 : W2.heap.size = W1.heap.size + 2 := by rw [← hW2]; simp
  have y1 : Boxed W2 W1.heap.size 25 (.pointer (some ⟨B, 0, none⟩)) := by rw [← hW2]; exact (Boxed.new W1 25 _).alloc _
  have y2 : Boxed W2 (W1.heap.size + 1) 3 (.int .i64 f) := by
    rw [← hW2]
    have := Boxed.new (W1.alloc (.cells #[.pointer (some ⟨B, 0, none⟩)] 25)) 3 (.int .i64 (f : Int))
    rwa [World.size_alloc] at this
  have hbW := HB1.out.trans (hb2.mono HB1.out.size)
  have hz1 := HZ1.out
  obtain ⟨R, cm, cl, T, hA, _⟩ := HH.out.below hbW
  have hOw := HH.out.lt
  have hX := HX.out
  have z1 : Boxed W2 w.heap.size 3 (.int .i64 0) := (hb2.block _ hX.1.lt).trans hX.1
  have z2 : Boxed W2 (w.heap.size + 1) 3 (.int .i64 0) := (hb2.block _ hX.2.1.lt).trans hX.2.1
  have z3 : Boxed W2 (w.heap.size + 1 + 1) 32 (.int .i64 0) := (hb2.block _ hX.2.2.lt).trans hX.2.2
  have hseq := num_seq (Zs := fun b => w.heap.size ≤ b ∧ b < w.heap.size + 3) (n := 19) (by omega) hA y1 y2 (fun b hb hz => by have := hOw b hb; omega) (fun hz => by omega) (fun b hz => by omega) hf63
  have HSQ := Lib.hid hseq
  clear hW2 y1 y2 hseq hX hA hW1
  gi_wp2
  refine over (by omega) (gf := 48) (lb := #[.pointer (some ⟨W1.heap.size, 0, none⟩), .pointer (some ⟨W1.heap.size + 1, 0, none⟩)]) rfl (enters_of Try.func48 (by kernel_rfl) rfl) HSQ.out (Below.refl _ _) (fun _ => rfl)
    (fun pre X => pre = [] ∧ Below w.heap.size w X ∧ Boxed X w.heap.size 3 (.int .i64 0) ∧ Boxed X (w.heap.size + 1) 3 (.int .i64 0) ∧ Boxed X (w.heap.size + 1 + 1) 32 (.int .i64 0))
    (fun pre X => Below w.heap.size w X ∧ ∃ x : Nat, pre = [x] ∧ Boxed X w.heap.size 3 (.int .i64 x) ∧ Boxed X (w.heap.size + 1) 3 (.int .i64 (M x)) ∧ Boxed X (w.heap.size + 1 + 1) 32 (.int .i64 0))
    (OwnFrom.and (ownFrom_pure _ (fun pre => pre = [])) (OwnFrom.and (ownFrom_below (Nat.le_refl _) (by omega)) (OwnFrom.and (Own.from (boxed_own _ _ _) _) (OwnFrom.and (Own.from (boxed_own _ _ _) _) (Own.from (boxed_own _ _ _) _)))))
    (OwnFrom.and (ownFrom_below (Nat.le_refl _) (by omega)) (fun pre X Y row hs hg hr => by
      obtain ⟨x, h1, h2, h3, h4⟩ := hs
      exact ⟨x, h1, boxed_own _ _ (fun _ : Unit => _) () X Y row h2 hg (fun r e => (hr r e).2), boxed_own _ _ (fun _ : Unit => _) () X Y row h3 hg (fun r e => (hr r e).2), boxed_own _ _ (fun _ : Unit => _) () X Y row h4 hg (fun r e => (hr r e).2)⟩))
    ⟨rfl, hbW, z1, z2, z3⟩
    (fun x => { tmps := #[.pointer (some ⟨B, 0, none⟩), .int .i64 p, undef, undef, .pointer (some ⟨w.heap.size, 0, none⟩), .pointer (some ⟨w.heap.size + 1, 0, none⟩), .pointer (some ⟨w.heap.size + 1 + 1, 0, none⟩), .int .i64 x, .int .i64 (M x), .pointer (some ⟨B, 0, none⟩), .bool true, .bool false, .pointer (some ⟨B, 0, none⟩), .int .i64 p, .int .i64 f, .func (.func 48) #[] #[.pointer (some ⟨W1.heap.size, 0, none⟩), .pointer (some ⟨W1.heap.size + 1, 0, none⟩)], .int .i64 x, .int .i64 (M x), undef, undef], defers := [] })
    ?assign ?body ?done ?stop
  case assign =>
    intro l x W K hK
    clear hz1 hsz2
    unfold encP
    gi_wp2
    exact hK
  case body =>
    rintro l pre x X hx ⟨rfl, hbX, q1, q2, q3⟩ _
    have c1 := q1.cell
    have f1 := q1.frozen
    have g2 := q2.other (show w.heap.size + 1 ≠ w.heap.size by omega) (.int .i64 x)
    have c2 := g2.cell
    have f2 := g2.frozen
    have g3 := (q3.other (show w.heap.size + 1 + 1 ≠ w.heap.size by omega) (.int .i64 x)).other (show w.heap.size + 1 + 1 ≠ w.heap.size + 1 by omega) (.int .i64 (M x))
    have c3 := g3.cell
    have f3 := g3.frozen
    have hk : KeepsFrom W2.heap.size X (((X.setCell ⟨w.heap.size, 0, none⟩ (.int .i64 x)).setCell ⟨w.heap.size + 1, 0, none⟩ (.int .i64 (M x))).setCell ⟨w.heap.size + 1 + 1, 0, none⟩ (.int .i64 0)) :=
      (((KeepsOthers.setCell _ _ _).trans (KeepsOthers.setCell _ _ _)).trans (KeepsOthers.setCell _ _ _)).from _
    have hb : Below w.heap.size w (((X.setCell ⟨w.heap.size, 0, none⟩ (.int .i64 x)).setCell ⟨w.heap.size + 1, 0, none⟩ (.int .i64 (M x))).setCell ⟨w.heap.size + 1 + 1, 0, none⟩ (.int .i64 0)) :=
      ((hbX.setCell (p := ⟨w.heap.size, 0, none⟩) (Nat.le_refl _) _).setCell (p := ⟨w.heap.size + 1, 0, none⟩) (by show w.heap.size ≤ w.heap.size + 1; omega) _).setCell (p := ⟨w.heap.size + 1 + 1, 0, none⟩) (by show w.heap.size ≤ w.heap.size + 1 + 1; omega) _
    have h1 := (((q1.set (.int .i64 x)).other (show w.heap.size ≠ w.heap.size + 1 by omega) (.int .i64 (M x))).other (show w.heap.size ≠ w.heap.size + 1 + 1 by omega) (.int .i64 0))
    have h2 := (g2.set (.int .i64 (M x))).other (show w.heap.size + 1 ≠ w.heap.size + 1 + 1 by omega) (.int .i64 0)
    have h3 := g3.set (.int .i64 0)
    have HK := Lib.hid (And.intro hk (And.intro hb (And.intro h1 (And.intro h2 h3))))
    clear hk hb h1 h2 h3 g2 g3 q1 q2 q3 hbX
    gi_wp2
    exact .inr ⟨rfl, HK.out.1, HK.out.2.1, x, rfl, HK.out.2.2.1, HK.out.2.2.2.1, HK.out.2.2.2.2⟩
  case done =>
    rintro D X hD ⟨hall, hbX, q1, q2, q3⟩ hK
    have c1 := q1.cell
    have f1 := q1.frozen
    have g2 := q2.other (show w.heap.size + 1 ≠ w.heap.size by omega) (.int .i64 0)
    have c2 := g2.cell
    have f2 := g2.frozen
    have g3 := (q3.other (show w.heap.size + 1 + 1 ≠ w.heap.size by omega) (.int .i64 0)).other (show w.heap.size + 1 + 1 ≠ w.heap.size + 1 by omega) (.int .i64 0)
    have c3 := g3.cell
    have f3 := g3.frozen
    obtain ⟨X', hX'⟩ : ∃ X', ((X.setCell ⟨w.heap.size, 0, none⟩ (.int .i64 0)).setCell ⟨w.heap.size + 1, 0, none⟩ (.int .i64 0)).setCell ⟨w.heap.size + 1 + 1, 0, none⟩ (.int .i64 4) = X' := ⟨_, rfl⟩
    have hk : KeepsOthers X X' := by rw [← hX']; exact ((KeepsOthers.setCell _ _ _).trans (KeepsOthers.setCell _ _ _)).trans (KeepsOthers.setCell _ _ _)
    have hb : Below w.heap.size w X' := by
      rw [← hX']
      exact ((hbX.setCell (p := ⟨w.heap.size, 0, none⟩) (Nat.le_refl _) _).setCell (p := ⟨w.heap.size + 1, 0, none⟩) (by show w.heap.size ≤ w.heap.size + 1; omega) _).setCell (p := ⟨w.heap.size + 1 + 1, 0, none⟩) (by show w.heap.size ≤ w.heap.size + 1 + 1; omega) _
    have h1 : Boxed X' w.heap.size 3 (.int .i64 0) := by rw [← hX']; exact (((q1.set (.int .i64 0)).other (show w.heap.size ≠ w.heap.size + 1 by omega) (.int .i64 0)).other (show w.heap.size ≠ w.heap.size + 1 + 1 by omega) (.int .i64 4))
    have h2 : Boxed X' (w.heap.size + 1) 3 (.int .i64 0) := by rw [← hX']; exact (g2.set (.int .i64 0)).other (show w.heap.size + 1 ≠ w.heap.size + 1 + 1 by omega) (.int .i64 4)
    have h3 : Boxed X' (w.heap.size + 1 + 1) 32 (.int .i64 4) := by rw [← hX']; exact g3.set (.int .i64 4)
    have HE := Lib.hid (next_end hb (by omega) (hk.same D _ hK rfl) h1 h2 h3 (show nextV M f = (0, 0, 4) by unfold nextV; rw [hall]))
    clear hk hb h1 h2 h3 g2 g3 q1 q2 q3 hbX hK hall
    gi_wp2
    exact HE.out _ rfl rfl rfl
  case stop =>
    rintro D pre X hD hpre ⟨hbX, x, rfl, q1, q2, q3⟩ hK
    have hv : nextV M f = ((x : Int), M x, 0) := by
      unfold nextV
      obtain ⟨t, ht⟩ := hpre
      rw [← ht]; rfl
    have HE := Lib.hid (next_end hbX (by omega) hK q1 q2 q3 hv)
    clear q1 q2 q3 hbX hK hv hpre
    gi_wp2
    exact HE.out _ rfl rfl rfl

end Go.Proofs.Ytdjfeibcbmelcaa
