/- Package cache: the batches in order of their classes. -/
import Derived.Test.YticcjelaenhigaaPc
import Derived.Test.YticcjelaenhigaaSh
import Derived.Shelf.SlSortCmp.NoneTotal
import Derived.Sort.Grow
namespace Go.Proofs.Yticcjelaenhigaa
open Go.RowKit Go.Sort Go.Shelf Go.Lib

def cmpI (x y : Int) : Int := if x < y then -1 else if y < x then 1 else 0
set_option maxHeartbeats 400000 in
theorem isNaN_any (x : Int) (w : World) : Calls Try.prog 81 #[.int .i64 x] w fun e w' => e = .returned (.bool false) ∧ w = w' := by
  go_enter Try.func81, Try.ntmps81
  go_wp2
  go_ret
  exact ⟨by simp, rfl⟩
set_option maxHeartbeats 400000 in
theorem cmpCompare_any (x y : Int) (w : World) : Calls Try.prog 75 #[.int .i64 x, .int .i64 y] w fun e w' => e = .returned (.int .i64 (cmpI x y)) ∧ w = w' := by
  have HN := Lib.hid isNaN_any
  unfold cmpI
  by_cases h1 : x < y
  · rw [if_pos h1]
    go_enter Try.func75, Try.ntmps75
    go_wp2_with (go_at_call 81; refine (HN.out _ _).mono ?_; rintro e w1 ⟨rfl, rfl⟩)
    go_ret
    exact ⟨rfl, rfl⟩
  · rw [if_neg h1]
    by_cases h2 : y < x
    · rw [if_pos h2]
      go_enter Try.func75, Try.ntmps75
      go_wp2_with (go_at_call 81; refine (HN.out _ _).mono ?_; rintro e w1 ⟨rfl, rfl⟩)
      go_ret
      exact ⟨rfl, rfl⟩
    · rw [if_neg h2]
      go_enter Try.func75, Try.ntmps75
      go_wp2_with (go_at_call 81; refine (HN.out _ _).mono ?_; rintro e w1 ⟨rfl, rfl⟩)
      go_ret
      exact ⟨rfl, rfl⟩

/-- A batch: its class, its objects, where they are. -/
structure Bx where
  i : Nat
  l : List Int
  A : Option Addr
  c : Nat
def encX (x : Bx) : List Value := [.int .i64 (x.i : Nat), .slice x.A x.l.length x.c]
def cfX (x y : Bx) : Int := cmpI (x.i : Nat) (y.i : Nat)
instance inhBx : Inhabited Bx := ⟨⟨0, [], none, 0⟩⟩
theorem cmpI_neg (x y : Int) : cmpI x y < 0 ↔ x < y := by
  unfold cmpI
  split
  · simp; assumption
  · split <;> simp <;> omega
theorem ltX (x y : Bx) : ltOf cfX x y = decide (x.i < y.i) := by
  unfold ltOf cfX
  rw [decide_eq_decide, cmpI_neg]
  omega
theorem swoX : SWO (ltOf cfX) where
  irrefl x := by rw [ltX]; simp
  trans x y z h1 h2 := by rw [ltX, decide_eq_true_eq] at *; omega
  ntrans x y z h1 h2 := by rw [ltX, decide_eq_false_iff_not] at *; omega

set_option maxRecDepth 100000 in
set_option maxHeartbeats 1000000 in
theorem collect1_any (x y : Bx) (w : World) : Calls Try.prog 74 #[.agg #[.int .i64 (x.i : Nat), .slice x.A x.l.length x.c], .agg #[.int .i64 (y.i : Nat), .slice y.A y.l.length y.c]] w fun e w' => e = .returned (.int .i64 (cfX x y)) ∧ ∃ q os', w' = grow (w.drewN q) os' := by
  have HC := Lib.hid (cmpCompare_any (x.i : Nat) (y.i : Nat))
  rw [show cmpI (x.i : Nat) (y.i : Nat) = cfX x y from rfl] at HC
  generalize cfX x y = r at *
  generalize x.i = a1 at *
  generalize y.i = a2 at *
  generalize x.l.length = b1 at *
  generalize y.l.length = b2 at *
  generalize x.A = p1 at *
  generalize y.A = p2 at *
  generalize x.c = c1 at *
  generalize y.c = c2 at *
  go_enter Try.func74, Try.ntmps74
  go_wp2_with (go_at_call 75; refine (HC.out _).mono ?_; rintro e w1 ⟨rfl, rfl⟩)
  go_ret
  exact ⟨rfl, 0, _, by rw [alloc_eq_grow, alloc_eq_grow, grow_grow]; rfl⟩

def cellsX (X : List Bx) : List Value := X.flatMap encX
theorem cellsX_app (X Y : List Bx) : cellsX (X ++ Y) = cellsX X ++ cellsX Y := by simp [cellsX]
theorem cellsX_len (X : List Bx) : (cellsX X).length = X.length * 2 := by
  induction X with
  | nil => rfl
  | cons x t ih => rw [show cellsX (x :: t) = encX x ++ cellsX t from rfl, List.length_append, ih, List.length_cons, show (encX x).length = 2 from rfl]; omega
theorem cellsX_at : ∀ (l : List Bx) (i : Nat) (x : Bx) (c : Nat), l[i]? = some x → c < 2 → (cellsX l)[i * 2 + c]? = (encX x)[c]?
  | [], i, x, c, h, _ => by simp at h
  | y :: t, 0, x, c, h, hc => by
    simp at h
    subst h
    have e : cellsX (y :: t) = encX y ++ cellsX t := rfl
    rw [e, List.getElem?_append_left (by rw [show (encX y).length = 2 from rfl]; omega), Nat.zero_mul, Nat.zero_add]
  | y :: t, i + 1, x, c, h, hc => by
    have e : cellsX (y :: t) = encX y ++ cellsX t := rfl
    rw [e, List.getElem?_append_right (by rw [show (encX y).length = 2 from rfl]; omega), show (encX y).length = 2 from rfl, show (i + 1) * 2 + c - 2 = i * 2 + c from by omega]
    exact cellsX_at t i x c (by simpa using h) hc
theorem infoBt : (Try.prog.info? 61).map (fun i => (i.zero, i.size, i.bytes)) = some (some (.agg #[.int .i64 0, .slice none 0 0]), 2, 32) := by kernel_rfl
theorem undBts : Try.prog.underlying 58 = some (.slice 61) := by kernel_rfl
theorem cells2_new (w : World) (a b : Value) (t : TypeId) : ∀ j u, [a, b][j]? = some u → (w.alloc (.cells #[a, b] t)).cell? ((⟨w.heap.size, 0, none⟩ : Addr).add j) = some u := by
  intro j u hj
  rw [Addr.add_lit, Nat.zero_add]
  refine cell_block (heap_alloc_new w _) ?_
  simpa using hj
/-- Where a row of one's own has its cells. -/
theorem owns_at {w : World} {base e size g n cap : Nat} {xs : List Value} (h : w.ownsRow base e size (.slice (some ⟨g, 0, none⟩) n cap) n xs) : base ≤ g ∧ g < w.heap.size ∧ (∀ j u, xs[j]? = some u → w.cell? ⟨g, j, none⟩ = some u) ∧ ∃ cur, w.heap[g]? = some (.cells cur e (0, 0)) := by
  rcases h.2 with ⟨h0, _⟩ | ⟨g', cap', cur, e0, hb, hg, _⟩
  · cases h0
  · cases e0
    refine ⟨hb, (Array.getElem?_eq_some_iff.1 hg).1, fun j u hu => ?_, cur, hg⟩
    have := h.cells (g := g) rfl j u hu
    rwa [Addr.add_lit, Nat.zero_add] at this

/-- Batches in memory, in order. -/
def Rkd (X Y : List Bx) : Prop := Y.Perm X ∧ Y.Pairwise (fun x y => ltOf cfX y x = false)
def RkAt (w : World) (g : Nat) (Y : List Bx) : Prop := ∀ (i : Nat) (x : Bx), Y[i]? = some x → w.cell? ⟨g, i * 2, none⟩ = some (.int .i64 (x.i : Nat)) ∧ w.cell? ⟨g, i * 2 + 1, none⟩ = some (.slice x.A x.l.length x.c)
theorem keep_sort {w : World} {g n : Nat} {d : Array Bx} {os : Array Obj} : Keep (fun j => j = g) w (sortWorldK encX 2 w g 0 n d os) := by
  refine ⟨rfl, rfl, rfl, by simp [sortWorldK, putRowK], fun k hk hne => ?_⟩
  unfold sortWorldK
  rw [heap_grow_old _ _ (by simpa [putRowK] using hk)]
  have : g ≠ k := fun e => hne e.symm
  simp [putRowK, putRow, mapBlock, Sort.ahead, Array.getElem?_modify, this]

set_option maxRecDepth 100000 in
set_option maxHeartbeats 1000000 in
/-- The sort of a row of batches: nothing else is turned. -/
theorem sort_any {w : World} {N g c : Nat} (X : List Bx) (hX : X.length ≤ 1024) (hown : w.ownsRow N 61 2 (.slice (some ⟨g, 0, none⟩) X.length c) X.length (cellsX X)) :
    Calls Try.prog 73 #[.slice (some ⟨g, 0, none⟩) X.length c, .func (.func 74) #[] #[]] w fun e w' => e = .returned (.tuple #[]) ∧ ∃ Y, Rkd X Y ∧ RkAt w' g Y ∧ Keep (fun j => j = g) w w' := by
  obtain ⟨hNg, hgw, hcl, cur, hcur⟩ := owns_at hown
  have hcell : ∀ (i : Nat) (x : Bx) (q : Nat), X[i]? = some x → q < 2 → w.cell? ⟨g, i * 2 + q, none⟩ = (encX x)[q]? ∧ w.frozen? ⟨g, i * 2 + q, none⟩ = false := fun i x q hx hq => by
    have h1 := cellsX_at X i x q hx hq
    obtain ⟨u, hu⟩ : ∃ u, (encX x)[q]? = some u := ⟨_, List.getElem?_eq_getElem (by rw [show (encX x).length = 2 from rfl]; exact hq)⟩
    rw [hu] at h1
    exact ⟨by rw [hcl _ u h1, hu], free_block hcur⟩
  have hH : HoldsK encX 2 w g 0 X.toArray := fun j hj => by
    rw [size_flatK] at hj
    have hj' : j < X.length * 2 := by simpa using hj
    rw [get_flatK _ _ _ _ (by simpa using hj')]
    have hi : j / 2 < X.length := by omega
    have hx : X[j / 2]? = some X[j / 2] := List.getElem?_eq_getElem hi
    obtain ⟨h1, h2⟩ := hcell (j / 2) _ (j % 2) hx (Nat.mod_lt _ (by decide))
    have e : j / 2 * 2 + j % 2 = j := by omega
    rw [e] at h1 h2
    rw [Nat.zero_add]
    refine ⟨?_, h2⟩
    rw [h1]
    have e2 : X.toArray[j / 2]! = X[j / 2] := by simp [hi]
    rw [e2]
    have hl : j % 2 < (encX X[j / 2]).length := Nat.mod_lt _ (by decide)
    rw [List.getElem?_eq_getElem hl]
    simp [hl]
  have eg : ∀ args w, (callFunc 74 args).run Try.prog w = .ok (.enter 74 args) w := enters_of Try.func74 (by kernel_rfl) rfl
  have hcon := AnyQ.slices_SortFunc Try.sortBt 2 Try.isAgg61 Try.sizeOf61 encX (fun _ => rfl) (fun x v hv => by simp [encX] at hv; rcases hv with rfl | rfl <;> rfl) cfX swoX 74 #[] g 0 c X.toArray w eg (fun _ _ _ _ x y => collect1_any x y _) hH hgw (by simp; omega)
  change Calls Try.prog 73 _ _ _ at hcon
  rw [show X.toArray.size = X.length by simp] at hcon
  refine hcon.mono fun e w' ⟨he, d', n, os, hp, hs, hw⟩ => ⟨he, d'.toList, ⟨?_, ?_⟩, fun i x hx => ?_, ?_⟩
  · have h2 := hp.2.2
    have h1 := hp.1
    have e1 : d'.extract 0 X.length = d' := by rw [show X.length = d'.size by rw [h1]; simp]; simp
    have e2 : X.toArray.extract 0 X.length = X.toArray := by simp
    rw [e1, e2] at h2
    exact h2
  · have h1 : d'.size = X.length := by rw [hp.1]; simp
    refine List.pairwise_iff_getElem.2 fun i j hi hj hij => ?_
    have := hs i j (Nat.zero_le _) hij (by rw [Array.length_toList] at hj; omega)
    rw [Array.length_toList] at hi hj
    rwa [getElem!_pos d' i hi, getElem!_pos d' j hj] at this
  · have h1 : d'.size = X.toArray.size := hp.1
    have hHK : HoldsK encX 2 w' g 0 d' := by
      rw [hw]
      exact holdsK_grow encX 2 _ _ g 0 _ (by simpa [putRowK] using hgw) (holdsK_putRowK encX 2 _ g 0 X.toArray d' (holdsK_ahead encX 2 _ _ g 0 _ hH) h1)
    have hi : i < d'.size := by have := (List.getElem?_eq_some_iff.1 hx).1; simpa using this
    have ex : d'[i]! = x := by rw [getElem!_pos d' i hi]; have := (List.getElem?_eq_some_iff.1 hx).2; simpa using this
    have c0 := (hHK.cell hi (show 0 < 2 by decide)).1
    have c1 := (hHK.cell hi (show 1 < 2 by decide)).1
    rw [ex] at c0 c1
    exact ⟨by simpa [encX] using c0, by simpa [encX] using c1⟩
  · rw [hw]; exact keep_sort
end Go.Proofs.Yticcjelaenhigaa
