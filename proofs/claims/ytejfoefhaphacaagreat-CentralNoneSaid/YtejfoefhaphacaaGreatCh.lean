/- Package central: the ranking of the spans. -/
import Derived.Test.YtejfoefhaphacaaGreatCg
import Derived.Test.YtejfoefhaphacaaGreatSh
import Derived.Shelf.SlSortCmp.NoneTotal
import Derived.Sort.Grow
namespace Go.Proofs.YtejfoefhaphacaaGreat
open Go.RowKit Go.Sort Go.Shelf Go.Lib

def cmpI (x y : Int) : Int := if x < y then -1 else if y < x then 1 else 0
set_option maxHeartbeats 400000 in
theorem isNaN_any (x : Int) (w : World) : Calls Tryz.prog 111 #[.int .i64 x] w fun e w' => e = .returned (.bool false) ∧ w = w' := by
  go_enter Tryz.func111, Tryz.ntmps111
  go_wp2
  go_ret
  exact ⟨by simp, rfl⟩
set_option maxHeartbeats 400000 in
theorem cmpCompare_any (x y : Int) (w : World) : Calls Tryz.prog 96 #[.int .i64 x, .int .i64 y] w fun e w' => e = .returned (.int .i64 (cmpI x y)) ∧ w = w' := by
  have HN := Lib.hid isNaN_any
  unfold cmpI
  by_cases h1 : x < y
  · rw [if_pos h1]
    go_enter Tryz.func96, Tryz.ntmps96
    go_wp2_with (go_at_call 111; refine (HN.out _ _).mono ?_; rintro e w1 ⟨rfl, rfl⟩)
    go_ret
    exact ⟨rfl, rfl⟩
  · rw [if_neg h1]
    by_cases h2 : y < x
    · rw [if_pos h2]
      go_enter Tryz.func96, Tryz.ntmps96
      go_wp2_with (go_at_call 111; refine (HN.out _ _).mono ?_; rintro e w1 ⟨rfl, rfl⟩)
      go_ret
      exact ⟨rfl, rfl⟩
    · rw [if_neg h2]
      go_enter Tryz.func96, Tryz.ntmps96
      go_wp2_with (go_at_call 111; refine (HN.out _ _).mono ?_; rintro e w1 ⟨rfl, rfl⟩)
      go_ret
      exact ⟨rfl, rfl⟩

def cmR (a b a' b' : Int) : Int := if a = a' then cmpI b b' else cmpI a' a
set_option maxRecDepth 100000 in
set_option maxHeartbeats 1000000 in
theorem compare_any (a b a' b' : Int) (w : World) : Calls Tryz.prog 82 #[.agg #[.int .i64 a, .int .i64 b], .agg #[.int .i64 a', .int .i64 b']] w fun e w' => e = .returned (.int .i64 (cmR a b a' b')) ∧ (w.alloc (.cells #[.int .i64 a, .int .i64 b] 81)).alloc (.cells #[.int .i64 a', .int .i64 b'] 81) = w' := by
  have HC := Lib.hid cmpCompare_any
  unfold cmR
  by_cases h : a = a'
  · subst h
    rw [if_pos rfl]
    generalize hr : cmpI b b' = r
    have HR := Lib.hid hr
    clear hr
    go_enter Tryz.func82, Tryz.ntmps82
    go_wp2_with (go_at_call 96; refine (HC.out _ _ _).mono ?_; rintro e w1 ⟨rfl, rfl⟩)
    go_ret
    exact ⟨ret_int HR.out, rfl⟩
  · rw [if_neg h]
    have h2 : (a != a') = true := by simpa using h
    generalize hr : cmpI a' a = r
    have HR := Lib.hid hr
    clear hr
    go_enter Tryz.func82, Tryz.ntmps82
    go_wp2_with (go_at_call 96; refine (HC.out _ _ _).mono ?_; rintro e w1 ⟨rfl, rfl⟩)
    go_ret
    exact ⟨ret_int HR.out, rfl⟩

/-- A ranked span's cells. -/
def encS (x : Sn) : List Value := [.int .i64 (tc x.m : Nat), .int .i64 (x.m.s : Nat), .pointer (some ⟨x.B, 0, none⟩)]
def cfS (x y : Sn) : Int := cmR (tc x.m : Nat) (x.m.s : Nat) (tc y.m : Nat) (y.m.s : Nat)
instance inhSn : Inhabited Sn := ⟨⟨0, 0, 0, ⟨0, 0, 0, 0, 0, fun _ => false⟩⟩⟩
theorem cmpI_neg (x y : Int) : cmpI x y < 0 ↔ x < y := by
  unfold cmpI
  split
  · simp; assumption
  · split <;> simp <;> omega
theorem ltS (x y : Sn) : ltOf cfS x y = decide (tc y.m < tc x.m ∨ (tc x.m = tc y.m ∧ x.m.s < y.m.s)) := by
  unfold ltOf cfS cmR
  rw [decide_eq_decide]
  split
  · rename_i h
    rw [cmpI_neg]; omega
  · rename_i h
    rw [cmpI_neg]; omega
theorem swoS : SWO (ltOf cfS) where
  irrefl x := by rw [ltS]; simp
  trans x y z h1 h2 := by rw [ltS, decide_eq_true_eq] at *; omega
  ntrans x y z h1 h2 := by rw [ltS, decide_eq_false_iff_not] at *; omega

set_option maxRecDepth 100000 in
set_option maxHeartbeats 1000000 in
theorem ranking1_any (x y : Sn) (w : World) : Calls Tryz.prog 81 #[.agg #[.int .i64 (tc x.m : Nat), .int .i64 (x.m.s : Nat), .pointer (some ⟨x.B, 0, none⟩)], .agg #[.int .i64 (tc y.m : Nat), .int .i64 (y.m.s : Nat), .pointer (some ⟨y.B, 0, none⟩)]] w fun e w' => e = .returned (.int .i64 (cfS x y)) ∧ ∃ q os', w' = grow (w.drewN q) os' := by
  have HC := Lib.hid (compare_any (tc x.m : Nat) (x.m.s : Nat) (tc y.m : Nat) (y.m.s : Nat))
  rw [show cmR (tc x.m : Nat) (x.m.s : Nat) (tc y.m : Nat) (y.m.s : Nat) = cfS x y from rfl] at HC
  generalize cfS x y = r at *
  generalize tc x.m = a1 at *
  generalize tc y.m = a2 at *
  generalize x.m.s = b1 at *
  generalize y.m.s = b2 at *
  generalize x.B = p1 at *
  generalize y.B = p2 at *
  go_enter Tryz.func81, Tryz.ntmps81
  go_wp2_with (go_at_call 82; refine (HC.out _).mono ?_; rintro e w1 ⟨rfl, rfl⟩)
  go_ret
  exact ⟨rfl, 0, _, by rw [alloc_eq_grow, alloc_eq_grow, alloc_eq_grow, alloc_eq_grow, grow_grow, grow_grow, grow_grow]; rfl⟩

def cellsS (X : List Sn) : List Value := X.flatMap encS
theorem cellsS_app (X Y : List Sn) : cellsS (X ++ Y) = cellsS X ++ cellsS Y := by simp [cellsS]
theorem cellsS_at : ∀ (l : List Sn) (i : Nat) (x : Sn) (c : Nat), l[i]? = some x → c < 3 → (cellsS l)[i * 3 + c]? = (encS x)[c]?
  | [], i, x, c, h, _ => by simp at h
  | y :: t, 0, x, c, h, hc => by
    simp at h
    subst h
    have e : cellsS (y :: t) = encS y ++ cellsS t := rfl
    rw [e, List.getElem?_append_left (by rw [show (encS y).length = 3 from rfl]; omega), Nat.zero_mul, Nat.zero_add]
  | y :: t, i + 1, x, c, h, hc => by
    have e : cellsS (y :: t) = encS y ++ cellsS t := rfl
    rw [e, List.getElem?_append_right (by rw [show (encS y).length = 3 from rfl]; omega), show (encS y).length = 3 from rfl, show (i + 1) * 3 + c - 3 = i * 3 + c from by omega]
    exact cellsS_at t i x c (by simpa using h) hc
theorem infoRk : (Tryz.prog.info? 83).map (fun i => (i.zero, i.size, i.bytes)) = some (some (.agg #[.int .i64 0, .int .i64 0, .pointer none]), 3, 24) := by kernel_rfl
theorem undRks : Tryz.prog.underlying 78 = some (.slice 83) := by kernel_rfl
theorem cells3_new (w : World) (a b c : Value) (t : TypeId) : ∀ j u, [a, b, c][j]? = some u → (w.alloc (.cells #[a, b, c] t)).cell? ((⟨w.heap.size, 0, none⟩ : Addr).add j) = some u := by
  intro j u hj
  have hj2 := (List.getElem?_eq_some_iff.1 hj).1
  simp at hj2
  have h01 : j = 0 ∨ j = 1 ∨ j = 2 := by omega
  rcases h01 with rfl | rfl | rfl
  · simp at hj; subst hj; simp [Addr.add]
  · simp at hj; subst hj; simp [Addr.add]
  · simp at hj; subst hj; simp [Addr.add]

/-- The ranking in memory: the spans in the order in which objects are taken of them. -/
def RkAt (w : World) (A : Option Addr) (Y : List Sn) : Prop := ∀ (i : Nat) (x : Sn), Y[i]? = some x → ∃ g, A = some ⟨g, 0, none⟩ ∧ g < w.heap.size ∧ w.cell? ⟨g, i * 3, none⟩ = some (.int .i64 (tc x.m : Nat)) ∧ w.cell? ⟨g, i * 3 + 1, none⟩ = some (.int .i64 (x.m.s : Nat)) ∧ w.cell? ⟨g, i * 3 + 2, none⟩ = some (.pointer (some ⟨x.B, 0, none⟩))
def Rkd (X Y : List Sn) : Prop := Y.Perm X ∧ Y.Pairwise (fun x y => ltOf cfS y x = false)
def RkP (w : World) (X : List Sn) (e : Ending) (w' : World) : Prop := ∃ A c Y, e = .returned (.slice A X.length c) ∧ Rkd X Y ∧ RkAt w' A Y ∧ NewA w A ∧ Below w.heap.size w w'

theorem below_sort {w : World} {g n : Nat} {d : Array Sn} {os : Array Obj} {N : Nat} (hN : N ≤ w.heap.size) (hg : N ≤ g) : Below N w (sortWorldK encS 3 w g 0 n d os) := by
  refine ⟨rfl, rfl, rfl, by simp [sortWorldK, putRowK], fun k hk => ?_⟩
  unfold sortWorldK
  rw [heap_grow_old _ _ (by simp [putRowK]; omega)]
  have : g ≠ k := by omega
  simp [putRowK, putRow, mapBlock, Sort.ahead, Array.getElem?_modify, this]

set_option maxRecDepth 100000 in
set_option maxHeartbeats 1000000 in
/-- The sort of a row of ranked spans. -/
theorem sort_any {w : World} {N g c : Nat} (hN : N ≤ w.heap.size) (X : List Sn) (hX : X.length ≤ 1024) (hown : w.ownsRow N 83 3 (.slice (some ⟨g, 0, none⟩) X.length c) X.length (cellsS X)) :
    Calls Tryz.prog 80 #[.slice (some ⟨g, 0, none⟩) X.length c, .func (.func 81) #[] #[]] w fun e w' => e = .returned (.tuple #[]) ∧ ∃ Y, Rkd X Y ∧ RkAt w' (some ⟨g, 0, none⟩) Y ∧ Below N w w' := by
  obtain ⟨hNg, hgw, _⟩ := owns_at hown rfl
  have hcell : ∀ (i : Nat) (x : Sn) (q : Nat), X[i]? = some x → q < 3 → w.cell? ⟨g, i * 3 + q, none⟩ = (encS x)[q]? ∧ w.frozen? ⟨g, i * 3 + q, none⟩ = false := fun i x q hx hq => by
    have h1 := cellsS_at X i x q hx hq
    obtain ⟨u, hu⟩ : ∃ u, (encS x)[q]? = some u := ⟨_, List.getElem?_eq_getElem (by rw [show (encS x).length = 3 from rfl]; exact hq)⟩
    rw [hu] at h1
    obtain ⟨g', cap', e1, _, _, e2⟩ := owns_cell hown h1
    cases e1
    refine ⟨by rw [e2, hu], ?_⟩
    rcases hown.2 with ⟨h0, _⟩ | ⟨_, _, _, h0, _, hg, _⟩
    · cases h0
    · cases h0; simp [World.frozen?, hg]
  have hH : HoldsK encS 3 w g 0 X.toArray := fun j hj => by
    rw [size_flatK] at hj
    have hj' : j < X.length * 3 := by simpa using hj
    rw [get_flatK _ _ _ _ (by simpa using hj')]
    have hi : j / 3 < X.length := by omega
    have hx : X[j / 3]? = some X[j / 3] := List.getElem?_eq_getElem hi
    obtain ⟨h1, h2⟩ := hcell (j / 3) _ (j % 3) hx (Nat.mod_lt _ (by decide))
    have e : j / 3 * 3 + j % 3 = j := by omega
    rw [e] at h1 h2
    rw [Nat.zero_add]
    refine ⟨?_, h2⟩
    rw [h1]
    have e2 : X.toArray[j / 3]! = X[j / 3] := by simp [hi]
    rw [e2]
    have hl : j % 3 < (encS X[j / 3]).length := Nat.mod_lt _ (by decide)
    rw [List.getElem?_eq_getElem hl]
    simp [hl]
  have eg : ∀ args w, (callFunc 81 args).run Tryz.prog w = .ok (.enter 81 args) w := enters_of Tryz.func81 (by kernel_rfl) rfl
  have hcon := AnyQ.slices_SortFunc Tryz.sortRk 3 Tryz.isAgg83 Tryz.sizeOf83 encS (fun _ => rfl) (fun x v hv => by simp [encS] at hv; rcases hv with rfl | rfl | rfl <;> rfl) cfS swoS 81 #[] g 0 c X.toArray w eg (fun _ _ _ _ x y => ranking1_any x y _) hH hgw (by simp; omega)
  change Calls Tryz.prog 80 _ _ _ at hcon
  rw [show X.toArray.size = X.length by simp] at hcon
  refine hcon.mono fun e w' ⟨he, d', n, os, hp, hs, hw⟩ => ⟨he, d'.toList, ⟨?_, ?_⟩, fun i x hx => ?_, ?_⟩
  · have h2 := hp.2.2
    have h1 := hp.1
    have e1 : d'.extract 0 X.length = d' := by rw [show X.length = d'.size by rw [h1]; simp]; simp
    have e2 : X.toArray.extract 0 X.length = X.toArray := by simp
    rw [e1, e2] at h2
    exact h2
  · have h1 : d'.size = X.length := by rw [hp.1]; simp
    refine List.pairwise_iff_getElem.2 fun i j hi hj hij => ?_
    have := hs i j (Nat.zero_le _) hij (by rw [Array.length_toList] at hj; omega)
    rw [Array.length_toList] at hi hj
    rwa [getElem!_pos d' i hi, getElem!_pos d' j hj] at this
  · have h1 : d'.size = X.toArray.size := hp.1
    have hHK : HoldsK encS 3 w' g 0 d' := by
      rw [hw]
      exact holdsK_grow encS 3 _ _ g 0 _ (by simpa [putRowK] using hgw) (holdsK_putRowK encS 3 _ g 0 X.toArray d' (holdsK_ahead encS 3 _ _ g 0 _ hH) h1)
    have hi : i < d'.size := by have := (List.getElem?_eq_some_iff.1 hx).1; simpa using this
    have ex : d'[i]! = x := by rw [getElem!_pos d' i hi]; have := (List.getElem?_eq_some_iff.1 hx).2; simpa using this
    have c0 := (hHK.cell hi (show 0 < 3 by decide)).1
    have c1 := (hHK.cell hi (show 1 < 3 by decide)).1
    have c2 := (hHK.cell hi (show 2 < 3 by decide)).1
    rw [ex] at c0 c1 c2
    refine ⟨g, rfl, by rw [hw]; exact Nat.lt_of_lt_of_le hgw (below_sort hN hNg).size, ?_, ?_, ?_⟩
    · simpa [encS] using c0
    · simpa [encS] using c1
    · simpa [encS] using c2
  · rw [hw]; exact below_sort hN hNg

end Go.Proofs.YtejfoefhaphacaaGreat
