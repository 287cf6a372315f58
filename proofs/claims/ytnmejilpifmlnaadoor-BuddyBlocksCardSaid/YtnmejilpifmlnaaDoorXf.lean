/- The statement about blocks and pages: what its call returns. -/
import Derived.Test.YtnmejilpifmlnaaDoorXc
import Derived.Laws.MakeOwn
import Derived.Deep.RegionHeld3
namespace Go.Proofs.YtnmejilpifmlnaaDoor
open Go.RowKit

theorem doM_nb (m : Mo) (x : Ac) : (doM m x).n = m.n := by
  unfold doM givD tkD trD
  repeat' split
  all_goals rfl
theorem runM_nb (m : Mo) (l : List Ac) : (runM m l).n = m.n := by
  induction l generalizing m with
  | nil => rfl
  | cons x l ih => exact (ih (doM m x)).trans (doM_nb m x)
theorem frV_nb (m : Mo) (p : Nat) : frV m (p : Int) = m.F p := by
  unfold frV
  cases h : m.F p <;> simp [h]

/-- The pages that have been told behind i blocks. -/
def tl (G : Nat → Bool) (k : Nat) (bs : List Nat) (i : Nat) : Nat → Bool := (bs.take i).foldl (fun G s => setF G s (s + 2 ^ k) true) G
theorem tl_zero (G : Nat → Bool) (k : Nat) (bs : List Nat) : tl G k bs 0 = G := by unfold tl; rw [List.take_zero]; rfl
theorem tl_succ {G : Nat → Bool} {k s i : Nat} {bs : List Nat} (h : bs[i]? = some s) : tl G k bs (i + 1) = setF (tl G k bs i) s (s + 2 ^ k) true := by
  unfold tl
  rw [List.take_add_one, h, List.foldl_append]; rfl
theorem fold_iff {k p : Nat} : ∀ {l : List Nat} {G : Nat → Bool}, l.foldl (fun G s => setF G s (s + 2 ^ k) true) G p = true ↔ G p = true ∨ ∃ s, s ∈ l ∧ s ≤ p ∧ p < s + 2 ^ k
  | [], G => by simp
  | s :: l, G => by
    rw [List.foldl_cons, fold_iff]
    by_cases hs : s ≤ p ∧ p < s + 2 ^ k
    · rw [setF_in hs.1 hs.2]
      exact ⟨fun _ => .inr ⟨s, List.mem_cons_self .., hs⟩, fun _ => .inl rfl⟩
    · rw [setF_out hs]
      constructor
      · rintro (h | ⟨t, h1, h2⟩)
        · exact .inl h
        · exact .inr ⟨t, List.mem_cons_of_mem _ h1, h2⟩
      · rintro (h | ⟨t, h1, h2⟩)
        · exact .inl h
        · rcases List.mem_cons.1 h1 with rfl | h3
          · exact absurd h2 hs
          · exact .inr ⟨t, h3, h2⟩
theorem tl_all {F : Nat → Bool} {n k : Nat} (hF : ∀ q, F q = true → q < n) : tl (covB F k) k (bl F n k) (bl F n k).length = covB F (k + 1) := by
  funext p
  unfold tl
  rw [List.take_length, Bool.eq_iff_iff, fold_iff]
  show _ ↔ (covB F k p || inB F k p) = true
  rw [Bool.or_eq_true]
  refine or_congr Iff.rfl ⟨?_, fun h => ?_⟩
  · rintro ⟨s, h1, h2, h3⟩
    have hb := (bl_mem hF).1 h1
    refine decide_eq_true ?_
    rw [(hb.page h2 h3).1]
    exact hb
  · have hb := of_decide_eq_true h
    exact ⟨fl k p, (bl_mem hF).2 hb, fl_le _ _, fl_lt _ _⟩
/-- A block of the list, and what is told before it. -/
structure Nth (F : Nat → Bool) (n k i s : Nat) : Prop where
  bk : Bk F k s
  le : s + 2 ^ k ≤ n
  new : ∀ p, s ≤ p → p < s + 2 ^ k → tl (covB F k) k (bl F n k) i p = false
theorem nth_mk {F : Nat → Bool} {n k i s : Nat} (hF : ∀ q, F q = true → q < n) (h : (bl F n k)[i]? = some s) : Nth F n k i s := by
  have hb := (bl_mem (k := k) hF).1 (List.mem_of_getElem? h)
  refine ⟨hb, bk_le hF hb, fun p h1 h2 => ?_⟩
  cases ht : tl (covB F k) k (bl F n k) i p
  · rfl
  · unfold tl at ht
    rcases fold_iff.1 ht with hc | ⟨t, h3, h4, h5⟩
    · obtain ⟨j, hj, hi⟩ := covB_ex.1 hc
      have := hb.one (of_decide_eq_true hi) h1 h2 (fl_le _ _) (fl_lt _ _)
      omega
    · have hbt := (bl_mem (k := k) hF).1 (List.mem_of_mem_take h3)
      have hst := (hb.one hbt h1 h2 h4 h5).2
      subst hst
      obtain ⟨j, hj⟩ := List.mem_iff_getElem?.1 h3
      rw [List.getElem?_take] at hj
      split at hj
      · rename_i hji
        have hr := bl_rise F n k
        obtain ⟨i1, i2⟩ := List.getElem?_eq_some_iff.1 h
        obtain ⟨j1, j2⟩ := List.getElem?_eq_some_iff.1 hj
        have := List.pairwise_iff_getElem.1 hr j i j1 i1 hji
        omega
      · cases hj
theorem pair_lt {F : Nat → Bool} {n k i a b : Nat} (h1 : (bl F n k)[i]? = some a) (h2 : (bl F n k)[i + 1]? = some b) : a < b := by
  obtain ⟨i1, i2⟩ := List.getElem?_eq_some_iff.1 h1
  obtain ⟨j1, j2⟩ := List.getElem?_eq_some_iff.1 h2
  have := List.pairwise_iff_getElem.1 (bl_rise F n k) i (i + 1) i1 j1 (by omega)
  omega
theorem pair_apart {F : Nat → Bool} {k a : Nat} (h1 : Bk F k a) (h2 : Bk F k (a + 2 ^ k)) (h3 : a % (2 * 2 ^ k) = 0) : False := by
  have h3' : a % 2 ^ (k + 1) = 0 := by rw [Nat.pow_succ, Nat.mul_comm]; exact h3
  have := h1.2
  rw [fl_self h3'] at this
  refine this (Pl.mk' h3' fun p hp1 hp2 => ?_)
  rw [Nat.pow_succ] at hp2
  by_cases hp : p < a + 2 ^ k
  · exact h1.at hp1 hp
  · exact h2.at (by omega) (by omega)

def tv (G : Nat → Bool) (p : Nat) : Value := .int .i64 (if G p = true then 1 else 0)
theorem tv_set {G : Nat → Bool} {s q p : Nat} (h : s ≤ q) : (if p = q then Value.int .i64 1 else tv (setF G s q true) p) = tv (setF G s (q + 1) true) p := by
  unfold tv
  by_cases e : p = q
  · subst e
    rw [if_pos rfl, setF_in h (by omega)]; rfl
  · rw [if_neg e]
    by_cases hp : s ≤ p ∧ p < q
    · rw [setF_in hp.1 hp.2, setF_in hp.1 (by omega)]
    · rw [setF_out hp, setF_out (by omega)]
theorem covB_top {F : Nat → Bool} {n : Nat} (hF : ∀ q, F q = true → q < n) (hn : n ≤ 1024) : covB F 11 = F := by
  funext p
  rw [Bool.eq_iff_iff]
  refine ⟨covB_le, fun h => ?_⟩
  obtain ⟨k, hk, hb⟩ := bk_ex (K := 11) hF (by have : (2 : Nat) ^ 11 = 2048 := rfl; omega) h
  exact covB_ex.2 ⟨k, hk, decide_eq_true hb⟩

/-- Behind w1: the counts in block T, the slice of blocks behind N. -/
structure Bs (w1 : World) (T n : Nat) (G : Nat → Bool) (wr : World) : Prop where
  cl : Cl wr T n (tv G)
  bel : Below w1.heap.size w1 wr
  t : w1.heap.size ≤ T
theorem madeCells_get (z : Array Value) (n j : Nat) (hj : j < n) : (madeCells z n)[j]? = some z[j % z.size]! := by simp [madeCells, hj]
theorem bs_new (w1 : World) (n : Nat) : Bs w1 w1.heap.size n (fun _ => false) (w1.alloc (.cells (madeCells #[.int .i64 0] n) 3)) := by
  have hB := (MapKept.heap_alloc w1 (.cells (madeCells #[.int .i64 0] n) 3)).1
  have hb := bnew w1 (.cells (madeCells #[.int .i64 0] n) 3)
  generalize w1.alloc (.cells (madeCells #[.int .i64 0] n) 3) = W at hB hb
  refine ⟨⟨fun i hi => ?_, fun i hi => by simp [World.frozen?, hB]⟩, hb, Nat.le_refl _⟩
  have e : W.cell? ⟨w1.heap.size, i, none⟩ = (madeCells #[.int .i64 0] n)[i]? := by simp [World.cell?, hB]
  rw [e, madeCells_get _ _ _ hi]
  simp [tv, Nat.mod_one]
theorem Bs.then {w1 wr w' : World} {T n : Nat} {G : Nat → Bool} (h : Bs w1 T n G wr) (hn : 0 < n) (hb : Below wr.heap.size wr w') : Bs w1 T n G w' :=
  ⟨h.cl.of_block (hb.block T (h.cl.lt hn)), btr h.bel hb (Nat.le_refl _), h.t⟩
theorem Bs.put {w1 wr : World} {T n s q : Nat} {G : Nat → Bool} (h : Bs w1 T n (setF G s q true) wr) (hq : s ≤ q) : Bs w1 T n (setF G s (q + 1) true) (wr.setCell ⟨T, q, none⟩ (.int .i64 1)) :=
  ⟨(h.cl.set q _).congr fun _ _ => tv_set hq, h.bel.setCell (p := ⟨T, q, none⟩) h.t _, h.t⟩
theorem keep_put (wr : World) (T q : Nat) (v : Value) : Keep (fun k => k = T) wr (wr.setCell ⟨T, q, none⟩ v) :=
  ⟨rfl, rfl, rfl, by rw [World.size_setCell]; exact Nat.le_refl _, fun k _ hk => Below.heap_setCell _ _ _ _ hk⟩

set_option maxRecDepth 100000 in
set_option maxHeartbeats 8000000 in
theorem blocks_walk (p : Int) (A : Option Addr) (c : Nat) (l : List Ac) (w : World) (ht : Tab w) (hp0 : 0 ≤ p) (hp1 : p ≤ 65535) (hl : l.length ≤ 9223372036854775807) (hA : ActsAt w w.heap.size A l) :
    Calls Tryd.prog 6 #[.int .u16 p, .slice A l.length c] w (Yes w) := by
  have HAL := Lib.hid (Alive w ht)
  obtain ⟨n, hn⟩ : ∃ n : Nat, p % 1024 + 1 = n := ⟨(p % 1024 + 1).toNat, by omega⟩
  have HMD := Lib.hid (Made p A c n l w hn hp0 hp1 hl hA ht)
  have hn1 : 1 ≤ n := by omega
  have hn2 : n ≤ 1024 := by omega
  have t1 : p.tmod 1024 = p % 1024 := Int.tmod_eq_emod_of_nonneg hp0
  have t2 : IntKind.i64.wrap (p % 1024) = p % 1024 := IntWalk.i64_in _ (by omega)
  have t3 : IntKind.i64.wrap (p % 1024 + 1) = (n : Int) := by rw [hn]; exact IntWalk.i64_in _ (by omega)
  have t4 : IntKind.i64.wrap p = p := IntWalk.i64_in _ (by omega)
  obtain ⟨i0, hi, hz0, hz1, hz2⟩ := info_parts Tryd.info3
  have hmk := fun w => run_make (P := Tryd.prog) w 43 3 i0 (.int .i64 0) Tryd.underlying43 hi hz0 .i64 .i64 n n (by omega) (Int.le_refl _) (by rw [hz2]; omega) (by omega)
  rw [hz1] at hmk
  simp only [Int.toNat_natCast, Value.cells, Nat.mul_one] at hmk
  obtain ⟨L, hL⟩ : ∃ L, L = l.length := ⟨_, rfl⟩
  rw [← hL] at hl HMD ⊢
  have HG := Lib.hid (fun w => great_any A L c w hl)
  have HR := Lib.hid (runM_nb (newM n) l)
  have hb0 := Below.refl w.heap.size w
  clear hA hL ht hi hz0 hz1 hz2 hn
  by_cases h40 : 40 < L
  · rw [decide_eq_true h40] at HG
    go_enter Tryd.func6, Tryd.ntmps6
    go_wp2_with fail
    refine (HG.out _).mono ?_
    rintro e _ ⟨rfl, rfl⟩
    go_wp2_with fail
    refine (HAL.out _ hb0).mono ?_
    rintro e w1 ⟨rfl, hb1⟩
    go_wp2_with fail
    go_ret
    exact ⟨rfl, hb1⟩
  · rw [decide_eq_false h40] at HG
    clear h40
    go_enter Tryd.func6, Tryd.ntmps6
    go_wp2_with fail
    refine (HG.out _).mono ?_
    rintro e _ ⟨rfl, rfl⟩
    go_wp2_with fail
    refine (HMD.out _ hb0).mono ?_
    rintro e w1 ⟨B, rfl, hb1, hs1⟩
    have HB1 := Lib.hid hb1
    have HS1 := Lib.hid hs1
    have HMN := Lib.hid (show (runM (newM n) l).n = n from HR.out)
    generalize runM (newM n) l = m at HS1 HMN
    clear hb0 hb1 hs1 HMD
    have hmk1 := hmk w1
    have HST0 := Lib.hid (bs_new w1 n)
    go_wp2_with fail
    go_loopw [8] (fun v wr => ∃ k : Nat, k ≤ 11 ∧ v = .int .i64 k ∧ Bs w1 w1.heap.size n (covB m.F k) wr) (fun v _ => 12 - (intOf v).toNat)
    case atStart => exact ⟨0, by omega, rfl, HST0.out⟩
    case round =>
      obtain ⟨k, hk, rfl, hB⟩ := hrel
      have HB := Lib.hid hB
      have HH := Lib.hid (HS1.out.below hB.bel)
      clear hB
      by_cases hk10 : k ≤ 10
      · have HBL := Lib.hid (Blocks_any (k : Int) HH.out ⟨by omega, by omega⟩)
        rw [blV_nat] at HBL
        have hlen := blV_len m (k : Int)
        rw [blV_nat, HMN.out] at hlen
        have HNTH := Lib.hid (fun i s (h : (bl m.F m.n k)[i]? = some s) => nth_mk HS1.out.wf.f h)
        have HLT := Lib.hid (fun i a b (h1 : (bl m.F m.n k)[i]? = some a) (h2 : (bl m.F m.n k)[i + 1]? = some b) => pair_lt h1 h2)
        have HALL := Lib.hid (tl_all (k := k) HS1.out.wf.f)
        have HBKM := Lib.hid (fun i s (h : (bl m.F m.n k)[i]? = some s) => (bl_mem HS1.out.wf.f).1 (List.mem_of_getElem? h))
        rw [HMN.out] at HBL HNTH HLT HALL HBKM
        obtain ⟨P, hP, hp1, hp2, e1, e2⟩ := two_pow (k := k) (by omega)
        have HP := Lib.hid hP
        have HE := Lib.hid (And.intro e1 e2)
        clear hP e1 e2
        have HBSD := Lib.hid (show bl m.F n k = bl m.F n k from rfl)
        obtain ⟨bs, hbs⟩ : ∃ bs, bl m.F n k = bs := ⟨_, rfl⟩
        have HBSE := Lib.hid hbs
        rw [hbs] at HBL HLT HALL hlen HBKM
        clear hbs HBSD
        obtain ⟨LB, hLB⟩ : ∃ L, bs.length = L := ⟨_, rfl⟩
        have HLB := Lib.hid hLB
        rw [hLB] at hlen HALL
        clear hLB
        go_wp2_with fail
        refine HBL.out.mono ?_
        rintro e w4 ⟨A4, c4, rfl, hn4, hb4⟩
        rw [HLB.out]
        have HBS4 := Lib.hid (HB.out.then (by omega) hb4)
        have HTN := Lib.hid (HB.out.cl.lt (by omega))
        have HN4 := Lib.hid hn4
        generalize wr.heap.size = N at HTN HN4
        clear hn4 hb4 HB HH HBL
        go_wp2_with fail
        go_loopw [10] (fun v wr => ∃ i : Nat, i ≤ LB ∧ v = .int .i64 i ∧ Bs w1 w1.heap.size n (tl (covB m.F k) k bs i) wr ∧ NatsAt wr N A4 bs) (fun v _ => LB - (intOf v).toNat)
        case atStart => exact ⟨0, by omega, rfl, by rw [tl_zero]; exact HBS4.out, HN4.out⟩
        case round =>
          obtain ⟨i, hi, rfl, hB2, hN2⟩ := hrel
          have HBS2 := Lib.hid hB2
          have HNA2 := Lib.hid hN2
          clear hB2 hN2
          by_cases hlt : i < LB
          · obtain ⟨s, hx⟩ : ∃ s, bs[i]? = some s := ⟨_, List.getElem?_eq_getElem (by have := HLB.out; omega)⟩
            have HX := Lib.hid hx
            have hnth := HNTH.out i s (by rw [HBSE.out]; exact hx)
            have hbk := hnth.bk
            have hle := hnth.le
            have hnew := hnth.new
            rw [HBSE.out, ← HP.out] at hnew
            rw [← HP.out] at hle
            have HNEW := Lib.hid hnew
            have hmod : s % P = 0 := by rw [HP.out]; exact hbk.mod
            have HBK := Lib.hid hbk
            obtain ⟨g, rfl, _, _, d1⟩ := HNA2.out i s hx
            clear hnth hnew hbk hx
            have a1 : ¬ (s : Int) < 0 := by omega
            have a2 : (s : Int) < (n : Int) := by omega
            have a2' : s < n := by omega
            have a3 : (s : Int) % (P : Int) = 0 := by rw [← Int.natCast_emod, hmod]; rfl
            have a3' : (s : Int).tmod (P : Int) = 0 := by rw [Int.tmod_eq_emod_of_nonneg (by omega)]; exact a3
            have a4 : IntKind.i64.wrap ((n : Int) - (s : Int)) = (n : Int) - (s : Int) := IntWalk.i64_in _ (by omega)
            have a5 : ¬ (n : Int) - (s : Int) < (P : Int) := by omega
            have a6 : ¬ P = 0 := by omega
            have D := Lib.hid (And.intro (show decide ((s : Int) < 0) = false from decide_eq_false a1) (And.intro (show decide ((n : Int) ≤ (s : Int)) = false from decide_eq_false (by omega)) (And.intro (show decide (n ≤ s) = false from decide_eq_false (by omega)) (show decide ((n : Int) - (s : Int) < (P : Int)) = false from decide_eq_false a5))))
            have x1 : (i : Int) < (LB : Int) := by omega
            clear hmod a1 a2 a2' a5
            rcases Nat.eq_zero_or_pos i with hi0 | hi0
            · have b1 : decide (0 < i) = false := decide_eq_false (by omega)
              have b2 : decide ((0 : Int) < (i : Int)) = false := decide_eq_false (by omega)
              clear hi0
              obtain ⟨e1, e2⟩ := HE.out
              obtain ⟨d1x, d2x, d3x, d4x⟩ := D.out
              go_wp2_with fail
              go_quiet (fail)
              clear d1x d2x d3x d4x e1 e2
              have hbs3 := HBS2.out.then (by omega) (belowN (Below.refl _ _) nq)
              have hna3 := HNA2.out.keep (Keep.of (O := fun _ => False) (belowN (Below.refl wr.heap.size wr) nq)) (fun _ _ h => h)
              have HBS3 := Lib.hid hbs3
              have HNA3 := Lib.hid hna3
              clear hbs3 hna3 d1
              go_wp2_with fail
              generalize wr.drewN nq = wy at HBS3 HNA3 ⊢
              clear nq
              obtain ⟨g', hge, _, _, d1⟩ := HNA3.out i s HX.out
              cases hge
              go_quiet (fail)
              have HBS5 := Lib.hid (HBS3.out.then (by omega) (belowN (Below.refl _ _) nq))
              have HNA5 := Lib.hid (HNA3.out.keep (Keep.of (O := fun _ => False) (belowN (Below.refl wy.heap.size wy) nq)) (fun _ _ h => h))
              clear b1 b2
              go_wp2_with fail
              clear d1
              go_loopw [11] (fun v wr => ∃ q : Nat, s ≤ q ∧ q ≤ s + P ∧ v = .int .i64 q ∧ Bs w1 w1.heap.size n (setF (tl (covB m.F k) k bs i) s q true) wr ∧ NatsAt wr N (some ⟨g, 0, none⟩) bs) (fun v _ => 3000 - (intOf v).toNat)
              case atStart => exact ⟨s, Nat.le_refl _, by omega, rfl, by rw [setF_none (Nat.le_refl _)]; exact HBS5.out, HNA5.out⟩
              case round =>
                obtain ⟨q, hq1, hq2, rfl, hB3, hN3⟩ := hrel
                obtain ⟨g', hge, _, _, c3⟩ := hN3 i s HX.out
                cases hge
                by_cases hqs : q < s + P
                · have hGq : tl (covB m.F k) k bs i q = false := HNEW.out q hq1 hqs
                  have ct := hB3.cl.cell q (by omega)
                  have cf := hB3.cl.free q (by omega)
                  have e0 : tv (setF (tl (covB m.F k) k bs i) s q true) q = .int .i64 0 := by
                    unfold tv
                    rw [setF_out (by omega), hGq]; rfl
                  rw [e0] at ct
                  have HB3 := Lib.hid hB3
                  have HN3 := Lib.hid hN3
                  have hqi : (q : Int) < (s : Int) + (P : Int) := by omega
                  have hqn : (q : Int) < (n : Int) := by omega
                  have hqn' : q < n := by omega
                  have hsw : IntKind.i64.wrap ((s : Int) + (P : Int)) = (s : Int) + (P : Int) := IntWalk.i64_in _ (by omega)
                  clear hB3 hN3 hGq e0
                  obtain ⟨e1, e2⟩ := HE.out
                  go_wp2_with fail
                  go_quiet (fail)
                  clear e1 e2
                  have ct' : (wr.drewN nq).cell? ⟨w1.heap.size, q, none⟩ = some (.int .i64 0) := ct
                  have cf' : (wr.drewN nq).frozen? ⟨w1.heap.size, q, none⟩ = false := cf
                  go_wp2_with fail
                  go_roundw
                  case rel => exact ⟨q + 1, by omega, by omega, by go_num, Bs.put (HB3.out.then (by omega) (belowN (Below.refl _ _) _)) hq1, HN3.out.keep ((Keep.of (belowN (Below.refl _ _) _)).trans (keep_put _ _ _ _)) (fun k hk e => by have := HTN.out; omega)⟩
                  case measure => simp [intOf]; omega
                · obtain rfl : q = s + P := by omega
                  have hts := tl_succ (G := covB m.F k) (k := k) HX.out
                  rw [← HP.out] at hts
                  rw [← hts] at hB3
                  have HB3 := Lib.hid hB3
                  have HN3 := Lib.hid hN3
                  have hqi : ¬ (s : Int) + (P : Int) < (s : Int) + (P : Int) := by omega
                  have hsw : IntKind.i64.wrap ((s : Int) + (P : Int)) = (s : Int) + (P : Int) := IntWalk.i64_in _ (by omega)
                  clear hB3 hN3 hts
                  obtain ⟨e1, e2⟩ := HE.out
                  go_wp2_with fail
                  go_quiet (fail)
                  clear e1 e2
                  go_wp2_with fail
                  go_roundw
                  case rel => exact ⟨i + 1, by omega, by go_num, HB3.out.then (by omega) (belowN (Below.refl _ _) nq), HN3.out.keep (Keep.of (O := fun _ => False) (belowN (Below.refl _ _) nq)) (fun _ _ h => h)⟩
                  case measure => simp [intOf]; omega
            · obtain ⟨a, hxa⟩ : ∃ a, bs[i - 1]? = some a := ⟨_, List.getElem?_eq_getElem (by have := HLB.out; omega)⟩
              have hx1 : bs[i - 1 + 1]? = some s := by rw [show i - 1 + 1 = i from by omega]; exact HX.out
              have has := HLT.out (i - 1) a s hxa hx1
              have HAP := Lib.hid (fun (e : s = a + P) (h : a % (2 * P) = 0) => pair_apart (HBKM.out _ _ hxa) (by rw [← HP.out, ← e]; exact HBKM.out _ _ HX.out) (by rw [← HP.out]; exact h))
              obtain ⟨g', hge, _, _, d0⟩ := HNA2.out (i - 1) a hxa
              cases hge
              have HXA := Lib.hid hxa
              have w1x : IntKind.i64.wrap ((i : Int) - 1) = (i : Int) - 1 := IntWalk.i64_in _ (by omega)
              have w2x : ((i : Int) - 1).toNat = i - 1 := by omega
              have w3x : (0 : Int) ≤ (i : Int) - 1 := by omega
              have w4x : (1 : Int) ≤ (i : Int) := by omega
              have w5x : (i : Int) - 1 < (LB : Int) := by omega
              have w6x : 0 < i := by omega
              have w7x : 1 ≤ i := by omega
              have w8x : decide (s ≤ a) = false := decide_eq_false (by omega)
              have w9x : decide ((s : Int) ≤ (a : Int)) = false := decide_eq_false (by omega)
              clear hi0 hxa hx1
              obtain ⟨e1, e2⟩ := HE.out
              obtain ⟨d1x, d2x, d3x, d4x⟩ := D.out
              go_wp2_with fail
              go_quiet (fail)
              clear d1x d2x d3x d4x e1 e2
              have hbs3 := HBS2.out.then (by omega) (belowN (Below.refl _ _) nq)
              have hna3 := HNA2.out.keep (Keep.of (O := fun _ => False) (belowN (Below.refl wr.heap.size wr) nq)) (fun _ _ h => h)
              have HBS3 := Lib.hid hbs3
              have HNA3 := Lib.hid hna3
              clear hbs3 hna3 d1 d0
              go_wp2_with fail
              generalize wr.drewN nq = wy at HBS3 HNA3 ⊢
              clear nq
              obtain ⟨g', hge, _, _, d1⟩ := HNA3.out i s HX.out
              cases hge
              obtain ⟨g', hge, _, _, d0⟩ := HNA3.out (i - 1) a HXA.out
              cases hge
              have u2 : IntKind.i64.wrap ((a : Int) + (P : Int)) = (a : Int) + (P : Int) := IntWalk.i64_in _ (by omega)
              by_cases hsp : s = a + P
              · obtain ⟨Q, hQ⟩ : ∃ Q, Q = 2 * P := ⟨_, rfl⟩
                have hap := HAP.out hsp
                rw [← hQ] at hap
                have v1 : ((s : Int) == (a : Int) + (P : Int)) = true := by simp; omega
                have v2 : (s == a + P) = true := by simp; omega
                have hmz : ¬ (a : Int) % (Q : Int) = 0 := fun h => hap (by have := Int.natCast_emod a Q; omega)
                have v3 : ((a : Int) % (Q : Int) == 0) = false := by simpa using hmz
                have v4 : (a : Int).tmod (Q : Int) = (a : Int) % (Q : Int) := Int.tmod_eq_emod_of_nonneg (by omega)
                have v5 : ¬ Q = 0 := by omega
                obtain ⟨e1, e2⟩ := HE.out
                have e3 : IntKind.i64.wrap (2 * (2 : Int) ^ k) = (Q : Int) := by
                  have := HP.out
                  have e : (2 : Int) * (2 : Int) ^ k = (Q : Int) := by
                    have e' : ((2 : Int) ^ k) = ((2 ^ k : Nat) : Int) := by simp
                    rw [e', ← this, hQ]; rfl
                  rw [e]
                  clear e1 e2
                  exact IntWalk.i64_in _ (by omega)
                have e4 : wrap64 (2 * (2 : Int) ^ k) = (Q : Int) := by
                  have := HP.out
                  have e : (2 : Int) * (2 : Int) ^ k = (Q : Int) := by
                    have e' : ((2 : Int) ^ k) = ((2 ^ k : Nat) : Int) := by simp
                    rw [e', ← this, hQ]; rfl
                  rw [e]
                  clear e1 e2 e3
                  exact IntWalk.wrap64_in _ (by omega)
                clear hQ hap hmz
                have HSP := Lib.hid hsp
                clear hsp
                go_quiet (fail)
                clear v1 v2 v3 v4 v5 e1 e2 e3 e4 w1x w2x w3x w4x w5x w6x w7x w8x w9x u2
                have HBS5 := Lib.hid (HBS3.out.then (by omega) (belowN (Below.refl _ _) nq))
                have HNA5 := Lib.hid (HNA3.out.keep (Keep.of (O := fun _ => False) (belowN (Below.refl wy.heap.size wy) nq)) (fun _ _ h => h))
                skip
                go_wp2_with fail
                clear d1 d0
                go_loopw [11] (fun v wr => ∃ q : Nat, s ≤ q ∧ q ≤ s + P ∧ v = .int .i64 q ∧ Bs w1 w1.heap.size n (setF (tl (covB m.F k) k bs i) s q true) wr ∧ NatsAt wr N (some ⟨g, 0, none⟩) bs) (fun v _ => 3000 - (intOf v).toNat)
                case atStart => exact ⟨s, Nat.le_refl _, by omega, rfl, by rw [setF_none (Nat.le_refl _)]; exact HBS5.out, HNA5.out⟩
                case round =>
                  obtain ⟨q, hq1, hq2, rfl, hB3, hN3⟩ := hrel
                  obtain ⟨g', hge, _, _, c3⟩ := hN3 i s HX.out
                  cases hge
                  by_cases hqs : q < s + P
                  · have hGq : tl (covB m.F k) k bs i q = false := HNEW.out q hq1 hqs
                    have ct := hB3.cl.cell q (by omega)
                    have cf := hB3.cl.free q (by omega)
                    have e0 : tv (setF (tl (covB m.F k) k bs i) s q true) q = .int .i64 0 := by
                      unfold tv
                      rw [setF_out (by omega), hGq]; rfl
                    rw [e0] at ct
                    have HB3 := Lib.hid hB3
                    have HN3 := Lib.hid hN3
                    have hqi : (q : Int) < (s : Int) + (P : Int) := by omega
                    have hqn : (q : Int) < (n : Int) := by omega
                    have hqn' : q < n := by omega
                    have hsw : IntKind.i64.wrap ((s : Int) + (P : Int)) = (s : Int) + (P : Int) := IntWalk.i64_in _ (by omega)
                    clear hB3 hN3 hGq e0
                    obtain ⟨e1, e2⟩ := HE.out
                    go_wp2_with fail
                    go_quiet (fail)
                    clear e1 e2
                    have ct' : (wr.drewN nq).cell? ⟨w1.heap.size, q, none⟩ = some (.int .i64 0) := ct
                    have cf' : (wr.drewN nq).frozen? ⟨w1.heap.size, q, none⟩ = false := cf
                    go_wp2_with fail
                    go_roundw
                    case rel => exact ⟨q + 1, by omega, by omega, by go_num, Bs.put (HB3.out.then (by omega) (belowN (Below.refl _ _) _)) hq1, HN3.out.keep ((Keep.of (belowN (Below.refl _ _) _)).trans (keep_put _ _ _ _)) (fun k hk e => by have := HTN.out; omega)⟩
                    case measure => simp [intOf]; omega
                  · obtain rfl : q = s + P := by omega
                    have hts := tl_succ (G := covB m.F k) (k := k) HX.out
                    rw [← HP.out] at hts
                    rw [← hts] at hB3
                    have HB3 := Lib.hid hB3
                    have HN3 := Lib.hid hN3
                    have hqi : ¬ (s : Int) + (P : Int) < (s : Int) + (P : Int) := by omega
                    have hsw : IntKind.i64.wrap ((s : Int) + (P : Int)) = (s : Int) + (P : Int) := IntWalk.i64_in _ (by omega)
                    clear hB3 hN3 hts
                    obtain ⟨e1, e2⟩ := HE.out
                    go_wp2_with fail
                    go_quiet (fail)
                    clear e1 e2
                    go_wp2_with fail
                    go_roundw
                    case rel => exact ⟨i + 1, by omega, by go_num, HB3.out.then (by omega) (belowN (Below.refl _ _) nq), HN3.out.keep (Keep.of (O := fun _ => False) (belowN (Below.refl _ _) nq)) (fun _ _ h => h)⟩
                    case measure => simp [intOf]; omega
              · have v1 : ((s : Int) == (a : Int) + (P : Int)) = false := by simp; omega
                have v2 : (s == a + P) = false := by simp; omega
                obtain ⟨e1, e2⟩ := HE.out
                clear hsp
                go_quiet (fail)
                clear v1 v2 e1 e2 w1x w2x w3x w4x w5x w6x w7x w8x w9x u2
                have HBS5 := Lib.hid (HBS3.out.then (by omega) (belowN (Below.refl _ _) nq))
                have HNA5 := Lib.hid (HNA3.out.keep (Keep.of (O := fun _ => False) (belowN (Below.refl wy.heap.size wy) nq)) (fun _ _ h => h))
                skip
                go_wp2_with fail
                clear d1 d0
                go_loopw [11] (fun v wr => ∃ q : Nat, s ≤ q ∧ q ≤ s + P ∧ v = .int .i64 q ∧ Bs w1 w1.heap.size n (setF (tl (covB m.F k) k bs i) s q true) wr ∧ NatsAt wr N (some ⟨g, 0, none⟩) bs) (fun v _ => 3000 - (intOf v).toNat)
                case atStart => exact ⟨s, Nat.le_refl _, by omega, rfl, by rw [setF_none (Nat.le_refl _)]; exact HBS5.out, HNA5.out⟩
                case round =>
                  obtain ⟨q, hq1, hq2, rfl, hB3, hN3⟩ := hrel
                  obtain ⟨g', hge, _, _, c3⟩ := hN3 i s HX.out
                  cases hge
                  by_cases hqs : q < s + P
                  · have hGq : tl (covB m.F k) k bs i q = false := HNEW.out q hq1 hqs
                    have ct := hB3.cl.cell q (by omega)
                    have cf := hB3.cl.free q (by omega)
                    have e0 : tv (setF (tl (covB m.F k) k bs i) s q true) q = .int .i64 0 := by
                      unfold tv
                      rw [setF_out (by omega), hGq]; rfl
                    rw [e0] at ct
                    have HB3 := Lib.hid hB3
                    have HN3 := Lib.hid hN3
                    have hqi : (q : Int) < (s : Int) + (P : Int) := by omega
                    have hqn : (q : Int) < (n : Int) := by omega
                    have hqn' : q < n := by omega
                    have hsw : IntKind.i64.wrap ((s : Int) + (P : Int)) = (s : Int) + (P : Int) := IntWalk.i64_in _ (by omega)
                    clear hB3 hN3 hGq e0
                    obtain ⟨e1, e2⟩ := HE.out
                    go_wp2_with fail
                    go_quiet (fail)
                    clear e1 e2
                    have ct' : (wr.drewN nq).cell? ⟨w1.heap.size, q, none⟩ = some (.int .i64 0) := ct
                    have cf' : (wr.drewN nq).frozen? ⟨w1.heap.size, q, none⟩ = false := cf
                    go_wp2_with fail
                    go_roundw
                    case rel => exact ⟨q + 1, by omega, by omega, by go_num, Bs.put (HB3.out.then (by omega) (belowN (Below.refl _ _) _)) hq1, HN3.out.keep ((Keep.of (belowN (Below.refl _ _) _)).trans (keep_put _ _ _ _)) (fun k hk e => by have := HTN.out; omega)⟩
                    case measure => simp [intOf]; omega
                  · obtain rfl : q = s + P := by omega
                    have hts := tl_succ (G := covB m.F k) (k := k) HX.out
                    rw [← HP.out] at hts
                    rw [← hts] at hB3
                    have HB3 := Lib.hid hB3
                    have HN3 := Lib.hid hN3
                    have hqi : ¬ (s : Int) + (P : Int) < (s : Int) + (P : Int) := by omega
                    have hsw : IntKind.i64.wrap ((s : Int) + (P : Int)) = (s : Int) + (P : Int) := IntWalk.i64_in _ (by omega)
                    clear hB3 hN3 hts
                    obtain ⟨e1, e2⟩ := HE.out
                    go_wp2_with fail
                    go_quiet (fail)
                    clear e1 e2
                    go_wp2_with fail
                    go_roundw
                    case rel => exact ⟨i + 1, by omega, by go_num, HB3.out.then (by omega) (belowN (Below.refl _ _) nq), HN3.out.keep (Keep.of (O := fun _ => False) (belowN (Below.refl _ _) nq)) (fun _ _ h => h)⟩
                    case measure => simp [intOf]; omega
          · obtain rfl : i = LB := by omega
            have hbx := HBS2.out
            rw [HALL.out] at hbx
            have HBX := Lib.hid hbx
            clear hbx
            go_wp2_with fail
            go_roundw
            case rel => exact ⟨k + 1, by omega, by go_num, HBX.out⟩
            case measure => simp [intOf]; omega
      · have hbx := HB.out
        rw [show k = 11 from by omega, covB_top HS1.out.wf.f (by have := HMN.out; omega)] at hbx
        have HBX := Lib.hid hbx
        have HFQ := Lib.hid (show cntF m.F n = m.fr by unfold Mo.fr; rw [HMN.out])
        clear hbx HB HH
        go_wp2_with fail
        go_loopw [12, 13] (fun fv pv wr => ∃ q : Nat, q ≤ n ∧ pv = .int .i64 q ∧ fv = .int .i64 (cntF m.F q : Nat) ∧ Bs w1 w1.heap.size n m.F wr) (fun _ v _ => n - (intOf v).toNat)
        case atStart => exact ⟨0, by omega, rfl, rfl, HBX.out⟩
        case round =>
          obtain ⟨q, hq, rfl, rfl, hB⟩ := hrel
          have HBQ := Lib.hid hB
          have HH := Lib.hid (HS1.out.below hB.bel)
          clear hB
          have hcs := cntF_succ m.F q
          have hcl := cntF_le m.F q
          by_cases hlt : q < n
          · have ct := HBQ.out.cl.cell q hlt
            have hzt := HBQ.out.cl.lt (by omega)
            have HF := Lib.hid (fun w' (hb : Below wr.heap.size wr w') => IsFree_any (q : Int) (HH.out.below hb) ⟨by omega, by omega⟩)
            rw [frV_nb] at HF
            unfold tv at ct
            generalize hC : cntF m.F q = C at hcs hcl
            generalize hC1 : cntF m.F (q + 1) = C1 at hcs
            have HC1 := Lib.hid hC1
            have hsw : IntKind.i64.wrap ((C : Int) + 1) = (C : Int) + 1 := IntWalk.i64_in _ (by omega)
            clear hC hC1
            cases hv : m.F q
            · rw [hv] at ct HF hcs
              simp only [reduceIte, Bool.false_eq_true] at ct hcs
              have HCT := Lib.hid (fun w' (hb : Below wr.heap.size wr w') => (hb.cell (p := ⟨w1.heap.size, q, none⟩) hzt).trans ct)
              go_wp2_with fail
              go_region_held3 (fun w' => w'.cell? ⟨w1.heap.size, q, none⟩ = some (.int .i64 0)) (first | exact ct | exact HCT.out _ (bdr hb5))
                ((go_at_call 20; refine (HF.out _ (belowN (Below.refl _ _) _)).mono ?_; rintro e w5 ⟨rfl, hb5⟩))
              have hb6 := bdr hb5
              have ct5 := HCT.out _ hb6
              clear hb5
              go_wp2_with fail
              go_roundw
              case rel => exact ⟨q + 1, by omega, by go_num, by rw [HC1.out, hcs]; go_num, HBQ.out.then (by omega) hb6⟩
              case measure => simp [intOf]; omega
            · rw [hv] at ct HF hcs
              simp only [reduceIte] at ct hcs
              have HCT := Lib.hid (fun w' (hb : Below wr.heap.size wr w') => (hb.cell (p := ⟨w1.heap.size, q, none⟩) hzt).trans ct)
              go_wp2_with fail
              go_region_held3 (fun w' => w'.cell? ⟨w1.heap.size, q, none⟩ = some (.int .i64 1)) (first | exact ct | exact HCT.out _ (bdr hb5))
                ((go_at_call 20; refine (HF.out _ (belowN (Below.refl _ _) _)).mono ?_; rintro e w5 ⟨rfl, hb5⟩))
              have hb6 := bdr hb5
              have ct5 := HCT.out _ hb6
              clear hb5
              go_wp2_with fail
              go_roundw
              case rel => exact ⟨q + 1, by omega, by go_num, by rw [HC1.out, hcs]; go_num, HBQ.out.then (by omega) hb6⟩
              case measure => simp [intOf]; omega
          · obtain rfl : q = n := by omega
            have HFR := Lib.hid (Free_any HH.out)
            rw [← HFQ.out] at HFR
            generalize cntF m.F q = C at HFR hcl hcs
            clear hcs
            go_wp2_with fail
            refine HFR.out.mono ?_
            rintro e _ ⟨rfl, rfl⟩
            go_wp2_with fail
            refine (HAL.out _ (btr HB1.out HBQ.out.bel (Nat.le_refl _))).mono ?_
            rintro e w5 ⟨rfl, hb5⟩
            go_wp2_with fail
            go_ret
            exact ⟨rfl, hb5⟩

end Go.Proofs.YtnmejilpifmlnaaDoor
