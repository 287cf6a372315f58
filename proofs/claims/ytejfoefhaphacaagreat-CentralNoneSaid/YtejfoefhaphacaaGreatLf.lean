/- New, on both sides. -/
import Derived.Test.YtejfoefhaphacaaGreatLe
import Derived.Deep.RegionHeld3
namespace Go.Proofs.YtejfoefhaphacaaGreat
open Go.RowKit

theorem madeCells_get (z : Array Value) (n j : Nat) (hj : j < n) : (madeCells z n)[j]? = some z[j % z.size]! := by simp [madeCells, hj]
/-- A span's own block, as it is laid. -/
def bL (r : Bool) (m : Mo) (A c : Nat) : Array Value := match r with
  | false => #[.int .i64 m.s, .int .i64 m.z, .int .i64 m.g, .int .i64 m.t, .slice (some ⟨A, 0, none⟩) m.n c]
  | true => #[.int .i64 m.z, .int .i64 m.g, .int .i64 m.t, .int .i64 m.s, .slice (some ⟨A, 0, none⟩) m.n c]
theorem bL_get (r : Bool) (m : Mo) (A c i : Nat) (hi : i < 5) : (bL r m A c)[i]? = some (bF r m A c i) := by
  have : i = 0 ∨ i = 1 ∨ i = 2 ∨ i = 3 ∨ i = 4 := by omega
  cases r <;> rcases this with rfl | rfl | rfl | rfl | rfl <;> rfl
theorem Cl.new {cs : Array Value} {t : TypeId} {n : Nat} {f : Nat → Value} (w : World) (ht : t ≠ 3) (hc : ∀ i, i < n → cs[i]? = some (f i)) : Cl (w.alloc (.cells cs t)) w.heap.size n f := by
  have h := World.alloc_heap_new w (.cells cs t)
  refine ⟨fun i hi => ?_, fun i _ => ?_, Nr.new w cs t ht⟩
  · unfold World.cell?
    rw [h]
    exact hc i hi
  · unfold World.frozen?
    rw [h]
    simp
theorem new_sp (r : Bool) (w W0 W : World) (m : Mo) (t1 t2 : TypeId) (h1 : t1 ≠ 3) (h2 : t2 ≠ 3) (hb : Below w.heap.size w W0) (hm : WF m) (hf : ∀ i, m.f i = false)
    (hW : W = (W0.alloc (.cells (madeCells #[aF r false] m.n) t1)).alloc (.cells (bL r m W0.heap.size m.n) t2)) :
    SpA r W (Nw w W) (W0.heap.size + 1) W0.heap.size m.n m ∧ Below w.heap.size w W := by
  have hs := hb.size
  have k1 : Cl (W0.alloc (.cells (madeCells #[aF r false] m.n) t1)) W0.heap.size m.n (fun i => aF r (m.f i)) := Cl.new W0 h1 fun i hi => by
    rw [madeCells_get _ _ _ hi, hf i]
    simp [Nat.mod_one]
  have b1 : Below w.heap.size w (W0.alloc (.cells (madeCells #[aF r false] m.n) t1)) := hb.alloc hs _
  have z1 : (W0.alloc (.cells (madeCells #[aF r false] m.n) t1)).heap.size = W0.heap.size + 1 := by simp
  generalize W0.alloc (.cells (madeCells #[aF r false] m.n) t1) = W1 at *
  have k2 : Cl (W1.alloc (.cells (bL r m W0.heap.size m.n) t2)) W1.heap.size 5 (bF r m W0.heap.size m.n) := Cl.new W1 h2 fun i hi => bL_get r m _ _ i hi
  have z2 : (W1.alloc (.cells (bL r m W0.heap.size m.n) t2)).heap.size = W0.heap.size + 2 := by simp [z1]
  rw [z1] at k2
  have b2 := b1.alloc b1.size (.cells (bL r m W0.heap.size m.n) t2)
  have k3 := k1.alloc (.cells (bL r m W0.heap.size m.n) t2)
  rw [← hW] at k2 z2 b2 k3
  exact ⟨⟨hm, k2, k3, ⟨by omega, by omega⟩, ⟨by omega, by omega⟩, by omega, fun k hk => hk.2, Nat.le_refl _⟩, b2⟩

theorem info72 : (Tryz.prog.info? 92).map (fun i => (i.zero, i.size, i.bytes)) = some (some (.int .u8 0), 1, 1) := by kernel_rfl
theorem info4 : (Tryz.prog.info? 4).map (fun i => (i.zero, i.size, i.bytes)) = some (some (.bool false), 1, 1) := by kernel_rfl

/-- What New leaves. -/
def NewP (r : Bool) (w : World) (om : Option Mo) (err : Int) (e : Ending) (w' : World) : Prop :=
  ∃ v, e = .returned (.tuple #[v, .int .i64 err]) ∧ Ob r w' (Nw w w') v om ∧ (om = none → v = .pointer none) ∧ Below w.heap.size w w'
theorem NewP.bad {r : Bool} {w w' : World} {err : Int} {e : Ending} (he : e = .returned (.tuple #[.pointer none, .int .i64 err])) (hb : Below w.heap.size w w') : NewP r w none err e w' :=
  ⟨_, he, ⟨.inl rfl, fun _ hk => hk.2⟩, fun _ => rfl, hb⟩

theorem fit_no {st : Int} {c : Cs} (h : okC c = true) (hn : ¬ fitB st c = true) : st < 0 ∨ ¬ st < 0 ∧ 1024 - c.p < st := by
  unfold fitB at hn
  rw [h, Bool.true_and, decide_eq_true_eq] at hn
  omega
theorem fit_get {st : Int} {c : Cs} (h : fitB st c = true) : okC c = true ∧ 0 ≤ st ∧ st ≤ 1024 - c.p := by
  unfold fitB at h
  rw [Bool.and_eq_true, decide_eq_true_eq] at h
  exact h

set_option maxRecDepth 100000 in
set_option maxHeartbeats 1000000 in
theorem New_any (st s p b : Int) (w : World) :
    Calls Tryz.prog 42 #[.int .i64 st, .agg #[.int .i64 s, .int .i64 p, .int .i64 b]] w (NewP false w (newO st ⟨s, p, b⟩) (newE st ⟨s, p, b⟩)) := by
  have HO := Lib.hid (SObjects_any s p b)
  unfold objsV errV at HO
  by_cases hok : okC ⟨s, p, b⟩ = true
  · rw [if_pos hok, if_pos hok] at HO
    obtain ⟨a1, a2, a3, a4, a5, a6, a7, a8⟩ := okC_bd hok
    dsimp only at a1 a2 a3 a4 a5 a6 a7 a8
    by_cases hf : fitB st ⟨s, p, b⟩ = true
    · have hE : newE st ⟨s, p, b⟩ = 0 := if_pos hf
      have hO : newO st ⟨s, p, b⟩ = some (newM st ⟨s, p, b⟩) := if_pos hf
      rw [hE, hO]
      have hwf := newM_wf hf
      obtain ⟨_, f1, f2⟩ := fit_get hf
      dsimp only at f2
      obtain ⟨S, rfl⟩ : ∃ S : Nat, st = (S : Int) := ⟨st.toNat, by omega⟩
      obtain ⟨Z, rfl⟩ : ∃ S : Nat, s = (S : Int) := ⟨s.toNat, by omega⟩
      obtain ⟨G, rfl⟩ : ∃ S : Nat, p = (S : Int) := ⟨p.toNat, by omega⟩
      obtain ⟨T, rfl⟩ : ∃ S : Nat, b = (S : Int) := ⟨b.toNat, by omega⟩
      have hn1 := hwf.n1
      have hn2 := hwf.n2
      have hme : newM (S : Int) ⟨Z, G, T⟩ = ⟨S, Z, G, T, G * 256 / Z, fun _ => false⟩ := rfl
      rw [hme] at hwf hn1 hn2 ⊢
      rw [show (G : Int) * 256 / Z = ((G * 256 / Z : Nat) : Int) from rfl] at HO
      dsimp only at hn1 hn2
      obtain ⟨n, hn⟩ : ∃ n, G * 256 / Z = n := ⟨_, rfl⟩
      rw [hn] at hn1 hn2 hwf HO ⊢
      obtain ⟨i, hi, hz0, hz1, hz2⟩ := info_parts info72
      have hmk := fun w => run_make (P := Tryz.prog) w 88 92 i (.int .u8 0) Tryz.underlying88 hi hz0 .i64 .i64 n n (by omega) (Int.le_refl _) (by rw [hz2]; omega) (by omega)
      rw [hz1] at hmk
      simp only [Int.toNat_natCast, Value.cells, Nat.mul_one] at hmk
      have HN := Lib.hid (fun W0 W hb hW => new_sp false w W0 W ⟨S, Z, G, T, n, fun _ => false⟩ 92 90 (by decide) (by decide) hb hwf (fun _ => rfl) hW)
      have d1 : decide ((S : Int) < 0) = false := decide_eq_false (by omega)
      have d2 : decide (1024 - (G : Int) < S) = false := decide_eq_false (by omega)
      obtain ⟨d3, d4⟩ := w64 (1024 - (G : Int)) (by omega)
      obtain ⟨W0, hW, hB0, hsz, x0, x1, x2⟩ := new3 w (.int .i64 Z) (.int .i64 G) (.int .i64 T) 23
      have HB0 := Lib.hid hB0
      have HX := Lib.hid (fun (w1 : World) (hb1 : Below W0.heap.size W0 w1) => And.intro ((hb1.cell (p := ⟨w.heap.size, 0, none⟩) (Nat.lt_of_succ_le hsz)).trans x0) (And.intro ((hb1.cell (p := ⟨w.heap.size, 1, none⟩) (Nat.lt_of_succ_le hsz)).trans x1) ((hb1.cell (p := ⟨w.heap.size, 2, none⟩) (Nat.lt_of_succ_le hsz)).trans x2)))
      clear hwf hme hE hO hf hok hi hz0 hz1 hz2 hn a1 a2 a3 a4 a5 a6 a7 a8 f1 f2 hB0 hsz
      go_enter Tryz.func42, Tryz.ntmps42
      go_wp2_with (go_at_call 19; refine (HO.out _).mono ?_; rintro e w1 ⟨rfl, hb1⟩; have HB1 := Lib.hid (HB0.out.trans (hb1.mono HB0.out.size)); obtain ⟨c0, c1, c2⟩ := HX.out w1 hb1; have q0 := fun o => (HX.out (w1.alloc o) (hb1.alloc hb1.size o)).1; have q1 := fun o => (HX.out (w1.alloc o) (hb1.alloc hb1.size o)).2.1; have q2 := fun o => (HX.out (w1.alloc o) (hb1.alloc hb1.size o)).2.2; clear hb1)
      go_region
      all_goals
        go_wp2
        go_ret2
        exact ⟨_, rfl, ⟨_, _, _, by simp, (HN.out _ _ (belowN HB1.out _) rfl).1⟩, (fun h => nomatch h), (HN.out _ _ (belowN HB1.out _) rfl).2⟩
    · have hE : newE st ⟨s, p, b⟩ = 1 := if_neg hf
      have hO : newO st ⟨s, p, b⟩ = none := if_neg hf
      rw [hE, hO]
      have hn := fit_no hok hf
      dsimp only at hn
      obtain ⟨W0, hW, hB0, hsz, x0, x1, x2⟩ := new3 w (.int .i64 s) (.int .i64 p) (.int .i64 b) 23
      have HB0 := Lib.hid hB0
      have HX := Lib.hid (fun (w1 : World) (hb1 : Below W0.heap.size W0 w1) => (hb1.cell (p := ⟨w.heap.size, 1, none⟩) (Nat.lt_of_succ_le hsz)).trans x1)
      obtain ⟨d3, d4⟩ := w64 (1024 - p) (by omega)
      clear hE hO hf hok a1 a2 a3 a6 a7 a8 hB0 hsz
      rcases hn with h1 | ⟨h1, h2⟩
      · go_enter Tryz.func42, Tryz.ntmps42
        go_wp2_with (go_at_call 19; refine (HO.out _).mono ?_; rintro e w1 ⟨rfl, hb1⟩; have HB1 := Lib.hid (HB0.out.trans (hb1.mono HB0.out.size)); have c1 := HX.out w1 hb1; clear hb1)
        go_ret2
        exact NewP.bad rfl HB1.out
      · go_enter Tryz.func42, Tryz.ntmps42
        go_wp2_with (go_at_call 19; refine (HO.out _).mono ?_; rintro e w1 ⟨rfl, hb1⟩; have HB1 := Lib.hid (HB0.out.trans (hb1.mono HB0.out.size)); have c1 := HX.out w1 hb1; clear hb1)
        go_ret2
        exact NewP.bad rfl HB1.out
  · rw [if_neg hok, if_neg hok] at HO
    have hf : ¬ fitB st ⟨s, p, b⟩ = true := fun h => hok (fit_get h).1
    have hE : newE st ⟨s, p, b⟩ = 1 := if_neg hf
    have hO : newO st ⟨s, p, b⟩ = none := if_neg hf
    rw [hE, hO]
    clear hE hO hf hok
    go_enter Tryz.func42, Tryz.ntmps42
    go_wp2_with (go_at_call 19; refine (HO.out _).mono ?_; rintro e w1 ⟨rfl, hb1⟩; have HB1 := Lib.hid ((bnew w _).trans (hb1.mono (bnew w _).size)); clear hb1)
    go_ret2
    exact NewP.bad rfl HB1.out

end Go.Proofs.YtejfoefhaphacaaGreat
