/- slices.Insert of one span. -/
import Derived.Test.YtejfoefhaphacaaGreatCb
import Derived.Laws.CopyOwn
import Derived.Lib.SlBuf
import Derived.Lib.AppendZerosOnto
import Derived.Lib.Overlaps
import Derived.Lib.JoinLaws
namespace Go.Proofs.YtejfoefhaphacaaGreat
open Go.RowKit Go.Shelf Go.Lib

theorem step_copy_at {P : Program} {ops : Array Oper} {o : Oper} {a : Act} {w : World} {K : Act → World → Prop} {Q : Exit → Act → World → Prop} {E : Prop} (hg : o.guard = none) (d x : Operand) (dT sT : TypeId)
    (hop : o.op = Op.call { callee := Callee.builtin Builtin.copy, args := #[d, x], argTypes := #[dT, sT] }) (v u : Value) (hd : a.eval d = v) (hx : a.eval x = u) {v' : Value} {w' : World}
    (hr : (Builtin.copy_ #[dT, sT] o.type #[v, u]).run P w = .ok v' w') (hK : K (a.put o.dst v') w') : if Region.wanted o (yielded ops a.tmps) = true then Oper.wp P o a w K Q else E := by
  rw [if_pos (show Region.wanted o (yielded ops a.tmps) = true by simp [Region.wanted, hg])]
  unfold Oper.wp
  simp [execOp, hop, resolve, invoke, builtin, hd, hx, hr, Result.andThen]
  exact hK

theorem infoPS : (Tryz.prog.info? 63).map (fun i => (i.zero, i.size, i.bytes)) = some (some (.pointer none), 1, 8) := by kernel_rfl
theorem undSpans : Tryz.prog.underlying 42 = some (.slice 63) := by kernel_rfl
theorem szPS : (Tryz.prog.info? 63).map (·.size) = some 1 := by kernel_rfl

theorem cell_of_cells {w : World} {g : Nat} {cur : Array Value} {t : TypeId} (hg : w.heap[g]? = some (.cells cur t (0, 0))) (j : Nat) : w.cell? ⟨g, j, none⟩ = cur[j]? := by simp [World.cell?, hg]
theorem shift_list {cur xs : List Value} {x : Value} {n i : Nat} (hxs : cur.take n = xs) (hl : xs.length = n) (hi : i < n) (hr : n + 1 ≤ cur.length) :
    (((cur.take (i + 1) ++ xs.drop i ++ cur.drop (i + 1 + (xs.drop i).length)).take i ++ [x] ++ (cur.take (i + 1) ++ xs.drop i ++ cur.drop (i + 1 + (xs.drop i).length)).drop (i + 1)).take (n + 1)) = xs.take i ++ x :: xs.drop i := by
  have h1 : (cur.take (i + 1) ++ xs.drop i ++ cur.drop (i + 1 + (xs.drop i).length)).take i = xs.take i := by
    rw [List.append_assoc, List.take_append_of_le_length (by rw [List.length_take]; omega), List.take_take, ← hxs, List.take_take]
    congr 1
    omega
  have h2 : (cur.take (i + 1) ++ xs.drop i ++ cur.drop (i + 1 + (xs.drop i).length)).drop (i + 1) = xs.drop i ++ cur.drop (i + 1 + (xs.drop i).length) := by
    rw [List.append_assoc, List.drop_append_of_le_length (by rw [List.length_take]; omega), List.drop_of_length_le (by rw [List.length_take]; omega)]
    rfl
  rw [h1, h2, ← List.append_assoc, List.take_left' (by simp; omega)]
  simp
theorem grow_list {R xs : List Value} {x : Value} {n i : Nat} (hR : R.take i = xs.take i) (hl : xs.length = n) (hi : i < n) (hr : n + 1 ≤ R.length) :
    (((R.take i ++ [x] ++ R.drop (i + 1)).take (i + 1) ++ xs.drop i ++ (R.take i ++ [x] ++ R.drop (i + 1)).drop (i + 1 + (xs.drop i).length)).take (n + 1)) = xs.take i ++ x :: xs.drop i := by
  have h1 : (R.take i ++ [x] ++ R.drop (i + 1)).take (i + 1) = xs.take i ++ [x] := by
    rw [List.take_left' (by simp; omega), hR]
  rw [h1, List.take_left' (by simp; omega)]
  simp

set_option maxRecDepth 100000 in
set_option maxHeartbeats 4000000 in
theorem Insert_shift {w : World} (g n cap i vb m : Nat) (hm : m = 1) (cur : List Value) (xs : List Value) (x : Option Addr) (hg : w.heap[g]? = some (.cells cur.toArray 63 (0, 0))) (hcap : cur.length = cap) (hxs : cur.take n = xs) (h1 : ∀ u ∈ xs, u.oneCell' = true) (hl : xs.length = n)
    (hi : i < n) (hroom : n + m ≤ cap) (hc63 : cap ≤ 9223372036854775807) (hv : w.heap[vb]? = some (.cells #[.pointer x] 63 (0, 0))) (hne : vb ≠ g) :
    Calls Tryz.prog 45 #[.slice (some ⟨g, 0, none⟩) n cap, .int .i64 i, .slice (some ⟨vb, 0, none⟩) m m] w fun e w' => e = .returned (.slice (some ⟨g, 0, none⟩) (n + m) cap) ∧ w.grownBy w' (some g) ∧
      ∃ L : List Value, w'.heap[g]? = some (.cells L.toArray 63 (0, 0)) ∧ L.length = cap ∧ L.take (n + 1) = xs.take i ++ .pointer x :: xs.drop i := by
  have hcx : ∀ j v, xs[j]? = some v → cur[j]? = some v := fun j v hj => by
    rw [← hxs, List.getElem?_take] at hj
    split at hj
    · exact hj
    · cases hj
  have hdl : (xs.drop i).length = n - i := by rw [List.length_drop, hl]
  obtain ⟨C1, hC1⟩ : ∃ C1, C1 = cur.take (i + m) ++ xs.drop i ++ cur.drop (i + m + (xs.drop i).length) := ⟨_, rfl⟩
  have hC1l : C1.length = cap := by rw [hC1]; simp; omega
  have hov : ∀ lb cb, (callFunc 78 #[.slice (some ⟨vb, 0, none⟩) m m, .slice (some ⟨g, i + m, none⟩) lb cb]).run Tryz.prog w = .ok (.value (.bool false)) w := fun lb cb => by
    rw [run_callFunc_extern Tryz.func78 (by kernel_rfl) (by kernel_rfl) (by kernel_rfl) (e := Extern.SlicesOverlaps.overlaps #[42, 42] #[4]) (by kernel_rfl),
      Lib.run_overlaps_apart w 42 4 63 undSpans 1 Tryz.sizeOf63 ⟨vb, 0, none⟩ ⟨g, i + m, none⟩ m m lb cb hne 63 63 1 cap (by simp [World.shape?, hv]) (by simp [World.shape?, hg, hcap]) (by omega) (by simp [World.frozen?, hv]) (by simp [World.frozen?, hv])]
    rfl
  have hcp1 : ∀ ty dc sc, (Builtin.copy_ #[42, 42] ty #[.slice (some ⟨g, i + m, none⟩) (n + m - (i + m)) dc, .slice (some ⟨g, i, none⟩) (n + m - i) sc]).run Tryz.prog w.drew = .ok (goInt (xs.drop i).length) (w.drew.setRow g C1.toArray) := fun ty dc sc => by
    have := run_copy_row (P := Tryz.prog) w.drew 42 42 ty 63 g (i + m) (n + m - (i + m)) dc ⟨g, i, none⟩ (n + m - i) sc cur.toArray 63 (xs.drop i) undSpans szPS hg (by rw [hdl]; simp only [Nat.min_def]; split <;> omega)
      (fun j v hj => by rw [List.getElem?_drop] at hj; rw [Addr.add_lit]; show w.cell? ⟨g, i + j, none⟩ = some v; rw [cell_of_cells hg]; simpa using hcx _ _ hj) (by simp; omega) (fun v hv => h1 v (List.mem_of_mem_drop hv))
    rw [this, hC1]
  have hg1 : (w.drew.setRow g C1.toArray).heap[g]? = some (.cells C1.toArray 63 (0, 0)) := setRow_heap w.drew g _ _ _ _ hg
  have hv1 : (w.drew.setRow g C1.toArray).heap[vb]? = some (.cells #[.pointer x] 63 (0, 0)) := (setRow_other w.drew g vb _ hne).trans hv
  obtain ⟨C2, hC2⟩ : ∃ C2, C2 = C1.take i ++ [.pointer x] ++ C1.drop (i + 1) := ⟨_, rfl⟩
  have hC2l : C2.length = cap := by rw [hC2]; simp; omega
  have hcp2 : ∀ W : World, W.heap = (w.drew.setRow g C1.toArray).heap → ∀ ty dc, (Builtin.copy_ #[42, 42] ty #[.slice (some ⟨g, i, none⟩) (n + m - i) dc, .slice (some ⟨vb, 0, none⟩) m m]).run Tryz.prog W = .ok (goInt 1) (W.setRow g C2.toArray) := fun W hW ty dc => by
    have := run_copy_row (P := Tryz.prog) W 42 42 ty 63 g i (n + m - i) dc ⟨vb, 0, none⟩ m m C1.toArray 63 [.pointer x] undSpans szPS (by rw [hW]; exact hg1) (by simp only [Nat.min_def, List.length_singleton]; split <;> omega)
      (fun j v hj => by
        have : (w.drew.setRow g C1.toArray).cell? ⟨vb, 0 + j, none⟩ = some v := by rw [cell_of_cells hv1]; simpa using hj
        rw [Addr.add_lit, ← this]; simp [World.cell?, hW]) (by simp; omega) (fun v hv => by rw [List.mem_singleton] at hv; subst hv; rfl)
    rw [this, hC2]; rfl
  have HF := Lib.hid (show C2.take (n + 1) = xs.take i ++ .pointer x :: xs.drop i by rw [hC2, hC1, hm]; exact shift_list hxs hl hi (by omega))
  have HG := Lib.hid (fun (W : World) (hW : W.heap = (w.drew.setRow g C1.toArray).heap) (ho : W.os = w.os) (ht : W.tape = w.tape) (hu : W.output = w.output) => show w.grownBy (W.setRow g C2.toArray) (some g) ∧ (W.setRow g C2.toArray).heap[g]? = some (.cells C2.toArray 63 (0, 0)) from
    ⟨⟨ho, ht, hu, by rw [setRow_size, hW, setRow_size]; exact Nat.le_refl _, fun k _ hk => by
      have hk' : k ≠ g := fun e => hk (by rw [e])
      rw [setRow_other _ _ _ _ hk', hW, setRow_other _ _ _ _ hk']; rfl⟩, setRow_heap _ g _ _ _ _ (by rw [hW]; exact hg1)⟩)
  have HL := Lib.hid hC2l
  have hz1 : ¬ ((m : Int) = 0) := by omega
  have hz2 : ¬ ((i : Int) = (n : Int)) := by omega
  have hz3 : ¬ ((cap : Int) < (n : Int) + (m : Int)) := by omega
  have hw1 : IntKind.i64.wrap ((i : Int) + (m : Int)) = (i : Int) + (m : Int) := IntWalk.i64_in _ (by omega)
  have hw2 : IntKind.i64.wrap ((n : Int) + (m : Int)) = (n : Int) + (m : Int) := IntWalk.i64_in _ (by omega)
  have hb1 : (0 : Int) ≤ (i : Int) + (m : Int) := by omega
  have hin : i ≤ n := by omega
  have htn : ((i : Int) + (m : Int)).toNat = i + m := by omega
  have hb2 : ¬ (cap = i + m) := by omega
  have hb3 : (i : Int) ≤ (n : Int) + (m : Int) := by omega
  have hb4 : ¬ (cap = i) := by omega
  clear hg hcap hxs h1 hl hv hne hcx hdl hC1 hC1l hg1 hv1 hC2 hC2l hm
  go_enter Tryz.func45, Tryz.ntmps45
  go_wp2_with (simp only [hov])
  go_region_law (refine step_copy_at rfl _ _ 42 42 rfl _ _ (by simp [Act.eval, Act.put]) (by simp [Act.eval, Act.put]) (hcp1 _ _ _) ?_)
  go_wp2_with (at_builtin; refine Lib.wpList_copy_run _ rfl _ _ 42 42 rfl _ _ rfl rfl (hcp2 _ rfl _ _) ?_)
  go_ret
  exact ⟨rfl, (HG.out _ rfl rfl rfl rfl).1, C2, (HG.out _ rfl rfl rfl rfl).2, HL.out, HF.out⟩

end Go.Proofs.YtejfoefhaphacaaGreat
