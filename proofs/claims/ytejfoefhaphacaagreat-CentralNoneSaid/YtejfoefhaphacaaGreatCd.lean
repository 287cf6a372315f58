/- slices.Insert of one span: a new row; all roads. -/
import Derived.Test.YtejfoefhaphacaaGreatCc
namespace Go.Proofs.YtejfoefhaphacaaGreat
open Go.RowKit Go.Shelf Go.Lib

set_option maxRecDepth 100000 in
set_option maxHeartbeats 4000000 in
theorem Insert_grow {w : World} (g n cap i vb m : Nat) (hm : m = 1) (cur : List Value) (xs : List Value) (x : Option Addr) (hg : w.heap[g]? = some (.cells cur.toArray 63 (0, 0))) (hxs : cur.take n = xs) (h1 : ∀ u ∈ xs, u.oneCell' = true) (hl : xs.length = n)
    (hi : i < n) (hnc : n ≤ cap) (hroom : cap < n + m) (hn : n ≤ 1024) (hv : w.heap[vb]? = some (.cells #[.pointer x] 63 (0, 0))) :
    Calls Tryz.prog 45 #[.slice (some ⟨g, 0, none⟩) n cap, .int .i64 i, .slice (some ⟨vb, 0, none⟩) m m] w fun e w' => ∃ G, e = .returned (.slice (some ⟨w.heap.size, 0, none⟩) (n + m) G) ∧ n + 1 ≤ G ∧ G ≤ maxLen ∧ w.grownBy w' none ∧
      ∃ L : List Value, w'.heap[w.heap.size]? = some (.cells L.toArray 63 (0, 0)) ∧ L.length = G ∧ L.take (n + 1) = xs.take i ++ .pointer x :: xs.drop i := by
  obtain ⟨i0, hi0, hz0, hzs, hzb⟩ := info_parts infoPS
  have hcx : ∀ j v, xs[j]? = some v → w.cell? ⟨g, j, none⟩ = some v := fun j v hj => by
    rw [cell_of_cells hg]
    rw [← hxs, List.getElem?_take] at hj
    split at hj
    · simpa using hj
    · cases hj
  have hgw : g < w.heap.size := (Array.getElem?_eq_some_iff.1 hg).1
  have hvw : vb < w.heap.size := (Array.getElem?_eq_some_iff.1 hv).1
  have hdl : (xs.drop i).length = n - i := by rw [List.length_drop, hl]
  have hik : i + (n + m - i) = n + m := by omega
  have hkk : (n : Int) + (m : Int) - (i : Int) = ((n + m - i : Nat) : Int) := by omega
  have hold : (Builtin.firstCells i0.size i (.slice (some ⟨g, 0, none⟩) i cap)).run Tryz.prog w.drew = .ok (xs.take i).toArray w.drew := by
    rw [hzs]
    exact run_firstCells_some w.drew 1 i ⟨g, 0, none⟩ i cap (xs.take i) (by rw [List.length_take]; omega) (fun j v hj => by
      rw [Addr.add_lit, Nat.zero_add]
      rw [List.getElem?_take] at hj
      split at hj
      · exact hcx j v hj
      · cases hj)
  obtain ⟨G, hG⟩ : ∃ G, G = grownCap w (n + m) cap 63 := ⟨_, rfl⟩
  obtain ⟨R, hR⟩ : ∃ R : List Value, R = xs.take i ++ (Builtin.zeroCells (Value.pointer none).cells (n + m - i)).toList ++ (Builtin.zeroCells (Value.pointer none).cells (G - (n + m))).toList := ⟨_, rfl⟩
  have hGn : n + m ≤ G := by rw [hG]; exact grownCap_ge w _ _ _
  have hG63 : G ≤ maxLen := by rw [hG]; exact grownCap_le_maxLen w _ _ _ (by unfold maxLen; omega)
  have hRl : R.length = G := by rw [hR]; simp [Builtin.zeroCells, Value.cells]; omega
  have hRt : R.take i = xs.take i := by
    rw [hR, List.append_assoc, List.take_append_of_le_length (by rw [List.length_take]; omega), List.take_take, Nat.min_self]
  have hrz : ∀ ty, (Builtin.append_ #[42, 3] ty #[.slice (some ⟨g, 0, none⟩) i cap, .int .i64 ((n : Int) + (m : Int) - (i : Int))]).run Tryz.prog w = .ok (.slice (some ⟨w.heap.size, 0, none⟩) (n + m) G) (w.drew.alloc (.cells R.toArray 63)) := fun ty => by
    have h := Lib.run_append_grow_zeros w 42 3 ty 63 i0 _ .i64 .i64 undSpans Tryz.underlying3 hi0 hz0 (some ⟨g, 0, none⟩) i cap (xs.take i) hold (n + m - i) (by omega) (by omega) (by omega) (by omega) (by rw [hzb]; omega) (by rw [hzb, hik]; exact growslice_fits hroom (by omega))
    rw [hik, ← hG] at h
    have hRa : R.toArray = (xs.take i).toArray ++ Builtin.zeroCells (Value.pointer none).cells (n + m - i) ++ Builtin.zeroCells (Value.pointer none).cells (G - (n + m)) := by
      apply Array.ext'
      rw [hR]
      simp [List.append_assoc]
    rw [hkk, hRa]
    exact h
  obtain ⟨W1, hW1⟩ : ∃ W1, W1 = w.drew.alloc (.cells R.toArray 63) := ⟨_, rfl⟩
  have hN : W1.heap[w.heap.size]? = some (.cells R.toArray 63 (0, 0)) := by rw [hW1]; exact World.alloc_heap_new w.drew _
  have hOld : ∀ k, k < w.heap.size → W1.heap[k]? = w.heap[k]? := fun k hk => by rw [hW1]; exact Below.heap_alloc w.drew _ k hk
  have hsz1 : W1.heap.size = w.heap.size + 1 := by rw [hW1]; simp
  obtain ⟨C1, hC1⟩ : ∃ C1, C1 = R.take i ++ [.pointer x] ++ R.drop (i + 1) := ⟨_, rfl⟩
  have hC1l : C1.length = G := by rw [hC1]; simp; omega
  have hcpA : ∀ W : World, W.heap = W1.heap → ∀ ty dc, (Builtin.copy_ #[42, 42] ty #[.slice (some ⟨w.heap.size, i, none⟩) (n + m - i) dc, .slice (some ⟨vb, 0, none⟩) m m]).run Tryz.prog W = .ok (goInt 1) (W.setRow w.heap.size C1.toArray) := fun W hW ty dc => by
    have := run_copy_row (P := Tryz.prog) W 42 42 ty 63 w.heap.size i (n + m - i) dc ⟨vb, 0, none⟩ m m R.toArray 63 [.pointer x] undSpans szPS (by rw [hW]; exact hN) (by simp only [Nat.min_def, List.length_singleton]; split <;> omega)
      (fun j v hj => by
        have hvb : W.heap[vb]? = some (.cells #[.pointer x] 63 (0, 0)) := by rw [hW, hOld vb hvw]; exact hv
        rw [Addr.add_lit, cell_of_cells hvb]; simpa using hj) (by simp; omega) (fun v hv => by rw [List.mem_singleton] at hv; subst hv; rfl)
    rw [this, hC1]; rfl
  obtain ⟨C2, hC2⟩ : ∃ C2, C2 = C1.take (i + m) ++ xs.drop i ++ C1.drop (i + m + (xs.drop i).length) := ⟨_, rfl⟩
  have hC2l : C2.length = G := by rw [hC2]; simp; omega
  have hcpB : ∀ W : World, W.heap = (W1.setRow w.heap.size C1.toArray).heap → ∀ ty dc sc, (Builtin.copy_ #[42, 42] ty #[.slice (some ⟨w.heap.size, i + m, none⟩) (n + m - (i + m)) dc, .slice (some ⟨g, i, none⟩) (n - i) sc]).run Tryz.prog W = .ok (goInt (xs.drop i).length) (W.setRow w.heap.size C2.toArray) := fun W hW ty dc sc => by
    have hN1 : W.heap[w.heap.size]? = some (.cells C1.toArray 63 (0, 0)) := by rw [hW]; exact setRow_heap W1 _ _ _ _ _ hN
    have hgW : W.heap[g]? = some (.cells cur.toArray 63 (0, 0)) := by rw [hW, setRow_other _ _ _ _ (by omega), hOld g hgw]; exact hg
    have := run_copy_row (P := Tryz.prog) W 42 42 ty 63 w.heap.size (i + m) (n + m - (i + m)) dc ⟨g, i, none⟩ (n - i) sc C1.toArray 63 (xs.drop i) undSpans szPS hN1 (by rw [hdl]; simp only [Nat.min_def]; split <;> omega)
      (fun j v hj => by
        rw [List.getElem?_drop] at hj
        have := hcx _ _ hj
        rw [cell_of_cells hg] at this
        rw [Addr.add_lit, cell_of_cells hgW]; exact this) (by simp; omega) (fun v hv => h1 v (List.mem_of_mem_drop hv))
    rw [this, hC2]
  have HF := Lib.hid (show C2.take (n + 1) = xs.take i ++ .pointer x :: xs.drop i by rw [hC2, hC1, hm]; exact grow_list hRt hl hi (by omega))
  have HG := Lib.hid (fun (W : World) (hW : W.heap = (W1.setRow w.heap.size C1.toArray).heap) (ho : W.os = w.os) (ht : W.tape = w.tape) (hu : W.output = w.output) => show w.grownBy (W.setRow w.heap.size C2.toArray) none ∧ (W.setRow w.heap.size C2.toArray).heap[w.heap.size]? = some (.cells C2.toArray 63 (0, 0)) from
    ⟨⟨ho, ht, hu, by rw [setRow_size, hW, setRow_size, hsz1]; omega, fun k hk _ => by
      rw [setRow_other _ _ _ _ (by omega), hW, setRow_other _ _ _ _ (by omega), hOld k hk]⟩, setRow_heap _ _ _ _ _ _ (by rw [hW]; exact setRow_heap W1 _ _ _ _ _ hN)⟩)
  have HL := Lib.hid hC2l
  have HGN := Lib.hid (And.intro hGn hG63)
  have HM := Lib.hid hm
  have hG9 : G ≤ 9223372036854775807 := by unfold maxLen at hG63; omega
  have hz1 : ¬ ((m : Int) = 0) := by omega
  have hz2 : ¬ ((i : Int) = (n : Int)) := by omega
  have hz3 : (cap : Int) < (n : Int) + (m : Int) := by omega
  obtain ⟨hw3, hw4⟩ := w64 ((n : Int) + (m : Int) - (i : Int)) (by omega)
  have hw1 : IntKind.i64.wrap ((i : Int) + (m : Int)) = (i : Int) + (m : Int) := IntWalk.i64_in _ (by omega)
  have hw2 : IntKind.i64.wrap ((n : Int) + (m : Int)) = (n : Int) + (m : Int) := IntWalk.i64_in _ (by omega)
  have hb1 : (0 : Int) ≤ (i : Int) + (m : Int) := by omega
  have hin : i ≤ n := by omega
  have htn : ((i : Int) + (m : Int)).toNat = i + m := by omega
  have hb3 : (i : Int) ≤ (n : Int) := by omega
  have hci : ¬ (cap = i) := by omega
  have hGi : ¬ (G = i) := by omega
  have hGim : ¬ (G = i + m) := by omega
  have hE1 : ((w.alloc (.cells R.toArray 63)).drew).heap = W1.heap := by rw [hW1]; rfl
  have hF1 : (((w.alloc (.cells R.toArray 63)).drew.setRow w.heap.size C1.toArray).drew).heap = (W1.setRow w.heap.size C1.toArray).heap := by rw [hW1]; rfl
  have HF1 := Lib.hid hF1
  have hcA := hcpA _ hE1
  have hcB := hcpB _ hF1
  clear hg hxs h1 hl hv hcx hdl hC1 hC1l hC2 hC2l hm hold hG hR hGn hG63 hRl hRt hik hkk hN hOld hsz1 hgw hvw hW1 hi0 hz0 hzs hzb hE1 hF1 hcpA hcpB
  go_enter Tryz.func45, Tryz.ntmps45
  go_wp2_with (first
    | (at_builtin; refine Lib.wpList_append_run _ rfl _ _ _ _ rfl _ _ rfl rfl _ _ (hrz _) ?_)
    | (at_builtin; refine Lib.wpList_copy_run _ rfl _ _ 42 42 rfl _ _ rfl rfl (hcA _ _) ?_))
  go_region_law (refine step_copy_at rfl _ _ 42 42 rfl (.slice (some ⟨w.heap.size, i + m, none⟩) (n + m - (i + m)) (G - (i + m))) (.slice (some ⟨g, i, none⟩) (n - i) (cap - i)) (by simp [Act.eval, Act.put]) (by simp [Act.eval, Act.put]) (hcB 3 (G - (i + m)) (cap - i)) ?_)
  go_wp2
  go_ret
  exact ⟨G, rfl, by have := HGN.out.1; have := HM.out; omega, HGN.out.2, (HG.out _ HF1.out rfl rfl rfl).1, C2, (HG.out _ HF1.out rfl rfl rfl).2, HL.out, HF.out⟩

set_option maxRecDepth 100000 in
set_option maxHeartbeats 2000000 in
theorem Insert_end {base : Nat} {w : World} {A : Option Addr} {n cap : Nat} {xs : List Value} (hown : w.ownsRow base 63 1 (.slice A n cap) n xs) (hn : n ≤ 1024) (vb : Nat) (x : Option Addr) (hv : w.heap[vb]? = some (.cells #[.pointer x] 63 (0, 0))) (hbase : base ≤ w.heap.size) :
    Calls Tryz.prog 45 #[.slice A n cap, .int .i64 n, .slice (some ⟨vb, 0, none⟩) 1 1] w fun e w' => ∃ v', e = .returned v' ∧ w'.ownsRow base 63 1 v' (n + 1) (xs ++ [.pointer x]) ∧ w.grownBy w' (Value.slice A n cap).ownBlock ∧ (v'.ownBlock = (Value.slice A n cap).ownBlock ∨ v'.ownBlock = some w.heap.size) := by
  obtain ⟨i0, hi0, hz0, hzs, hzb⟩ := info_parts infoPS
  have hnews : ∀ j u, [Value.pointer x][j]? = some u → w.cell? ((⟨vb, 0, none⟩ : Addr).add j) = some u := fun j u hj => by rw [Addr.add_lit, cell_of_cells hv]; simpa using hj
  have hcap : n ≤ cap := by
    rcases hown.2 with ⟨h, h2⟩ | ⟨_, _, _, h, _, _, h3, _⟩
    · cases h; omega
    · cases h; exact h3
  have HO := Lib.hid hown
  clear hown
  rcases A with _ | ⟨g, o, s⟩
  · have h0 : n = 0 ∧ cap = 0 := by
      rcases HO.out.2 with ⟨h, h2⟩ | ⟨_, _, _, h, _⟩
      · cases h; exact ⟨rfl, rfl⟩
      · cases h
    obtain ⟨rfl, rfl⟩ := h0
    go_enter Tryz.func45, Tryz.ntmps45
    go_wp2_with (at_builtin; refine wpList_append_own_at _ rfl _ _ 42 rfl base 63 i0 (.pointer none) 1 8 undSpans hi0 hz0 hzs hzb rfl (by decide) _ _ _ rfl HO.out ⟨vb, 0, none⟩ 1 1 [.pointer x] rfl rfl hnews (by simp [Value.oneCell']) (by unfold maxLen; omega) (by omega) hbase ?_; intro v' w1 hown' hgrow _ hat; have HO1 := Lib.hid (And.intro hown' (And.intro hgrow hat)); clear hown' hgrow hat)
    go_ret
    exact ⟨_, rfl, HO1.out.1, HO1.out.2.1, HO1.out.2.2⟩
  · obtain ⟨rfl, rfl⟩ : o = 0 ∧ s = none := by
      rcases HO.out.2 with ⟨h, h2⟩ | ⟨_, _, _, h, _⟩
      · cases h
      · cases h; exact ⟨rfl, rfl⟩
    by_cases hc : cap = n
    · subst hc
      go_enter Tryz.func45, Tryz.ntmps45
      go_wp2_with (at_builtin; refine wpList_append_own_at _ rfl _ _ 42 rfl base 63 i0 (.pointer none) 1 8 undSpans hi0 hz0 hzs hzb rfl (by decide) _ _ _ rfl HO.out ⟨vb, 0, none⟩ 1 1 [.pointer x] rfl rfl hnews (by simp [Value.oneCell']) (by unfold maxLen; omega) (by omega) hbase ?_; intro v' w1 hown' hgrow _ hat; have HO1 := Lib.hid (And.intro hown' (And.intro hgrow hat)); clear hown' hgrow hat)
      go_ret
      exact ⟨_, rfl, HO1.out.1, HO1.out.2.1, HO1.out.2.2⟩
    · go_enter Tryz.func45, Tryz.ntmps45
      go_wp2_with (at_builtin; refine wpList_append_own_at _ rfl _ _ 42 rfl base 63 i0 (.pointer none) 1 8 undSpans hi0 hz0 hzs hzb rfl (by decide) _ _ _ rfl HO.out ⟨vb, 0, none⟩ 1 1 [.pointer x] rfl rfl hnews (by simp [Value.oneCell']) (by unfold maxLen; omega) (by omega) hbase ?_; intro v' w1 hown' hgrow _ hat; have HO1 := Lib.hid (And.intro hown' (And.intro hgrow hat)); clear hown' hgrow hat)
      go_ret
      exact ⟨_, rfl, HO1.out.1, HO1.out.2.1, HO1.out.2.2⟩

theorem Insert_any {base : Nat} {w : World} {A : Option Addr} {n cap : Nat} {xs : List Value} (hown : w.ownsRow base 63 1 (.slice A n cap) n xs) (h1 : ∀ u ∈ xs, u.oneCell' = true) (i : Nat) (hi : i ≤ n) (hn : n ≤ 1024) (vb : Nat) (x : Option Addr) (hv : w.heap[vb]? = some (.cells #[.pointer x] 63 (0, 0)))
    (hne : (Value.slice A n cap).ownBlock ≠ some vb) (hbase : base ≤ w.heap.size) :
    Calls Tryz.prog 45 #[.slice A n cap, .int .i64 i, .slice (some ⟨vb, 0, none⟩) 1 1] w fun e w' => ∃ v', e = .returned v' ∧ w'.ownsRow base 63 1 v' (n + 1) (xs.take i ++ .pointer x :: xs.drop i) ∧ w.grownBy w' (Value.slice A n cap).ownBlock ∧ (v'.ownBlock = (Value.slice A n cap).ownBlock ∨ v'.ownBlock = some w.heap.size) := by
  have hl : xs.length = n := by rw [hown.1, Nat.mul_one]
  rcases Nat.lt_or_eq_of_le hi with hlt | rfl
  · rcases hown.2 with ⟨h, h2⟩ | ⟨g, cp, cur, h, hb, hg, hnc, hcm, hcs, ht⟩
    · omega
    · cases h
      rw [Nat.mul_one] at hcs ht
      have hg' : w.heap[g]? = some (.cells cur.toList.toArray 63 (0, 0)) := hg
      have hlen : (xs.take i ++ Value.pointer x :: xs.drop i).length = (n + 1) * 1 := by simp; omega
      by_cases hroom : n + 1 ≤ cap
      · refine (Insert_shift g n cap i vb 1 rfl cur.toList xs x hg' (by simpa using hcs) ht h1 hl hlt hroom (by unfold maxLen at hcm; omega) hv (fun e => hne (by rw [e]; rfl))).mono fun e w' hp => ?_
        obtain ⟨he, hgr, L, hL, hLl, hLt⟩ := hp
        exact ⟨_, he, ⟨hlen, .inr ⟨g, cap, L.toArray, rfl, hb, hL, by omega, hcm, by simpa using hLl, by simpa using hLt⟩⟩, hgr, .inl rfl⟩
      · refine (Insert_grow g n cap i vb 1 rfl cur.toList xs x hg' ht h1 hl hlt hnc (by omega) hn hv).mono fun e w' hp => ?_
        obtain ⟨G, he, hG1, hG2, hgr, L, hL, hLl, hLt⟩ := hp
        exact ⟨_, he, ⟨hlen, .inr ⟨_, G, L.toArray, rfl, hbase, hL, hG1, hG2, by simpa using hLl, by simpa using hLt⟩⟩, ⟨hgr.os, hgr.tape, hgr.output, hgr.size, fun k hk _ => hgr.block k hk (by simp)⟩, .inr rfl⟩
  · rw [List.take_of_length_le (by omega), List.drop_of_length_le (by omega)]
    exact Insert_end hown hn vb x hv hbase

end Go.Proofs.YtejfoefhaphacaaGreat
