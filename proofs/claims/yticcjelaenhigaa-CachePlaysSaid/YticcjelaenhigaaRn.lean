/- The document's cache: New. -/
import Derived.Test.YticcjelaenhigaaRq
namespace Go.Proofs.Yticcjelaenhigaa
open Go.RowKit Go.Lib

/-- What New has made: the classes' block, the lists', the limits', the lows', its header. -/
structure NewF (w W : World) (tl : List Cs) (ML MI : Array Value) (t l i j B n cap g : Nat) : Prop where
  hB : W.heap[B]? = some (.cells #[.slice (some ⟨t, 0, none⟩) n cap, .int .i64 g, .slice (some ⟨l, 0, none⟩) n n, .slice (some ⟨i, 0, none⟩) n n, .slice (some ⟨j, 0, none⟩) n n] 74 (0, 0))
  bel : Below w.heap.size w W
  row : W.ownsRow w.heap.size 56 3 (.slice (some ⟨t, 0, none⟩) n cap) n (tabC tl)
  hl : W.heap[l]? = some (.cells ML 33 (0, 0))
  hi : W.heap[i]? = some (.cells MI 3 (0, 0))
  hj : W.heap[j]? = some (.cells MI 3 (0, 0))
  lo : w.heap.size ≤ t ∧ w.heap.size ≤ l ∧ w.heap.size ≤ i ∧ w.heap.size ≤ j ∧ w.heap.size ≤ B
  ne : t ≠ B ∧ l ≠ B ∧ i ≠ B ∧ j ≠ B ∧ t ≠ l ∧ t ≠ i ∧ t ≠ j ∧ l ≠ i ∧ l ≠ j ∧ i ≠ j
def QN (w : World) (tl : List Cs) (ML MI : Array Value) (A : Option Addr) (n c g : Nat) (e : Exit) (a : Act) (W : World) : Prop :=
  e = .normal ∧ ∃ (t l i j B cap : Nat) (s17 s18 s19 s20 s21 s22 s23 s24 s25 s26 s27 s28 s29 s30 s31 : Value), a = { tmps := #[.slice A n c, .int .i64 g, undef, undef, .pointer none, .int .i64 0, .pointer (some ⟨B, 0, none⟩), undef, .slice A n c, .bool true, .bool false, .int .i64 g, .bool false, .bool false, .int .i64 g, .bool false, .bool false, s17, s18, s19, s20, s21, s22, s23, s24, s25, s26, s27, s28, s29, s30, s31, undef, undef, undef, undef, undef, undef, undef, undef, undef, undef, undef, undef, undef], defers := [] } ∧ NewF w W tl ML MI t l i j B n cap g

/-- The limits, of which the first k are 1. -/
structure LimI (w W wr : World) (i n k : Nat) : Prop where
  cl : Cl wr i n (fun x => .int .i64 (if x < k then 1 else 0))
  kp : Keep (fun q => q = i) W wr
theorem NewF.rca {w W wr : World} {tl : List Cs} {ML MI : Array Value} {t l i j B n cap g : Nat} (h : NewF w W tl ML MI t l i j B n cap g) (hok : okT tl = true) (hb : okB (g : Int) = true) (hn : tl.length = n) (hml : ∀ x, x < n → ML[x]? = some (.slice none 0 0)) (hmi : ∀ x, x < n → MI[x]? = some (.int .i64 0)) (hI : LimI w W wr i n n) :
    RcA wr (Nw w wr) B t l i j cap n n n (fun _ => .slice none 0 0) ⟨g, tl.map clsK⟩ := by
  have hwf := newT_wf hok hb
  rw [Int.toNat_natCast] at hwf
  have hl : (tl.map clsK).length = n := by rw [List.length_map, hn]
  obtain ⟨n1, n2, n3, n4, n5, n6, n7, n8, n9, n10⟩ := h.ne
  obtain ⟨o1, o2, o3, o4, o5⟩ := h.lo
  have lB := (Array.getElem?_eq_some_iff.1 h.hB).1
  have ll := (Array.getElem?_eq_some_iff.1 h.hl).1
  have li := (Array.getElem?_eq_some_iff.1 h.hi).1
  have lj := (Array.getElem?_eq_some_iff.1 h.hj).1
  obtain ⟨t1, t2, t3, t4⟩ : w.heap.size ≤ t ∧ t < W.heap.size ∧ n ≤ cap ∧ cap ≤ maxLen := by
    rcases h.row.2 with ⟨e, _⟩ | ⟨q, cp, cur, e, q1, q2, q3, q4, _⟩
    · cases e
    · cases e
      exact ⟨q1, (Array.getElem?_eq_some_iff.1 q2).1, q3, q4⟩
  have s1 := hI.kp.size
  have eB : wr.heap[B]? = _ := (hI.kp.block B lB (fun e => n3 (by have e : B = i := e; omega))).trans h.hB
  have el : wr.heap[l]? = _ := (hI.kp.block l ll (fun e => n8 e)).trans h.hl
  have ej : wr.heap[j]? = _ := (hI.kp.block j lj (fun e => n10 (by have e : j = i := e; omega))).trans h.hj
  have et := hI.kp.block t t2 (fun e => n6 e)
  have hrow : ∀ y u, (tabC tl)[y]? = some u → wr.cell? ⟨t, y, none⟩ = some u := fun y u hu => by
    have := h.row.cells (g := t) rfl y u hu
    rw [Addr.add_lit, Nat.zero_add] at this
    exact (World.cell?_of_block (a := ⟨t, y, none⟩) et).trans this
  have hml40 : n ≤ maxLen := by have := (okT_len hok).2; unfold maxLen; omega
  refine ⟨hwf, ?_, ⟨by rw [hl]; exact t3, by rw [hl]; exact Nat.le_refl _, by rw [hl]; exact Nat.le_refl _, by rw [hl]; exact Nat.le_refl _, t4, hml40, hml40, hml40⟩, h.ne, fun x k hx => ?_, ?_, ?_, ?_, fun x k hx => ?_, ⟨⟨o5, by omega⟩, ⟨o1, by omega⟩, ⟨o2, by omega⟩, ⟨o3, by omega⟩, ⟨o4, by omega⟩⟩, fun q hq => hq.2⟩
  · rw [hl]
    refine ⟨fun y hy => ?_, fun y hy => free_block eB, by omega⟩
    have : y = 0 ∨ y = 1 ∨ y = 2 ∨ y = 3 ∨ y = 4 := by omega
    rcases this with rfl | rfl | rfl | rfl | rfl <;> exact cell_block eB rfl
  · rw [List.getElem?_map] at hx
    cases hc : tl[x]? with
    | none => rw [hc] at hx; cases hx
    | some c0 =>
      rw [hc] at hx
      injection hx with hx
      subst hx
      obtain ⟨cs, cp, cb⟩ := c0
      have hbd := okC_bd (okT_at hok hc)
      have r0 := hrow (x * 3 + 0) _ ((tabC_at tl x _ 0 hc (by omega)).trans rfl)
      have r1 := hrow (x * 3 + 1) _ ((tabC_at tl x _ 1 hc (by omega)).trans rfl)
      have r2 := hrow (x * 3 + 2) _ ((tabC_at tl x _ 2 hc (by omega)).trans rfl)
      refine ⟨?_, ⟨cp, r1⟩, ?_⟩
      · rw [show (((clsK ⟨cs, cp, cb⟩).s : Nat) : Int) = cs from by show ((cs.toNat : Nat) : Int) = cs; omega]; exact r0
      · rw [show (((clsK ⟨cs, cp, cb⟩).b : Nat) : Int) = cb from by show ((cb.toNat : Nat) : Int) = cb; omega]; exact r2
  · rw [hl]
    refine hI.cl.congr fun x hx => ?_
    rw [if_pos hx]
    show _ = Value.int .i64 (((((tl.map clsK)[x]?.map (·.lim)).getD 0 : Nat)) : Int)
    rw [List.getElem?_map, List.getElem?_eq_getElem (by omega)]
    rfl
  · rw [hl]
    refine ⟨fun x hx => ?_, fun x hx => free_block ej, by omega⟩
    rw [cell_block ej (hmi x hx)]
    show _ = some (Value.int .i64 (((((tl.map clsK)[x]?.map (·.lo)).getD 0 : Nat)) : Int))
    rw [List.getElem?_map, List.getElem?_eq_getElem (by omega)]
    rfl
  · rw [hl]
    exact ⟨fun x hx => cell_block el (hml x hx), fun x hx => free_block el, by omega⟩
  · rw [List.getElem?_map] at hx
    cases hc : tl[x]? with
    | none => rw [hc] at hx; cases hx
    | some c0 =>
      rw [hc] at hx
      injection hx with hx
      subst hx
      exact ⟨none, 0, rfl, Nat.le_refl _, Nat.zero_le _, IAt.nil _ _ _⟩

set_option linter.unusedSimpArgs false in
set_option maxRecDepth 100000 in
set_option maxHeartbeats 16000000 in
theorem dNew_yes (A : Option Addr) (c n g : Nat) (tl : List Cs) (w0 : World) (hT : TabAt w0 w0.heap.size A tl) (hn : tl.length = n) (hok : okT tl = true) (hb : okB (g : Int) = true) : Calls Try.prog 17 #[.slice A n c, .int .i64 g] w0 (TNewP true w0 (some ⟨g, tl.map clsK⟩) 0) := by
  have hlen := okT_len hok
  have HV := RValid_any A c tl w0 (by omega) hT
  rw [hok, hn] at HV
  have HV := Lib.hid HV
  have hb2 := hb
  unfold okB at hb2
  rw [decide_eq_true_eq] at hb2
  have h0 : 0 < n := by omega
  have h40 : n ≤ 40 := by omega
  have hg : g ≤ 65536 := by omega
  have d1 : decide ((g : Int) < 0) = false := decide_eq_false (by omega)
  have d2 : decide ((65536 : Int) < (g : Int)) = false := decide_eq_false (by omega)
  obtain ⟨i1, e1, e2, e3, e4⟩ := info_parts (show (Try.prog.info? 33).map (fun i => (i.zero, i.size, i.bytes)) = some (some (.slice none 0 0), 1, 24) from by kernel_rfl)
  obtain ⟨i2, f1, f2, f3, f4⟩ := info_parts info3
  obtain ⟨ML, hML⟩ : ∃ ML, madeCells (Value.slice none 0 0).cells n = ML := ⟨_, rfl⟩
  obtain ⟨MI, hMI⟩ : ∃ MI, madeCells (Value.int .i64 0).cells n = MI := ⟨_, rfl⟩
  have hmk1 : ∀ W : World, (Instr.makeSlice 72 (.int .i64 (n : Int)) (.int .i64 (n : Int))).run Try.prog W = .ok (.slice (some ⟨W.heap.size, 0, none⟩) n n) (W.alloc (.cells ML 33)) := fun W => by
    have := run_make (P := Try.prog) W 72 33 i1 _ (by kernel_rfl) e1 e2 .i64 .i64 n n (by omega) (Int.le_refl _) (by rw [e4]; omega) (by omega)
    rw [e3, Int.toNat_natCast, Nat.mul_one, hML] at this
    exact this
  have hmk2 : ∀ W : World, (Instr.makeSlice 33 (.int .i64 (n : Int)) (.int .i64 (n : Int))).run Try.prog W = .ok (.slice (some ⟨W.heap.size, 0, none⟩) n n) (W.alloc (.cells MI 3)) := fun W => by
    have := run_make (P := Try.prog) W 33 3 i2 _ undInts f1 f2 .i64 .i64 n n (by omega) (Int.le_refl _) (by rw [f4]; omega) (by omega)
    rw [f3, Int.toNat_natCast, Nat.mul_one, hMI] at this
    exact this
  have HMI := Lib.hid (show ∀ x, x < n → MI[x]? = some (.int .i64 0) from fun x hx => by rw [← hMI]; exact make_at _ rfl n x hx)
  have HML := Lib.hid (show ∀ x, x < n → ML[x]? = some (.slice none 0 0) from fun x hx => by rw [← hML]; exact make_at _ rfl n x hx)
  have HT := Lib.hid (fun (w W : World) (h1 : Below w0.heap.size w0 w) (hb : Below w.heap.size w W) => show TabAt W w.heap.size A tl from (hT.below (btr h1 hb (Nat.le_refl _))).more h1.size)
  have HN := Lib.hid hn
  have HOK := Lib.hid (And.intro hok hb)
  clear hT hn hML hMI hok hb hb2 hlen
  go_enter Try.func17, Try.ntmps17
  go_wp2_with (go_at_call 40; refine HV.out.mono ?_; rintro e w ⟨rfl, hbv⟩; have HBV := Lib.hid hbv; clear hbv)
  refine Code.wp_mono (Q := QN w tl ML MI A n c g) ?_ ?_
  · rintro e a' W ⟨rfl, t, l, i, j, B, cap, s17, s18, s19, s20, s21, s22, s23, s24, s25, s26, s27, s28, s29, s30, s31, rfl, hF⟩
    have HF := Lib.hid hF
    clear hF hmk1 hmk2
    go_wp2
    go_loopw [7] (fun iv wr => ∃ k : Nat, k ≤ n ∧ iv = .int .i64 k ∧ LimI w W wr i n k) (fun iv _ => n - (intOf iv).toNat)
    case atStart =>
      refine ⟨0, Nat.zero_le _, rfl, ⟨fun x hx => ?_, fun x hx => free_block HF.out.hi, (Array.getElem?_eq_some_iff.1 HF.out.hi).1⟩, Keep.refl _ _⟩
      rw [cell_block HF.out.hi (HMI.out x hx), if_neg (by omega)]
    case round =>
      obtain ⟨k, hk, rfl, hL⟩ := hrel
      have HL := Lib.hid hL
      by_cases hlt : k < n
      · have c3 : wr.cell? ⟨B, 3, none⟩ = some (.slice (some ⟨i, 0, none⟩) n n) := (World.cell?_of_block (a := ⟨B, 3, none⟩) (hL.kp.block B (Array.getElem?_eq_some_iff.1 HF.out.hB).1 (fun e => HF.out.ne.2.2.1 (by have e : B = i := e; omega)))).trans (cell_block HF.out.hB rfl)
        have c4 := hL.cl.cell k hlt
        have f4 := hL.cl.free k hlt
        have hn2 : (k : Int) < (n : Int) := by omega
        have hn0 : (0 : Int) ≤ (k : Int) := by omega
        clear hL
        go_wp2_with fail
        go_roundw
        case rel =>
          refine ⟨k + 1, by omega, by go_num, ⟨(HL.out.cl.set k _).congr fun x _ => ?_, HL.out.kp.set (a := ⟨i, k, none⟩) (.inl rfl) _⟩⟩
          by_cases e : x = k
          · rw [if_pos e, if_pos (by omega)]
          · rw [if_neg e]
            by_cases h2 : x < k
            · rw [if_pos h2, if_pos (by omega)]
            · rw [if_neg h2, if_neg (by omega)]
        case measure => simp [intOf]; omega
      · obtain rfl : k = n := by omega
        clear hL
        go_wp2_with fail
        go_ret2
        have hR := HF.out.rca HOK.out.1 HOK.out.2 HN.out HML.out HMI.out HL.out
        have hbw := btr HBV.out (HF.out.bel.trans (HL.out.kp.below (N := w.heap.size) HF.out.bel.size (fun q e => by rw [e]; exact HF.out.lo.2.2.1))) (Nat.le_refl _)
        refine ⟨_, rfl, TOb.mono (om := some _) ⟨B, t, l, i, j, cap, k, k, k, _, rfl, hR⟩ (fun q hq => ⟨Nat.le_trans HBV.out.size hq.1, hq.2⟩) (fun q hq => hq.2), ⟨(fun e => nomatch e), (fun e => nomatch e)⟩, hbw⟩
  · refine wp_region_noPanic ?_
    go_region_law (refine step_appC (w := w) (by rfl) (.tmp 17) (.tmp 18) (by rfl) (by rfl) _ (by rfl) A n c (by rfl) tl (HT.out _ _ HBV.out (by repeat (first | exact Below.refl _ _ | refine bAl ?_ _ | refine bDr ?_))) HN.out (by omega) (by omega) (by simp only [hGet, hDr, hSz, Nat.add_assoc, Nat.reduceAdd, Nat.reduceEqDiff, Nat.add_eq_left, Nat.left_eq_add, Nat.add_left_cancel_iff, ↓reduceIte] <;> rfl) (by omega) (by repeat (first | exact Below.refl _ _ | refine bAl ?_ _ | refine bDr ?_)) ?_; intro cap arr hrow; have HROW := Lib.hid hrow; clear hrow)
    all_goals
      exact NoPanic.normal ⟨rfl, _, _, _, _, _, cap, _, _, _, _, _, _, _, _, _, _, _, _, _, _, _, rfl, ⟨(by simp only [hGet, hDr, hSz, Nat.add_assoc, Nat.reduceAdd, Nat.reduceEqDiff, Nat.add_eq_left, Nat.left_eq_add, Nat.add_left_cancel_iff, ↓reduceIte] <;> rfl), by repeat (first | exact Below.refl _ _ | refine bAl ?_ _ | refine bDr ?_), HROW.out _ _ (by simp only [hDr, hSz, Nat.add_assoc, Nat.reduceAdd]) (by simp only [hGet, hDr, hSz, Nat.add_assoc, Nat.reduceAdd, Nat.reduceEqDiff, Nat.add_eq_left, Nat.left_eq_add, Nat.add_left_cancel_iff, ↓reduceIte] <;> rfl), (by simp only [hGet, hDr, hSz, Nat.add_assoc, Nat.reduceAdd, Nat.reduceEqDiff, Nat.add_eq_left, Nat.left_eq_add, Nat.add_left_cancel_iff, ↓reduceIte] <;> rfl), (by simp only [hGet, hDr, hSz, Nat.add_assoc, Nat.reduceAdd, Nat.reduceEqDiff, Nat.add_eq_left, Nat.left_eq_add, Nat.add_left_cancel_iff, ↓reduceIte] <;> rfl), (by simp only [hGet, hDr, hSz, Nat.add_assoc, Nat.reduceAdd, Nat.reduceEqDiff, Nat.add_eq_left, Nat.left_eq_add, Nat.add_left_cancel_iff, ↓reduceIte] <;> rfl), (by (try simp only [hDr, hSz]); omega), (by (try simp only [hDr, hSz]); omega)⟩⟩


set_option maxRecDepth 100000 in
set_option maxHeartbeats 4000000 in
theorem dNew_any (A : Option Addr) (cap : Nat) (t : List Cs) (g : Int) (w : World) (hl : t.length ≤ 9223372036854775807) (hT : TabAt w w.heap.size A t) :
    Calls Try.prog 17 #[.slice A t.length cap, .int .i64 g] w (TNewP true w (newT t g) (newE t g)) := by
  have HV := Lib.hid (RValid_any A cap t w hl hT)
  by_cases hok : okT t = true
  · by_cases hb : okB g = true
    · have e1 : newE t g = 0 := by unfold newE; rw [if_pos hok, if_pos hb]
      have e2 : newT t g = some ⟨g.toNat, t.map clsK⟩ := if_pos ⟨hok, hb⟩
      rw [e1, e2]
      have hb2 := hb
      unfold okB at hb2
      rw [decide_eq_true_eq] at hb2
      obtain ⟨gn, hgn⟩ : ∃ gn : Nat, g = (gn : Int) := ⟨g.toNat, by omega⟩
      subst hgn
      exact dNew_yes A cap t.length gn t w hT rfl hok hb
    · have e1 : newE t g = 1 := by unfold newE; rw [if_pos hok, if_neg hb]
      have e2 : newT t g = none := if_neg (fun h => hb h.2)
      rw [e1, e2]
      rw [hok] at HV
      generalize t.length = n at *
      unfold okB at hb
      rw [decide_eq_true_eq] at hb
      have hc : g < 0 ∨ (0 ≤ g ∧ 65536 < g) := by omega
      clear hok e1 e2 hT hb hl
      rcases hc with h1 | ⟨h1, h2⟩
      all_goals
        go_enter Try.func17, Try.ntmps17
        go_wp2_with (go_at_call 40; refine HV.out.mono ?_; rintro e w1 ⟨rfl, hb1⟩; have HB1 := Lib.hid hb1; clear hb1)
        go_ret2
        exact TNewP.bad rfl HB1.out
  · have e1 : newE t g = 2 := by unfold newE; rw [if_neg hok]
    have e2 : newT t g = none := if_neg (fun h => hok h.1)
    rw [e1, e2]
    rw [show okT t = false from by simpa using hok] at HV
    generalize t.length = n at *
    clear hok e1 e2 hT hl
    go_enter Try.func17, Try.ntmps17
    go_wp2_with (go_at_call 40; refine HV.out.mono ?_; rintro e w1 ⟨rfl, hb1⟩; have HB1 := Lib.hid hb1; clear hb1)
    go_ret2
    exact TNewP.bad rfl HB1.out
end Go.Proofs.Yticcjelaenhigaa
