/- Package central: New, overlaps, Add. -/
import Derived.Test.YtejfoefhaphacaaGreatCd
namespace Go.Proofs.YtejfoefhaphacaaGreat
open Go.RowKit Go.Shelf

def newC (c : Cs) : Option Ce := if okC c = true then some ⟨c.s.toNat, c.p.toNat, c.b.toNat, []⟩ else none
theorem newC_wf {c : Cs} (h : okC c = true) : CWf ⟨c.s.toNat, c.p.toNat, c.b.toNat, []⟩ := by
  obtain ⟨a1, a2, a3, a4, a5, a6, a7, a8⟩ := okC_bd h
  exact ⟨by show 8 ≤ c.s.toNat; omega, by show c.s.toNat ≤ 512; omega, by show c.s.toNat % 8 = 0; omega, by show 1 ≤ c.p.toNat; omega, by show c.p.toNat ≤ 4; omega, by show 1 ≤ c.b.toNat; omega, by show c.b.toNat ≤ 32; omega, by show c.s.toNat ≤ c.p.toNat * 256; omega, (fun m hm => by cases hm), List.Pairwise.nil⟩
/-- What New of a list leaves. -/
def LNewP (r : Bool) (w : World) (om : Option Ce) (err : Int) (e : Ending) (w' : World) : Prop :=
  ∃ v, e = .returned (.tuple #[v, .int .i64 err]) ∧ LOb r w' (Nw w w') v om ∧ (om = none → v = .pointer none) ∧ Below w.heap.size w w'
theorem LNewP.bad {r : Bool} {w w' : World} {err : Int} {e : Ending} (he : e = .returned (.tuple #[.pointer none, .int .i64 err])) (hb : Below w.heap.size w w') : LNewP r w none err e w' :=
  ⟨_, he, ⟨.inl rfl, fun _ hk => hk.2⟩, fun _ => rfl, hb⟩
theorem cl_new4 {w : World} {a b c d : Value} {t : TypeId} (ht : t ≠ 3) : Cl (w.alloc (.cells #[a, b, c, d] t)) w.heap.size 4 (fun i => if i = 0 then a else if i = 1 then b else if i = 2 then c else d) :=
  Cl.new w ht (fun i hi => by
    have : i = 0 ∨ i = 1 ∨ i = 2 ∨ i = 3 := by omega
    rcases this with rfl | rfl | rfl | rfl <;> rfl)
theorem newL_ok {r : Bool} {w W : World} {c : Cs} {t : TypeId} (ht : t ≠ 3) (h : okC c = true) (hb : Below w.heap.size w W) (a b d : Int) (ha : a = c.s) (hb' : b = c.p) (hd : d = c.b) :
    LNewP r w (newC c) 0 (.returned (.tuple #[.pointer (some ⟨W.heap.size, 0, none⟩), .int .i64 0])) (W.alloc (.cells #[.int .i64 a, .int .i64 b, .int .i64 d, .slice none 0 0] t)) := by
  subst ha hb' hd
  obtain ⟨a1, a2, a3, a4, a5, a6, a7, a8⟩ := okC_bd h
  have hs := hb.size
  rw [show newC c = some ⟨c.s.toNat, c.p.toNat, c.b.toNat, []⟩ from if_pos h]
  refine ⟨_, rfl, ⟨W.heap.size, .slice none 0 0, [], rfl, newC_wf h, ?_, World.ownsRow_nil _ _ _ _, (fun g hg => nomatch hg), ⟨hs, by simp⟩, (fun i x e => by simp at e), (fun i x e => by simp at e), List.Pairwise.nil, rfl, fun k hk => hk.2⟩, (fun h => nomatch h), hb.alloc hs _⟩
  refine (cl_new4 ht).congr fun i hi => ?_
  have e1 : ((c.s.toNat : Nat) : Int) = c.s := by omega
  have e2 : ((c.p.toNat : Nat) : Int) = c.p := by omega
  have e3 : ((c.b.toNat : Nat) : Int) = c.b := by omega
  unfold hF
  dsimp only
  rw [e1, e2, e3]

set_option maxRecDepth 100000 in
set_option maxHeartbeats 1000000 in
theorem cNew_any (s p b : Int) (w : World) : Calls Tryz.prog 7 #[.agg #[.int .i64 s, .int .i64 p, .int .i64 b]] w (LNewP false w (newC ⟨s, p, b⟩) (errV ⟨s, p, b⟩)) := by
  obtain ⟨W0, hW, hB0, hsz, x0, x1, x2⟩ := new3 w (.int .i64 s) (.int .i64 p) (.int .i64 b) 23
  have HO := Lib.hid (SObjects_any s p b)
  have HB0 := Lib.hid hB0
  have HX := Lib.hid (fun (w1 : World) (hb1 : Below W0.heap.size W0 w1) => And.intro ((hb1.cell (p := ⟨w.heap.size, 0, none⟩) (Nat.lt_of_succ_le hsz)).trans x0) (And.intro ((hb1.cell (p := ⟨w.heap.size, 1, none⟩) (Nat.lt_of_succ_le hsz)).trans x1) ((hb1.cell (p := ⟨w.heap.size, 2, none⟩) (Nat.lt_of_succ_le hsz)).trans x2)))
  by_cases hok : okC ⟨s, p, b⟩ = true
  · have e1 : errV ⟨s, p, b⟩ = 0 := if_pos hok
    have HF := Lib.hid (fun (W : World) (hb : Below w.heap.size w W) => newL_ok (r := false) (t := 44) (by decide) hok hb s p b rfl rfl rfl)
    rw [e1] at HO ⊢
    generalize objsV ⟨s, p, b⟩ = ov at *
    clear hok e1 hB0 hsz
    go_enter Tryz.func7, Tryz.ntmps7
    go_wp2_with (go_at_call 19; refine (HO.out _).mono ?_; rintro e w1 ⟨rfl, hb1⟩; have HB1 := Lib.hid (btr HB0.out hb1 (Nat.le_refl _)); obtain ⟨y0, y1, y2⟩ := HX.out _ hb1; clear hb1 x0 x1 x2)
    go_ret2
    exact HF.out _ HB1.out
  · have e1 : errV ⟨s, p, b⟩ = 1 := if_neg hok
    have e2 : newC ⟨s, p, b⟩ = none := if_neg hok
    rw [e1] at HO ⊢
    rw [e2]
    generalize objsV ⟨s, p, b⟩ = ov at *
    clear hok e1 e2 hB0 hsz
    go_enter Tryz.func7, Tryz.ntmps7
    go_wp2_with (go_at_call 19; refine (HO.out _).mono ?_; rintro e w1 ⟨rfl, hb1⟩; have HB1 := Lib.hid (btr HB0.out hb1 (Nat.le_refl _)); clear hb1 x0 x1 x2)
    go_ret2
    exact LNewP.bad rfl HB1.out

/-- Whether a run overlaps the span before its place, the one behind it. -/
def o1 (L : List Mo) (g : Nat) (st : Int) (P : Nat) : Bool := match P with
  | 0 => false
  | k + 1 => match L[k]? with
    | some m => decide (st - (m.s : Int) < g)
    | none => false
def o2 (L : List Mo) (g : Nat) (st : Int) (P : Nat) : Bool := match L[P]? with
  | some m => decide ((m.s : Int) - st < g)
  | none => false
theorem o1_at {L : List Mo} {g : Nat} {st : Int} {k : Nat} {m : Mo} (h : L[k]? = some m) : o1 L g st (k + 1) = decide (st - (m.s : Int) < g) := by simp only [o1, h]
theorem o2_at {L : List Mo} {g : Nat} {st : Int} {k : Nat} {m : Mo} (h : L[k]? = some m) : o2 L g st k = decide ((m.s : Int) - st < g) := by simp only [o2, h]
theorem o2_no {L : List Mo} {g : Nat} {st : Int} {k : Nat} (h : L[k]? = none) : o2 L g st k = false := by simp only [o2, h]
theorem ovl_eq {c : Ce} (h : CWf c) (st : Int) : ovl c.L c.g st = (o1 c.L c.g st (pos c.L st) || o2 c.L c.g st (pos c.L st)) := by
  have hg := h.g1
  have hle := pos_le c.L st
  rw [Bool.eq_iff_iff, Bool.or_eq_true]
  unfold ovl
  rw [List.any_eq_true]
  constructor
  · rintro ⟨m, hm, hd⟩
    rw [decide_eq_true_eq] at hd
    obtain ⟨i, hi⟩ := List.mem_iff_getElem?.1 hm
    have hp := h.pos st hi
    rcases Nat.lt_or_ge i (pos c.L st) with hlt | hge
    · left
      obtain ⟨k, hk⟩ : ∃ k, pos c.L st = k + 1 := ⟨pos c.L st - 1, by omega⟩
      obtain ⟨x, hx⟩ : ∃ x, c.L[k]? = some x := ⟨_, List.getElem?_eq_getElem (by omega)⟩
      rw [hk, o1_at hx, decide_eq_true_eq]
      rcases Nat.lt_or_eq_of_le (show i ≤ k by omega) with h1 | rfl
      · have h2 := h.ord h1 hi hx
        have h3 := (h.pos st hx).2 (by omega)
        omega
      · rw [hi] at hx; cases hx; omega
    · right
      obtain ⟨x, hx⟩ : ∃ x, c.L[pos c.L st]? = some x := ⟨_, List.getElem?_eq_getElem (by have := (List.getElem?_eq_some_iff.1 hi).1; omega)⟩
      rw [o2_at hx, decide_eq_true_eq]
      rcases Nat.lt_or_eq_of_le hge with h1 | h1
      · have h2 := h.ord h1 hx hi
        omega
      · rw [h1, hi] at hx; cases hx; omega
  · rintro (h1 | h1)
    · rcases Nat.eq_zero_or_pos (pos c.L st) with hz | hz
      · rw [hz] at h1; cases h1
      · obtain ⟨k, hk⟩ : ∃ k, pos c.L st = k + 1 := ⟨pos c.L st - 1, by omega⟩
        obtain ⟨x, hx⟩ : ∃ x, c.L[k]? = some x := ⟨_, List.getElem?_eq_getElem (by omega)⟩
        rw [hk, o1_at hx, decide_eq_true_eq] at h1
        have h3 := (h.pos st hx).2 (by omega)
        exact ⟨x, List.mem_of_getElem? hx, by rw [decide_eq_true_eq]; omega⟩
    · cases hx : c.L[pos c.L st]? with
      | none => rw [o2_no hx] at h1; cases h1
      | some x =>
        rw [o2_at hx, decide_eq_true_eq] at h1
        have h3 : ¬ (x.s : Int) ≤ st := fun hh => absurd ((h.pos st hx).1 hh) (by omega)
        exact ⟨x, List.mem_of_getElem? hx, by rw [decide_eq_true_eq]; omega⟩

/-! The walks of overlaps, an arm each. -/
theorem region_below2 {P : Program} {id : Nat} {Q : Exit → Act → World → Prop} {a : Act} {N : Nat} {w0 : World} {l : List Oper} (n0 : CW N w0) (hm : P.follows .mixedOrders = true) (hB : Region.lexB .any l.toArray = true)
    (h : wpQuiet P l.toArray (fun w' => ∃ n : CW N w0, w' = n.wd) (fun a' => ∀ w', (∃ n : CW N w0, w' = n.wd) → Q .normal a' w') l a) : (Code.region id l.toArray true).wp P Q a n0.wd :=
  wp_region_quiet (C := fun w' => ∃ n : CW N w0, w' = n.wd) hm hB ⟨⟨_, n0.bel.drew⟩, rfl⟩ (by simpa using h)
theorem quietB2 {P : Program} {f : FuncId} {args : Array Value} {w0 : World} {v : Value} {n : CW w0.heap.size w0} (h : ∀ W, Below w0.heap.size w0 W → Calls P f args W fun e w' => e = .returned v ∧ Below W.heap.size W w') : Calls P f args n.wd fun e w'' => e = .returned v ∧ ∃ m : CW w0.heap.size w0, w'' = m.wd :=
  (h n.wd n.bel).mono fun _ w' ⟨he, hb⟩ => ⟨he, ⟨w', btr n.bel hb (Nat.le_refl _)⟩, rfl⟩

section
variable {B cap g : Nat} {w : World} {N sx gx sy gy gg k xb yb : Nat} {st : Int} {A : Option Addr}
set_option maxRecDepth 100000 in
set_option maxHeartbeats 2000000 in
theorem ov_a (c1 : w.cell? ⟨B, 1, none⟩ = some (.int .i64 gg)) (c3 : w.cell? ⟨B, 3, none⟩ = some (.slice (some ⟨g, 0, none⟩) N cap)) (hN : N ≤ 1024) (h0 : 0 ≤ st) (h1 : st ≤ 1024) (hp : 0 < N) (cy : w.cell? ⟨g, 0, none⟩ = some (.pointer (some ⟨yb, 0, none⟩))) (RY : ∀ W, Below w.heap.size w W → Calls Tryz.prog 51 #[.pointer (some ⟨yb, 0, none⟩)] W fun e w' => e = .returned (.agg #[.int .i64 sy, .int .i64 gy]) ∧ Below W.heap.size W w') (hsy : sy ≤ 1024) :
    Calls Tryz.prog 44 #[.pointer (some ⟨B, 0, none⟩), .int .i64 st, .int .i64 (0)] w fun e w' => e = .returned (.bool (decide ((sy : Int) - st < gg))) ∧ Below w.heap.size w w' := by
  have G1 := CW.cell (N := w.heap.size) (a := ⟨B, 1, none⟩) (World.block_lt_of_cell? _ _ c1) c1
  have G3 := CW.cell (N := w.heap.size) (a := ⟨B, 3, none⟩) (World.block_lt_of_cell? _ _ c3) c3
  have G4 := CW.cell (N := w.heap.size) (a := ⟨g, 0, none⟩) (World.block_lt_of_cell? _ _ cy) cy
  have HY := Lib.hid RY
  have hfy := fld0 sy gy
  obtain ⟨f3, f4⟩ := w64 ((sy : Int) - st) (by omega)
  have d1 : decide (0 < (N : Int)) = true := decide_eq_true (by omega)
  clear c1 c3 cy RY
  go_enter Tryz.func44, Tryz.ntmps44
  go_wp2
  refine region_below2 (CW.mk (N := w.heap.size) w (Below.refl _ _)) (by kernel_rfl) (by kernel_rfl) ?_
  repeat (first | go_big_quiet_step ((go_at_call 51; first | exact quietB2 HY.out)) | quiet_step ((go_at_call 51; first | exact quietB2 HY.out)))
  refine wpQuiet_nil ?_
  rintro _ ⟨nq, rfl⟩
  go_wp2
  refine region_below2 nq (by kernel_rfl) (by kernel_rfl) ?_
  repeat (first | go_big_quiet_step ((go_at_call 51; first | exact quietB2 HY.out)) | quiet_step ((go_at_call 51; first | exact quietB2 HY.out)))
  refine wpQuiet_nil ?_
  rintro _ ⟨nq2, rfl⟩
  go_wp2
  go_ret
  exact ⟨rfl, nq2.bel⟩
set_option maxRecDepth 100000 in
set_option maxHeartbeats 2000000 in
theorem ov_b (c1 : w.cell? ⟨B, 1, none⟩ = some (.int .i64 gg)) (c3 : w.cell? ⟨B, 3, none⟩ = some (.slice A N cap)) (_hN : N ≤ 1024) (_h0 : 0 ≤ st) (_h1 : st ≤ 1024) (hp : N = 0) :
    Calls Tryz.prog 44 #[.pointer (some ⟨B, 0, none⟩), .int .i64 st, .int .i64 (0)] w fun e w' => e = .returned (.bool false) ∧ Below w.heap.size w w' := by
  have G1 := CW.cell (N := w.heap.size) (a := ⟨B, 1, none⟩) (World.block_lt_of_cell? _ _ c1) c1
  have G3 := CW.cell (N := w.heap.size) (a := ⟨B, 3, none⟩) (World.block_lt_of_cell? _ _ c3) c3
  have d1 : decide (0 < (N : Int)) = false := decide_eq_false (by omega)
  have d2 : decide (0 < N) = false := decide_eq_false (by omega)
  clear c1 c3 hp
  go_enter Tryz.func44, Tryz.ntmps44
  go_wp2
  refine region_below2 (CW.mk (N := w.heap.size) w (Below.refl _ _)) (by kernel_rfl) (by kernel_rfl) ?_
  repeat (first | go_big_quiet_step (fail) | quiet_step (fail))
  refine wpQuiet_nil ?_
  rintro _ ⟨nq, rfl⟩
  go_wp2
  refine region_below2 nq (by kernel_rfl) (by kernel_rfl) ?_
  repeat (first | go_big_quiet_step (fail) | quiet_step (fail))
  refine wpQuiet_nil ?_
  rintro _ ⟨nq2, rfl⟩
  go_wp2
  go_ret
  exact ⟨rfl, nq2.bel⟩
set_option maxRecDepth 100000 in
set_option maxHeartbeats 2000000 in
theorem ov_c (c1 : w.cell? ⟨B, 1, none⟩ = some (.int .i64 gg)) (c3 : w.cell? ⟨B, 3, none⟩ = some (.slice (some ⟨g, 0, none⟩) N cap)) (hN : N ≤ 1024) (h0 : 0 ≤ st) (h1 : st ≤ 1024) (cx : w.cell? ⟨g, k, none⟩ = some (.pointer (some ⟨xb, 0, none⟩))) (RX : ∀ W, Below w.heap.size w W → Calls Tryz.prog 51 #[.pointer (some ⟨xb, 0, none⟩)] W fun e w' => e = .returned (.agg #[.int .i64 sx, .int .i64 gx]) ∧ Below W.heap.size W w') (hk : k < N) (hsx : sx ≤ 1024) (hd : decide (st - (sx : Int) < (gg : Int)) = true) :
    Calls Tryz.prog 44 #[.pointer (some ⟨B, 0, none⟩), .int .i64 st, .int .i64 ((k : Int) + 1)] w fun e w' => e = .returned (.bool true) ∧ Below w.heap.size w w' := by
  have G1 := CW.cell (N := w.heap.size) (a := ⟨B, 1, none⟩) (World.block_lt_of_cell? _ _ c1) c1
  have G3 := CW.cell (N := w.heap.size) (a := ⟨B, 3, none⟩) (World.block_lt_of_cell? _ _ c3) c3
  have G5 := CW.cell (N := w.heap.size) (a := ⟨g, k, none⟩) (World.block_lt_of_cell? _ _ cx) cx
  have HX := Lib.hid RX
  have hfx := fld0 sx gx
  obtain ⟨f1, f2⟩ := w64 (st - (sx : Int)) (by omega)
  obtain ⟨e1, e2⟩ := w64 (k : Int) (by omega)
  obtain ⟨e3, e4⟩ := w64 ((k : Int) + 1 - 1) (by omega)
  have d0 : decide (0 < (k : Int) + 1) = true := decide_eq_true (by omega)
  clear c1 c3 cx RX
  go_enter Tryz.func44, Tryz.ntmps44
  go_wp2
  refine region_below2 (CW.mk (N := w.heap.size) w (Below.refl _ _)) (by kernel_rfl) (by kernel_rfl) ?_
  repeat (first | go_big_quiet_step ((go_at_call 51; first | exact quietB2 HX.out)) | quiet_step ((go_at_call 51; first | exact quietB2 HX.out)))
  refine wpQuiet_nil ?_
  rintro _ ⟨nq, rfl⟩
  go_wp2
  go_ret
  exact ⟨rfl, nq.bel⟩
set_option maxRecDepth 100000 in
set_option maxHeartbeats 2000000 in
theorem ov_d (c1 : w.cell? ⟨B, 1, none⟩ = some (.int .i64 gg)) (c3 : w.cell? ⟨B, 3, none⟩ = some (.slice (some ⟨g, 0, none⟩) N cap)) (hN : N ≤ 1024) (h0 : 0 ≤ st) (h1 : st ≤ 1024) (cx : w.cell? ⟨g, k, none⟩ = some (.pointer (some ⟨xb, 0, none⟩))) (RX : ∀ W, Below w.heap.size w W → Calls Tryz.prog 51 #[.pointer (some ⟨xb, 0, none⟩)] W fun e w' => e = .returned (.agg #[.int .i64 sx, .int .i64 gx]) ∧ Below W.heap.size W w') (hk : k < N) (hsx : sx ≤ 1024) (hd : decide (st - (sx : Int) < (gg : Int)) = false) (hp : k + 1 < N) (cy : w.cell? ⟨g, k + 1, none⟩ = some (.pointer (some ⟨yb, 0, none⟩))) (RY : ∀ W, Below w.heap.size w W → Calls Tryz.prog 51 #[.pointer (some ⟨yb, 0, none⟩)] W fun e w' => e = .returned (.agg #[.int .i64 sy, .int .i64 gy]) ∧ Below W.heap.size W w') (hsy : sy ≤ 1024) :
    Calls Tryz.prog 44 #[.pointer (some ⟨B, 0, none⟩), .int .i64 st, .int .i64 ((k : Int) + 1)] w fun e w' => e = .returned (.bool (decide ((sy : Int) - st < gg))) ∧ Below w.heap.size w w' := by
  have G1 := CW.cell (N := w.heap.size) (a := ⟨B, 1, none⟩) (World.block_lt_of_cell? _ _ c1) c1
  have G3 := CW.cell (N := w.heap.size) (a := ⟨B, 3, none⟩) (World.block_lt_of_cell? _ _ c3) c3
  have G5 := CW.cell (N := w.heap.size) (a := ⟨g, k, none⟩) (World.block_lt_of_cell? _ _ cx) cx
  have HX := Lib.hid RX
  have hfx := fld0 sx gx
  obtain ⟨f1, f2⟩ := w64 (st - (sx : Int)) (by omega)
  obtain ⟨e1, e2⟩ := w64 (k : Int) (by omega)
  obtain ⟨e3, e4⟩ := w64 ((k : Int) + 1 - 1) (by omega)
  have d0 : decide (0 < (k : Int) + 1) = true := decide_eq_true (by omega)
  have G4 := CW.cell (N := w.heap.size) (a := ⟨g, k + 1, none⟩) (World.block_lt_of_cell? _ _ cy) cy
  have HY := Lib.hid RY
  have hfy := fld0 sy gy
  obtain ⟨f3, f4⟩ := w64 ((sy : Int) - st) (by omega)
  have d1 : decide ((k : Int) + 1 < (N : Int)) = true := decide_eq_true (by omega)
  have ht : ((k : Int) + 1).toNat = k + 1 := by omega
  clear c1 c3 cx RX cy RY
  go_enter Tryz.func44, Tryz.ntmps44
  go_wp2
  refine region_below2 (CW.mk (N := w.heap.size) w (Below.refl _ _)) (by kernel_rfl) (by kernel_rfl) ?_
  repeat (first | go_big_quiet_step ((go_at_call 51; first | exact quietB2 HX.out)) | quiet_step ((go_at_call 51; first | exact quietB2 HX.out)))
  refine wpQuiet_nil ?_
  rintro _ ⟨nq, rfl⟩
  go_wp2
  clear HX
  refine region_below2 nq (by kernel_rfl) (by kernel_rfl) ?_
  repeat (first | go_big_quiet_step ((go_at_call 51; first | exact quietB2 HY.out)) | quiet_step ((go_at_call 51; first | exact quietB2 HY.out)))
  refine wpQuiet_nil ?_
  rintro _ ⟨nq2, rfl⟩
  go_wp2
  go_ret
  exact ⟨rfl, nq2.bel⟩
set_option maxRecDepth 100000 in
set_option maxHeartbeats 2000000 in
theorem ov_e (c1 : w.cell? ⟨B, 1, none⟩ = some (.int .i64 gg)) (c3 : w.cell? ⟨B, 3, none⟩ = some (.slice (some ⟨g, 0, none⟩) N cap)) (hN : N ≤ 1024) (h0 : 0 ≤ st) (h1 : st ≤ 1024) (cx : w.cell? ⟨g, k, none⟩ = some (.pointer (some ⟨xb, 0, none⟩))) (RX : ∀ W, Below w.heap.size w W → Calls Tryz.prog 51 #[.pointer (some ⟨xb, 0, none⟩)] W fun e w' => e = .returned (.agg #[.int .i64 sx, .int .i64 gx]) ∧ Below W.heap.size W w') (hk : k < N) (hsx : sx ≤ 1024) (hd : decide (st - (sx : Int) < (gg : Int)) = false) (hp : ¬ k + 1 < N) :
    Calls Tryz.prog 44 #[.pointer (some ⟨B, 0, none⟩), .int .i64 st, .int .i64 ((k : Int) + 1)] w fun e w' => e = .returned (.bool false) ∧ Below w.heap.size w w' := by
  have G1 := CW.cell (N := w.heap.size) (a := ⟨B, 1, none⟩) (World.block_lt_of_cell? _ _ c1) c1
  have G3 := CW.cell (N := w.heap.size) (a := ⟨B, 3, none⟩) (World.block_lt_of_cell? _ _ c3) c3
  have G5 := CW.cell (N := w.heap.size) (a := ⟨g, k, none⟩) (World.block_lt_of_cell? _ _ cx) cx
  have HX := Lib.hid RX
  have hfx := fld0 sx gx
  obtain ⟨f1, f2⟩ := w64 (st - (sx : Int)) (by omega)
  obtain ⟨e1, e2⟩ := w64 (k : Int) (by omega)
  obtain ⟨e3, e4⟩ := w64 ((k : Int) + 1 - 1) (by omega)
  have d0 : decide (0 < (k : Int) + 1) = true := decide_eq_true (by omega)
  have d1 : decide ((k : Int) + 1 < (N : Int)) = false := decide_eq_false (by omega)
  clear c1 c3 cx RX hp
  go_enter Tryz.func44, Tryz.ntmps44
  go_wp2
  refine region_below2 (CW.mk (N := w.heap.size) w (Below.refl _ _)) (by kernel_rfl) (by kernel_rfl) ?_
  repeat (first | go_big_quiet_step ((go_at_call 51; first | exact quietB2 HX.out)) | quiet_step ((go_at_call 51; first | exact quietB2 HX.out)))
  refine wpQuiet_nil ?_
  rintro _ ⟨nq, rfl⟩
  go_wp2
  refine region_below2 nq (by kernel_rfl) (by kernel_rfl) ?_
  repeat (first | go_big_quiet_step ((go_at_call 51; first | exact quietB2 HX.out)) | quiet_step ((go_at_call 51; first | exact quietB2 HX.out)))
  refine wpQuiet_nil ?_
  rintro _ ⟨nq2, rfl⟩
  go_wp2
  go_ret
  exact ⟨rfl, nq2.bel⟩
end

theorem overlaps_any {O : Nat → Prop} {B : Nat} {V : Value} {X : List Sn} {c : Ce} {w : World} (h : LiA false w O B V X c) (st : Int) (h0 : 0 ≤ st) (h1 : st ≤ 1024) (P : Nat) (hP : P ≤ X.length) :
    Calls Tryz.prog 44 #[.pointer (some ⟨B, 0, none⟩), .int .i64 st, .int .i64 P] w fun e w' => e = .returned (.bool (o1 c.L c.g st P || o2 c.L c.g st P)) ∧ Below w.heap.size w w' := by
  have hmax : X.length ≤ 1024 := by rw [h.len]; exact h.wf.len
  have c1 := h.cells.2.1
  have hR : ∀ (k : Nat) (x : Sn), X[k]? = some x → ∀ W, Below w.heap.size w W → Calls Tryz.prog 51 #[.pointer (some ⟨x.B, 0, none⟩)] W fun e w' => e = .returned (.agg #[.int .i64 x.m.s, .int .i64 x.m.g]) ∧ Below W.heap.size W w' := fun k x hx W hb => Run_any ((h.below hb).span hx)
  have hS : ∀ (k : Nat) (x : Sn), X[k]? = some x → x.m.s ≤ 1024 := fun k x hx => by have := (h.wf.at (h.at hx)).wf.s1; omega
  rcases P with _ | k
  · rw [show o1 c.L c.g st 0 = false from rfl, Bool.false_or]
    rcases Nat.eq_zero_or_pos X.length with hz | hz
    · obtain ⟨A, cap, rfl⟩ := owns_form h.row
      have c3 := h.cells.2.2.2
      rw [o2_no (List.getElem?_eq_none (by rw [← h.len]; omega))]
      exact ov_b c1 c3 hmax h0 h1 hz
    · obtain ⟨y, hy⟩ : ∃ y, X[0]? = some y := ⟨_, List.getElem?_eq_getElem hz⟩
      obtain ⟨g, cap, rfl, hc⟩ := h.slot hy
      rw [o2_at (h.at hy)]
      exact ov_a c1 h.cells.2.2.2 hmax h0 h1 hz hc (hR 0 y hy) (hS 0 y hy)
  · obtain ⟨x, hx⟩ : ∃ x, X[k]? = some x := ⟨_, List.getElem?_eq_getElem (by omega)⟩
    obtain ⟨g, cap, rfl, hc⟩ := h.slot hx
    have c3 := h.cells.2.2.2
    have ek : ((k + 1 : Nat) : Int) = (k : Int) + 1 := rfl
    rw [o1_at (h.at hx), ek]
    cases hd : decide (st - (x.m.s : Int) < (c.g : Int)) with
    | true =>
      rw [Bool.true_or]
      exact ov_c c1 c3 hmax h0 h1 hc (hR k x hx) (by omega) (hS k x hx) hd
    | false =>
      rw [Bool.false_or]
      rcases Nat.lt_or_ge (k + 1) X.length with hlt | hge
      · obtain ⟨y, hy⟩ : ∃ y, X[k + 1]? = some y := ⟨_, List.getElem?_eq_getElem hlt⟩
        obtain ⟨g', cap', hV, hc'⟩ := h.slot hy
        obtain ⟨rfl, rfl⟩ : g = g' ∧ cap = cap' := by injection hV with e1 _ e2; cases e1; exact ⟨rfl, e2⟩
        rw [o2_at (h.at hy)]
        exact ov_d c1 c3 hmax h0 h1 hc (hR k x hx) (by omega) (hS k x hx) hd hlt hc' (hR (k + 1) y hy) (hS (k + 1) y hy)
      · rw [o2_no (List.getElem?_eq_none (by rw [← h.len]; omega))]
        exact ov_e c1 c3 hmax h0 h1 hc (hR k x hx) (by omega) (hS k x hx) hd (by omega)


end Go.Proofs.YtejfoefhaphacaaGreat
