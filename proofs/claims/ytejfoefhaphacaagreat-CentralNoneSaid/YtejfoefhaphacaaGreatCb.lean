/- Package central: the place of a page, the span of an address, IsTaken, Find. -/
import Derived.Test.YtejfoefhaphacaaGreatCa
namespace Go.Proofs.YtejfoefhaphacaaGreat
open Go.RowKit Go.Shelf

theorem new1 (w : World) (v : Value) (t : TypeId) : ∃ W0, w.alloc (.cells #[v] t) = W0 ∧ Below w.heap.size w W0 ∧ W0.heap.size = w.heap.size + 1 ∧ W0.cell? ⟨w.heap.size, 0, none⟩ = some v := by
  refine ⟨_, rfl, bnew _ _, by simp, ?_⟩
  go_simp
/-- The first page of a run, as the walk asks for it. -/
theorem fld0 (a b : Int) (W : World) : (Instr.field 55 (.agg #[.int .i64 a, .int .i64 b]) 0).run Tryz.prog W = .ok (.int .i64 a) W := by kernel_rfl
theorem tdiv_bd (a : Int) (h : InR a) : InR (a.tdiv 256) := by
  unfold InR at *
  rcases Int.lt_or_le a 0 with h0 | h0
  · have e : a.tdiv 256 = -((-a).tdiv 256) := by rw [Int.neg_tdiv, Int.neg_neg]
    rw [e, Int.tdiv_eq_ediv_of_nonneg (by omega)]
    omega
  · rw [Int.tdiv_eq_ediv_of_nonneg h0]
    omega

set_option maxRecDepth 100000 in
set_option maxHeartbeats 2000000 in
theorem Search_any (g b1 b2 n : Nat) (p : Nat → Bool) (w : World) (hn : n ≤ 1024) (eg : ∀ args w, (callFunc g args).run Tryz.prog w = .ok (.enter g args) w)
    (hf : ∀ (W : World) (i : Nat), Below w.heap.size w W → i < n → Calls Tryz.prog g #[.int .i64 i, .pointer (some ⟨b1, 0, none⟩), .pointer (some ⟨b2, 0, none⟩)] W fun e w' => e = .returned (.bool (p i)) ∧ Below W.heap.size W w')
    (hmono : ∀ a b, a ≤ b → b < n → p a = true → p b = true) :
    Calls Tryz.prog 76 #[.int .i64 n, .func (.func g) #[] #[.pointer (some ⟨b1, 0, none⟩), .pointer (some ⟨b2, 0, none⟩)]] w fun e w' => ∃ k : Nat, e = .returned (.int .i64 k) ∧ k ≤ n ∧ (∀ t, t < k → p t = false) ∧ (∀ t, k ≤ t → t < n → p t = true) ∧ Below w.heap.size w w' := by
  have HF := Lib.hid hf
  have M := Lib.hid hmono
  clear hf hmono
  go_enter Tryz.func76, Tryz.ntmps76
  go_wp2
  go_loopw [5, 6] (fun s5 s6 wr => ∃ lo hi : Nat, s5 = .int .i64 lo ∧ s6 = .int .i64 hi ∧ lo ≤ hi ∧ hi ≤ n ∧ Hid ((∀ t, t < lo → p t = false) ∧ (∀ t, hi ≤ t → t < n → p t = true)) ∧ Below w.heap.size w wr) (fun s5 s6 _ => (intOf s6).toNat - (intOf s5).toNat)
  case atStart => exact ⟨0, n, rfl, rfl, Nat.zero_le _, Nat.le_refl _, (⟨fun t ht => absurd ht (Nat.not_lt_zero _), fun t h1 h2 => by omega⟩ : (∀ t, t < 0 → p t = false) ∧ (∀ t, n ≤ t → t < n → p t = true)), Below.refl _ _⟩
  case round =>
    obtain ⟨lo, hi, rfl, rfl, hlh, hin, I, hB⟩ := hrel
    have HB := Lib.hid hB
    by_cases hlt : lo < hi
    · have hc := HF.out wr ((lo + hi) / 2) hB (by omega)
      rw [show (((lo + hi) / 2 : Nat) : Int) = ((lo : Int) + (hi : Int)) / 2 by omega] at hc
      clear hB
      cases hp : p ((lo + hi) / 2) <;> rw [hp] at hc
      · have HP := Lib.hid hp
        have HC := Lib.hid hc
        clear hp hc
        go_wp2_with (go_at_fn g; refine HC.out.mono ?_; rintro e w' ⟨rfl, hb2⟩; have HB2 := Lib.hid (btr HB.out hb2 (Nat.le_refl _)); clear hb2)
        go_roundw
        case measure => simp [intOf]; omega
        case rel =>
          have I2 := Lib.hid (show (∀ t, t < (lo + hi) / 2 + 1 → p t = false) ∧ (∀ t, hi ≤ t → t < n → p t = true) from ⟨fun t ht => (by
            cases h : p t with
            | false => rfl
            | true => have := M.out t ((lo + hi) / 2) (by omega) (by omega) h; rw [HP.out] at this; cases this), I.out.2⟩)
          exact ⟨(lo + hi) / 2 + 1, hi, by rw [show ((lo : Int) + (hi : Int)) / 2 + 1 = (((lo + hi) / 2 + 1 : Nat) : Int) by omega], rfl, by omega, hin, I2, HB2.out⟩
      · have HP := Lib.hid hp
        have HC := Lib.hid hc
        clear hp hc
        go_wp2_with (go_at_fn g; refine HC.out.mono ?_; rintro e w' ⟨rfl, hb2⟩; have HB2 := Lib.hid (btr HB.out hb2 (Nat.le_refl _)); clear hb2)
        go_roundw
        case measure => simp [intOf]; omega
        case rel =>
          have I2 := Lib.hid (show (∀ t, t < lo → p t = false) ∧ (∀ t, (lo + hi) / 2 ≤ t → t < n → p t = true) from ⟨I.out.1, fun t ht htn => M.out ((lo + hi) / 2) t ht htn HP.out⟩)
          exact ⟨lo, (lo + hi) / 2, rfl, by rw [show ((lo : Int) + (hi : Int)) / 2 = (((lo + hi) / 2 : Nat) : Int) by omega], by omega, by omega, I2, HB2.out⟩
    · obtain rfl : hi = lo := by omega
      clear hB
      go_wp2_with fail
      go_ret
      exact ⟨_, rfl, hin, I.out.1, I.out.2, HB.out⟩

set_option maxRecDepth 100000 in
set_option maxHeartbeats 1000000 in
theorem behind1_any {O : Nat → Prop} {B cap : Nat} {A : Option Addr} {X : List Sn} {c : Ce} {W : World} (h : LiA false W O B (.slice A X.length cap) X c) (b1 b2 : Nat) (page : Int) (x1 : W.cell? ⟨b1, 0, none⟩ = some (.pointer (some ⟨B, 0, none⟩))) (x2 : W.cell? ⟨b2, 0, none⟩ = some (.int .i64 page)) (i : Nat) (x : Sn) (hx : X[i]? = some x) :
    Calls Tryz.prog 77 #[.int .i64 i, .pointer (some ⟨b1, 0, none⟩), .pointer (some ⟨b2, 0, none⟩)] W fun e w' => e = .returned (.bool (decide (page < (x.m.s : Int)))) ∧ Below W.heap.size W w' := by
  obtain ⟨g, cap2, hV, hc⟩ := h.slot hx
  obtain ⟨rfl, rfl⟩ : A = some ⟨g, 0, none⟩ ∧ cap = cap2 := by injection hV; exact ⟨by assumption, by assumption⟩
  have c3 := h.cells.2.2.2
  have HD := Lib.hid (fun W2 (hb : Below W.heap.size W W2) => Run_any ((h.below hb).span hx))
  rw [show runV (some x.m) = .agg #[.int .i64 x.m.s, .int .i64 x.m.g] from rfl] at HD
  have hlt : i < X.length := (List.getElem?_eq_some_iff.1 hx).1
  have G1 := CW.cell (N := W.heap.size) (a := ⟨b1, 0, none⟩) (World.block_lt_of_cell? _ _ x1) x1
  have G2 := CW.cell (N := W.heap.size) (a := ⟨b2, 0, none⟩) (World.block_lt_of_cell? _ _ x2) x2
  have G3 := CW.cell (N := W.heap.size) (a := ⟨B, 3, none⟩) (World.block_lt_of_cell? _ _ c3) c3
  have G4 := CW.cell (N := W.heap.size) (a := ⟨g, i, none⟩) (World.block_lt_of_cell? _ _ hc) hc
  clear h hV hx x1 x2 c3 hc
  generalize X.length = n at *
  generalize x.m.s = sx at *
  generalize x.m.g = gx at *
  have hfld := fld0 sx gx
  go_enter Tryz.func77, Tryz.ntmps77
  go_wp2
  refine region_below W.heap.size (by kernel_rfl) (by kernel_rfl) ?_
  repeat (first | go_big_quiet_step ((go_at_call 51; exact quietB (Nat.le_refl _) (HD.out _ (CW.bel _)))) | quiet_step ((go_at_call 51; exact quietB (Nat.le_refl _) (HD.out _ (CW.bel _)))))
  refine wpQuiet_nil ?_
  rintro _ ⟨nq, rfl⟩
  go_wp2
  go_ret
  exact ⟨rfl, nq.bel⟩

/-- What behind asks of each place. -/
def pB (X : List Sn) (page : Int) (t : Nat) : Bool := match X[t]? with
  | some x => decide (page < (x.m.s : Int))
  | none => true
theorem pB_at {X : List Sn} {page : Int} {t : Nat} {x : Sn} (h : X[t]? = some x) : pB X page t = decide (page < (x.m.s : Int)) := by simp only [pB, h]
theorem LiA.pB {r : Bool} {w : World} {O : Nat → Prop} {B : Nat} {V : Value} {X : List Sn} {c : Ce} (h : LiA r w O B V X c) (page : Int) {t : Nat} (ht : t < X.length) : Go.Proofs.YtejfoefhaphacaaGreat.pB X page t = decide (pos c.L page ≤ t) := by
  obtain ⟨x, hx⟩ : ∃ x, X[t]? = some x := ⟨_, List.getElem?_eq_getElem ht⟩
  have := h.wf.pos page (h.at hx)
  rw [pB_at hx, decide_eq_decide]
  omega

set_option maxRecDepth 100000 in
set_option maxHeartbeats 1000000 in
theorem behind_any {O : Nat → Prop} {B : Nat} {V : Value} {X : List Sn} {c : Ce} {w : World} (h : LiA false w O B V X c) (page : Int) :
    Calls Tryz.prog 43 #[.pointer (some ⟨B, 0, none⟩), .int .i64 page] w fun e w' => e = .returned (.int .i64 (pos c.L page : Nat)) ∧ Below w.heap.size w w' := by
  obtain ⟨A, cap, rfl⟩ := owns_form h.row
  obtain ⟨W0, hW0, hb0, hz0, x0⟩ := new1 w (.pointer (some ⟨B, 0, none⟩)) 27
  obtain ⟨W1, hW1, hb1, hz1, x1⟩ := new1 W0 (.int .i64 page) 3
  have hb : Below w.heap.size w W1 := btr hb0 hb1 (Nat.le_refl _)
  have x0' : W1.cell? ⟨w.heap.size, 0, none⟩ = some (.pointer (some ⟨B, 0, none⟩)) := (hb1.cell (p := ⟨w.heap.size, 0, none⟩) (by rw [hz0]; exact Nat.lt_succ_self _)).trans x0
  have h1 := h.below hb
  have c3 := h1.cells.2.2.2
  have hlen := h.len
  have hmax := h.wf.len
  have HSR := Lib.hid (Search_any 77 w.heap.size W0.heap.size X.length (pB X page) W1 (by omega) (enters_of Tryz.func77 (by kernel_rfl) rfl) (fun W i hbW hi => by
    obtain ⟨x, hx⟩ : ∃ x, X[i]? = some x := ⟨_, List.getElem?_eq_getElem hi⟩
    rw [pB_at hx]
    exact behind1_any (h1.below hbW) _ _ page ((hbW.cell (p := ⟨w.heap.size, 0, none⟩) (World.block_lt_of_cell? _ _ x0')).trans x0') ((hbW.cell (p := ⟨W0.heap.size, 0, none⟩) (World.block_lt_of_cell? _ _ x1)).trans x1) i x hx)
    (fun a b hab hbn hp => by rw [h1.pB page (by omega)] at hp; rw [h1.pB page hbn]; simp only [decide_eq_true_eq] at *; omega))
  have HE := Lib.hid (fun (k : Nat) (hk : k ≤ X.length) (h2 : ∀ t, t < k → pB X page t = false) (h3 : ∀ t, k ≤ t → t < X.length → pB X page t = true) => show k = pos c.L page from by
    have hp := pos_le c.L page
    rcases Nat.lt_trichotomy k (pos c.L page) with hlt | heq | hgt
    · have := h3 k (Nat.le_refl _) (by omega)
      rw [h1.pB page (by omega)] at this
      simp only [decide_eq_true_eq] at this
      omega
    · exact heq
    · have := h2 (pos c.L page) hgt
      rw [h1.pB page (by omega)] at this
      simp at this)
  have HB := Lib.hid hb
  clear h h1 hb0 hb1 hb x0 x1 hlen hmax hz0 hz1
  generalize X.length = n at *
  go_enter Tryz.func43, Tryz.ntmps43
  go_wp2_with (go_at_call 76; refine HSR.out.mono ?_; rintro e w2 ⟨k, rfl, hk, h2, h3, hb2⟩; have HK := Lib.hid (HE.out k hk h2 h3); have HB2 := Lib.hid (btr HB.out hb2 (Nat.le_refl _)); clear hk h2 h3 hb2)
  go_ret
  exact ⟨ret_int (congrArg (fun n : Nat => (n : Int)) HK.out), HB2.out⟩

theorem spanOf_none {O : Nat → Prop} {v : Value} {w : World} (h : NoL w O v) (a : Int) :
    Calls Tryz.prog 49 #[v, .int .i64 a] w fun e w' => e = .returned (.tuple #[.pointer none, .int .i64 5]) ∧ Below w.heap.size w w' := by
  have HM := Lib.hid (cmade_no h)
  clear h
  go_enter Tryz.func49, Tryz.ntmps49
  go_wp2_with (go_at_call 21; refine HM.out.mono ?_; rintro e w1 ⟨rfl, rfl⟩)
  go_ret2
  exact ⟨rfl, Below.refl _ _⟩
set_option maxRecDepth 100000 in
set_option maxHeartbeats 1000000 in
theorem spanOf_no {O : Nat → Prop} {B : Nat} {V : Value} {X : List Sn} {c : Ce} {w : World} (h : LiA false w O B V X c) (a : Int) (ha : InR a) (hp : pos c.L (a.tdiv 256) = 0) :
    Calls Tryz.prog 49 #[.pointer (some ⟨B, 0, none⟩), .int .i64 a] w fun e w' => e = .returned (.tuple #[.pointer none, .int .i64 8]) ∧ Below w.heap.size w w' := by
  have HM := Lib.hid (cmade_any h)
  have HP := Lib.hid (behind_any h (a.tdiv 256))
  obtain ⟨f1, f2⟩ := w64 (a.tdiv 256) (tdiv_bd a ha)
  rw [show ((pos c.L (a.tdiv 256) : Nat) : Int) = 0 by rw [hp]; rfl] at HP
  clear h hp ha
  go_enter Tryz.func49, Tryz.ntmps49
  go_wp2_with (first | (go_at_call 21; refine HM.out.mono ?_; rintro e w1 ⟨rfl, rfl⟩) | (go_at_call 43; refine HP.out.mono ?_; rintro e w1 ⟨rfl, hb⟩; have HB := Lib.hid hb; clear hb))
  go_ret2
  exact ⟨rfl, HB.out⟩
set_option maxRecDepth 100000 in
set_option maxHeartbeats 1000000 in
theorem spanOf_at {O : Nat → Prop} {B : Nat} {V : Value} {X : List Sn} {c : Ce} {w : World} (h : LiA false w O B V X c) (a : Int) (ha : InR a) (i : Nat) (x : Sn) (hx : X[i]? = some x) (hp : pos c.L (a.tdiv 256) = i + 1) :
    Calls Tryz.prog 49 #[.pointer (some ⟨B, 0, none⟩), .int .i64 a] w fun e w' => e = .returned (.tuple #[.pointer (some ⟨x.B, 0, none⟩), .int .i64 0]) ∧ Below w.heap.size w w' := by
  have HM := Lib.hid (cmade_any h)
  have HP := Lib.hid (behind_any h (a.tdiv 256))
  obtain ⟨f1, f2⟩ := w64 (a.tdiv 256) (tdiv_bd a ha)
  obtain ⟨g, cap2, hV, hc⟩ := h.slot hx
  rw [hV] at h
  have c3 := h.cells.2.2.2
  have HC := Lib.hid (fun (W : World) (hb : Below w.heap.size w W) => And.intro ((hb.cell (p := ⟨B, 3, none⟩) (World.block_lt_of_cell? _ _ c3)).trans c3) ((hb.cell (p := ⟨g, i, none⟩) (World.block_lt_of_cell? _ _ hc)).trans hc))
  have hlt : i < X.length := (List.getElem?_eq_some_iff.1 hx).1
  have hmax : X.length ≤ 1024 := by rw [h.len]; exact h.wf.len
  rw [show ((pos c.L (a.tdiv 256) : Nat) : Int) = (i : Int) + 1 by rw [hp]; rfl] at HP
  clear h hp ha hV c3 hc hx
  generalize X.length = n at *
  generalize x.B = xb at *
  have hp0 : ((i : Int) + 1 == 0) = false := by simp; omega
  obtain ⟨e1, e2⟩ := w64 (i : Int) (by omega)
  obtain ⟨e3, e4⟩ := w64 ((i : Int) + 1 - 1) (by omega)
  go_enter Tryz.func49, Tryz.ntmps49
  go_wp2_with (first | (go_at_call 21; refine HM.out.mono ?_; rintro e w1 ⟨rfl, rfl⟩) | (go_at_call 43; refine HP.out.mono ?_; rintro e w1 ⟨rfl, hb⟩; have HB := Lib.hid hb; obtain ⟨d1, d2⟩ := HC.out _ hb; clear hb))
  go_ret2
  exact ⟨rfl, HB.out⟩

theorem li_no {c : Ce} (h : CWf c) {a : Int} (hp : pos c.L (a.tdiv 256) = 0) : liV (some c) a = false ∧ liE (some c) a = 8 ∧ fdV (some c) a = 0 ∧ fdE (some c) a = 8 := by
  have h1 := h.sp_no (a := a) (fun i m e => by omega)
  have h2 := h.bi_no (a := a) (fun i m e => by omega)
  exact ⟨liV_none h1, liE_none h1, fdV_none h2, fdE_none h2⟩
theorem li_at {c : Ce} (h : CWf c) {a : Int} {i : Nat} {m : Mo} (hm : c.L[i]? = some m) (hp : pos c.L (a.tdiv 256) = i + 1) : liV (some c) a = isV (some m) a ∧ liE (some c) a = isE (some m) a := by
  cases e : obO m a with
  | none =>
    have h1 := h.sp_no (a := a) (fun j x ej hx => by obtain rfl : j = i := by omega
                                                     rw [hm] at hx; cases hx; exact e)
    exact ⟨by rw [liV_none h1, isV_none e], by rw [liE_none h1, isE_none e]⟩
  | some k =>
    have h1 := h.spn hm e
    exact ⟨liV_some h1 hm, by rw [liE_some h1, isE_some e]⟩
theorem fd_no {c : Ce} (h : CWf c) {a : Int} {i : Nat} {m : Mo} (hm : c.L[i]? = some m) (hp : pos c.L (a.tdiv 256) = i + 1) (e : idO m a = none) : fdV (some c) a = 0 ∧ fdE (some c) a = 8 := by
  have h1 := h.bi_no (a := a) (fun j x ej hx => by obtain rfl : j = i := by omega
                                                   rw [hm] at hx; cases hx; exact e)
  exact ⟨fdV_none h1, fdE_none h1⟩
theorem fd_at {c : Ce} (h : CWf c) {a : Int} {i k : Nat} {m : Mo} (hm : c.L[i]? = some m) (e : idO m a = some k) : fdV (some c) a = adr m k ∧ fdE (some c) a = 0 := by
  have h1 := h.bi hm e
  exact ⟨by rw [fdV_some h1 hm, ixV_some e]; rfl, fdE_some h1⟩

set_option maxRecDepth 100000 in
set_option maxHeartbeats 1000000 in
theorem cIsTaken_any {O : Nat → Prop} {v : Value} {om : Option Ce} {w : World} (h : LOb false w O v om) (a : Int) (ha : InR a) :
    Calls Tryz.prog 32 #[v, .int .i64 a] w fun e w' => e = .returned (.tuple #[.bool (liV om a), .int .i64 (liE om a)]) ∧ Below w.heap.size w w' := by
  cases om with
  | none =>
    have HS := Lib.hid (spanOf_none h.1 a)
    clear h
    go_enter Tryz.func32, Tryz.ntmps32
    go_wp2_with (go_at_call 49; refine HS.out.mono ?_; rintro e w1 ⟨rfl, hb⟩; have HB := Lib.hid hb; clear hb)
    go_ret2
    exact ⟨rfl, HB.out⟩
  | some c =>
    obtain ⟨B, V, X, rfl, h⟩ := h
    rcases Nat.eq_zero_or_pos (pos c.L (a.tdiv 256)) with hp | hp
    · have HS := Lib.hid (spanOf_no h a ha hp)
      obtain ⟨e1, e2, _, _⟩ := li_no h.wf hp
      rw [e1, e2]
      clear h e1 e2 hp
      go_enter Tryz.func32, Tryz.ntmps32
      go_wp2_with (go_at_call 49; refine HS.out.mono ?_; rintro e w1 ⟨rfl, hb⟩; have HB := Lib.hid hb; clear hb)
      go_ret2
      exact ⟨rfl, HB.out⟩
    · obtain ⟨i, hi⟩ : ∃ i, pos c.L (a.tdiv 256) = i + 1 := ⟨_, (Nat.succ_pred_eq_of_pos hp).symm⟩
      have := pos_le c.L (a.tdiv 256)
      obtain ⟨x, hx⟩ := h.get (i := i) (by omega)
      have HS := Lib.hid (spanOf_at h a ha i x hx hi)
      obtain ⟨e1, e2⟩ := li_at h.wf (h.at hx) hi
      rw [e1, e2]
      have HT := Lib.hid (fun W (hb : Below w.heap.size w W) => IsTaken_any ((h.below hb).span hx) a ha)
      clear h e1 e2 hp hi hx this
      generalize isV (some x.m) a = q1 at *
      generalize isE (some x.m) a = q2 at *
      generalize x.B = xb at *
      go_enter Tryz.func32, Tryz.ntmps32
      go_wp2_with (first | (go_at_call 49; refine HS.out.mono ?_; rintro e w1 ⟨rfl, hb⟩; have HB := Lib.hid hb; clear hb) | (go_at_call 70; refine (HT.out _ HB.out).mono ?_; rintro e w2 ⟨rfl, hb⟩; have HB2 := Lib.hid (btr HB.out hb (Nat.le_refl _)); clear hb))
      go_ret2
      exact ⟨rfl, HB2.out⟩

set_option maxRecDepth 100000 in
set_option maxHeartbeats 1000000 in
theorem cFind_any {O : Nat → Prop} {v : Value} {om : Option Ce} {w : World} (h : LOb false w O v om) (a : Int) (ha : InR a) :
    Calls Tryz.prog 30 #[v, .int .i64 a] w fun e w' => e = .returned (.tuple #[.int .i64 (fdV om a), .int .i64 (fdE om a)]) ∧ Below w.heap.size w w' := by
  cases om with
  | none =>
    have HS := Lib.hid (spanOf_none h.1 a)
    clear h
    go_enter Tryz.func30, Tryz.ntmps30
    go_wp2_with (go_at_call 49; refine HS.out.mono ?_; rintro e w1 ⟨rfl, hb⟩; have HB := Lib.hid hb; clear hb)
    go_ret2
    exact ⟨rfl, HB.out⟩
  | some c =>
    obtain ⟨B, V, X, rfl, h⟩ := h
    rcases Nat.eq_zero_or_pos (pos c.L (a.tdiv 256)) with hp | hp
    · have HS := Lib.hid (spanOf_no h a ha hp)
      obtain ⟨_, _, e1, e2⟩ := li_no h.wf hp
      rw [e1, e2]
      clear h e1 e2 hp
      go_enter Tryz.func30, Tryz.ntmps30
      go_wp2_with (go_at_call 49; refine HS.out.mono ?_; rintro e w1 ⟨rfl, hb⟩; have HB := Lib.hid hb; clear hb)
      go_ret2
      exact ⟨rfl, HB.out⟩
    · obtain ⟨i, hi⟩ : ∃ i, pos c.L (a.tdiv 256) = i + 1 := ⟨_, (Nat.succ_pred_eq_of_pos hp).symm⟩
      have := pos_le c.L (a.tdiv 256)
      obtain ⟨x, hx⟩ := h.get (i := i) (by omega)
      have HS := Lib.hid (spanOf_at h a ha i x hx hi)
      have HT := Lib.hid (fun W (hb : Below w.heap.size w W) => Index_any ((h.below hb).span hx) a ha)
      have HR := Lib.hid (fun W (hb : Below w.heap.size w W) => Run_any ((h.below hb).span hx))
      rw [show runV (some x.m) = .agg #[.int .i64 x.m.s, .int .i64 x.m.g] from rfl] at HR
      cases hid : idO x.m a with
      | none =>
        obtain ⟨e1, e2⟩ := fd_no h.wf (h.at hx) hi hid
        rw [ixV_none hid, ixE_none hid] at HT
        rw [e1, e2]
        clear h e1 e2 hp hi hx this hid HR
        generalize x.B = xb at *
        go_enter Tryz.func30, Tryz.ntmps30
        go_wp2_with (first | (go_at_call 49; refine HS.out.mono ?_; rintro e w1 ⟨rfl, hb⟩; have HB := Lib.hid hb; clear hb) | (go_at_call 67; refine (HT.out _ HB.out).mono ?_; rintro e w2 ⟨rfl, hb⟩; have HB2 := Lib.hid (btr HB.out hb (Nat.le_refl _)); clear hb))
        go_ret2
        exact ⟨rfl, HB2.out⟩
      | some k =>
        obtain ⟨e1, e2⟩ := fd_at h.wf (h.at hx) hid
        rw [ixV_some hid, ixE_some hid] at HT
        rw [e1, e2]
        have hof := h.wf.at (h.at hx)
        have hk := (idO_get hof.wf hid).1
        obtain ⟨q1, q2, q3⟩ := adrW hof.wf (Nat.le_of_lt hk)
        have HA := Lib.hid (adrI x.m k)
        have c0 := h.cells.1
        have HC := Lib.hid (fun (W : World) (hb : Below w.heap.size w W) => (hb.cell (p := ⟨B, 0, none⟩) (World.block_lt_of_cell? _ _ c0)).trans c0)
        rw [hof.z] at q2 q3 HA
        clear h e1 e2 hp hi hx this hid hof hk c0
        generalize adr x.m k = ak at *
        generalize x.B = xb at *
        generalize x.m.s = sx at *
        generalize x.m.g = gx at *
        generalize c.z = zc at *
        have hfld := fld0 sx gx
        go_enter Tryz.func30, Tryz.ntmps30
        go_wp2_with (first | (go_at_call 49; refine HS.out.mono ?_; rintro e w1 ⟨rfl, hb⟩; have HB := Lib.hid hb; clear hb) | (go_at_call 67; refine (HT.out _ HB.out).mono ?_; rintro e w2 ⟨rfl, hb⟩; have HB2 := Lib.hid (btr HB.out hb (Nat.le_refl _)); clear hb))
        have g0 := HC.out _ HB2.out
        have G0 := CW.cell (N := w2.heap.size) (a := ⟨B, 0, none⟩) (World.block_lt_of_cell? _ _ g0) g0
        have HR2 := Lib.hid (fun W (hb : Below w2.heap.size w2 W) => HR.out W (btr HB2.out hb (Nat.le_refl _)))
        clear g0
        refine region_below w2.heap.size (by kernel_rfl) (by kernel_rfl) ?_
        repeat (first | go_big_quiet_step ((go_at_call 51; exact quietB (Nat.le_refl _) (HR2.out _ (CW.bel _)))) | quiet_step ((go_at_call 51; exact quietB (Nat.le_refl _) (HR2.out _ (CW.bel _)))))
        refine wpQuiet_nil ?_
        rintro _ ⟨nq, rfl⟩
        go_wp2
        go_ret2
        exact ⟨ret_two HA.out rfl, btr HB2.out nq.bel (Nat.le_refl _)⟩

end Go.Proofs.YtejfoefhaphacaaGreat
