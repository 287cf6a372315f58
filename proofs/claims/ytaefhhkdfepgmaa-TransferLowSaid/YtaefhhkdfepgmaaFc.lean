/- The statements' helpers: Same, play; the examples of the chapter. -/
import Derived.Test.YtaefhhkdfepgmaaFb
namespace Go.Proofs.Ytaefhhkdfepgmaa
open Go.RowKit Go.Lib

theorem TOb.objs {r : Bool} {w : World} {O : Nat → Prop} {v : Value} {om : Option Tc} (h : TOb r w O v om) : (objT om).length ≤ 480 ∧ lenT om ≤ 8 ∧ lowT om ≤ 8 := by
  cases om with
  | none => exact ⟨Nat.zero_le _, Nat.zero_le _, Nat.zero_le _⟩
  | some c =>
    have hw := h.wf
    have h1 := hw.len
    have h2 := hw.r2
    have h3 := hw.low
    refine ⟨?_, by show c.L.length ≤ 8; omega, by show c.lo ≤ 8; omega⟩
    have := flat_le (L := c.L) (by omega) (fun x hx => by rw [hw.sz x hx]; have := hw.b2; omega) c.L.length
    rw [List.take_of_length_le (Nat.le_refl _)] at this
    exact this

theorem rmV_le {r : Bool} {w : World} {O : Nat → Prop} {v : Value} {om : Option Tc} (h : TOb r w O v om) : (rmV om).length ≤ 60 := by
  cases om with
  | none => exact Nat.zero_le _
  | some c =>
    by_cases he : c.L = []
    · have e1 : rmV (some c) = [] := by show c.L[_]?.getD [] = []; rw [he]; rfl
      rw [e1]; exact Nat.zero_le _
    · have := h.wf.sz _ (List.mem_of_getElem? (last_at he))
      have := h.wf.b2
      omega
theorem outV_le {r : Bool} {w : World} {O : Nat → Prop} {v : Value} {om : Option Tc} (h : TOb r w O v om) (n : Nat) : (outV n om).length ≤ 8 ∧ ∀ x ∈ outV n om, x.length ≤ 60 := by
  cases om with
  | none => exact ⟨Nat.zero_le _, fun x hx => by cases hx⟩
  | some c =>
    refine ⟨?_, fun x hx => ?_⟩
    · show (c.L.take n).length ≤ 8
      rw [List.length_take]
      have := h.wf.len
      have := h.wf.r2
      omega
    · have := h.wf.sz x (List.mem_of_mem_take hx)
      have := h.wf.b2
      omega

set_option maxRecDepth 100000 in
set_option maxHeartbeats 2000000 in
theorem Same_any {w : World} {a b : Value} {om : Option Tc} {O1 O2 : Nat → Prop} (h1 : TOb false w O1 a om) (h2 : TOb true w O2 b om) : Calls Try.prog 16 #[a, b] w (Yes w) := by
  have L1 := Lib.hid (cLen_any h1)
  have L2 := Lib.hid (dLen_any h2)
  have W1 := Lib.hid (cLow_any h1)
  have W2 := Lib.hid (dLow_any h2)
  have B1 := Lib.hid (cObjects_any h1)
  have B2 := Lib.hid (fun W (hb : Below w.heap.size w W) => dObjects_any (h2.below hb))
  have HI := Lib.hid (fun (A A' : Option Addr) (c c' : Nat) (W : World) (P P' : Nat → Prop) (hT : IAt P W A (objT om)) (hT' : IAt P' W A' (objT om)) => Ints_any A A' c c' (objT om) W (by have := h1.objs; omega) hT hT')
  generalize lenT om = ln at *
  generalize lowT om = lw at *
  clear h1 h2
  go_enter Try.func16, Try.ntmps16
  go_wp2_with fail
  refine L1.out.mono ?_
  rintro e _ ⟨rfl, rfl⟩
  go_wp2_with fail
  refine L2.out.mono ?_
  rintro e _ ⟨rfl, rfl⟩
  go_wp2_with fail
  refine W1.out.mono ?_
  rintro e _ ⟨rfl, rfl⟩
  go_wp2_with fail
  refine W2.out.mono ?_
  rintro e _ ⟨rfl, rfl⟩
  go_wp2_with fail
  refine B1.out.mono ?_
  rintro e w1 ⟨A1, c1, rfl, hi, hb⟩
  have P1 := Lib.hid (And.intro hi hb)
  clear hi hb
  go_wp2_with fail
  refine (B2.out _ P1.out.2).mono ?_
  rintro e w2 ⟨A2, c2, rfl, hi, hb⟩
  have P2 := Lib.hid (And.intro hi hb)
  have P3 := Lib.hid (P1.out.1.below hb)
  clear hi hb
  go_wp2_with fail
  refine (HI.out _ _ _ _ _ _ _ P3.out P2.out.1).mono ?_
  rintro e w3 ⟨rfl, hb⟩
  have HB := Lib.hid (btr (btr P1.out.2 P2.out.2 (Nat.le_refl _)) hb (Nat.le_refl _))
  clear hb
  go_wp2_with fail
  go_ret
  exact ⟨rfl, HB.out⟩

/-- What play leaves: both sides are alike again. -/
def PlP (w0 : World) (a b : Value) (om : Option Tc) (e : Ending) (w' : World) : Prop := e = .returned (.bool true) ∧ ∃ O1 O2, Two false true w0 w' a b om om O1 O2
set_option maxRecDepth 100000 in
set_option maxHeartbeats 8000000 in
theorem play_any {w0 w : World} {a b u : Value} {om : Option Tc} {O1 O2 : Nat → Prop} (x : Ak) (h : Two false true w0 w a b om om O1 O2) {N0 : Nat} (hN0' : N0 ≤ w0.heap.size) (hx : AkV w N0 x u) (h60 : x.l.length ≤ 60) :
    Calls Try.prog 15 #[a, b, .agg #[.int .i64 x.k, u]] w (PlP w0 a b (dkD om x)) := by
  have hN0 : N0 ≤ w.heap.size := Nat.le_trans hN0' h.a.bel.size
  obtain ⟨W0, hW, hb0, hz, c0, c1⟩ := newA2 w (.int .i64 x.k) u 34
  have h0 := h.below hb0
  obtain ⟨A, cap, rfl, hzz⟩ := (hx.below (hb0.mono hN0)).v
  have HNN := Lib.hid (And.intro hN0' (Nat.le_trans hN0 hb0.size))
  have HH := Lib.hid h0
  have HOB := Lib.hid h.a.ob
  clear h hb0 hx hN0 hN0'
  obtain ⟨k, l⟩ := x
  dsimp only at *
  have hk : k = 0 ∨ k = 1 ∨ k = 2 ∨ k = 3 ∨ ¬ (k = 0 ∨ k = 1 ∨ k = 2 ∨ k = 3) := by omega
  rcases hk with rfl | rfl | rfl | rfl | hk
  · have HC := Lib.hid (cInsert_any h0.a.ob A cap l h60 hzz)
    have HD := Lib.hid (fun (w1 : World) (ob : TOb true w1 O2 b om) (hz' : IAt (fun k => k < N0) w1 A l) => dInsert_any ob A cap l h60 hz')
    have HZ := Lib.hid hzz
    rw [show dkD om ⟨0, l⟩ = insD om l from rfl]
    clear h0 hzz
    generalize l.length = ll at *
    go_enter Try.func15, Try.ntmps15
    go_wp2_with fail
    refine HC.out.mono ?_
    rintro e w1 ⟨rfl, hM, _⟩
    have HZ1 := Lib.hid (HZ.out.low (hM.2.below HNN.out.2 (fun k hk => Nat.le_trans HNN.out.1 (HH.out.a.nw k hk))))
    have H1 := Lib.hid (HH.out.left hM (fun _ h => h))
    have x0 : w1.cell? ⟨w.heap.size, 1, none⟩ = some (.slice A ll cap) := (World.cell?_of_block (a := ⟨w.heap.size, 1, none⟩) (hM.2.block _ hz (fun h => absurd (HOB.out.lt w.heap.size h) (Nat.lt_irrefl _)))).trans c1
    clear hM
    go_wp2_with fail
    refine (HD.out _ H1.out.b.ob HZ1.out).mono ?_
    rintro e w2 ⟨rfl, hM, _⟩
    have H2 := Lib.hid (H1.out.right hM (fun _ h => h))
    clear hM x0
    generalize insV om l = vv at *
    generalize insE om l = ve at *
    cases vv
    all_goals
      go_wp2_with fail
      go_ret
      exact ⟨by simp, _, _, H2.out⟩
  · have HC := Lib.hid (cRemove_any h0.a.ob)
    rw [show dkD om ⟨1, l⟩ = rmD om from rfl]
    have HI := Lib.hid (fun (A A' : Option Addr) (c c' : Nat) (W : World) (P P' : Nat → Prop) (hT : IAt P W A (rmV om)) (hT' : IAt P' W A' (rmV om)) => Ints_any A A' c c' (rmV om) W (by have := rmV_le HOB.out; omega) hT hT')
    clear h0 hzz
    generalize l.length = ll at *
    go_enter Try.func15, Try.ntmps15
    go_wp2_with fail
    refine HC.out.mono ?_
    rintro e w1 ⟨A1, c1', rfl, hi, hM⟩
    have P1 := Lib.hid hi
    have H1 := Lib.hid (HH.out.left hM HH.out.a.ob.isB)
    clear hi hM
    go_wp2_with fail
    refine (dRemove_any H1.out.b.ob).mono ?_
    rintro e w2 ⟨A2, c2', rfl, hi, hM⟩
    have P2 := Lib.hid hi
    have P3 := Lib.hid (P1.out.keep hM.2 (fun k h1 h2 => H1.out.d k h1.1 (H1.out.b.ob.isB k h2)))
    have H2 := Lib.hid (H1.out.right hM H1.out.b.ob.isB)
    clear hi hM
    go_wp2_with fail
    refine (HI.out _ _ _ _ _ _ _ P3.out P2.out).mono ?_
    rintro e w3 ⟨rfl, hb⟩
    have H3 := Lib.hid (H2.out.below hb)
    clear hb
    go_wp2_with fail
    go_ret
    exact ⟨by simp, _, _, H3.out⟩
  · have HC := Lib.hid (cTick_any h0.a.ob)
    rw [show dkD om ⟨2, l⟩ = outD (half om) om from rfl]
    have HI := Lib.hid (fun (A A' : Option Addr) (c c' : Nat) (W : World) (P P' : Nat → Prop) (hT : LAt P W A (outV (half om) om)) (hT' : LAt P' W A' (outV (half om) om)) => rSame_any A A' c c' (outV (half om) om) W (outV_le HOB.out _).1 (outV_le HOB.out _).2 hT hT')
    clear h0 hzz
    generalize l.length = ll at *
    go_enter Try.func15, Try.ntmps15
    go_wp2_with fail
    refine HC.out.mono ?_
    rintro e w1 ⟨A1, c1', rfl, _, hi, hM⟩
    have P1 := Lib.hid hi
    have H1 := Lib.hid (HH.out.left hM HH.out.a.ob.isB)
    clear hi hM
    go_wp2_with fail
    refine (dTick_any H1.out.b.ob).mono ?_
    rintro e w2 ⟨A2, c2', rfl, _, hi, hM⟩
    have P2 := Lib.hid hi
    have P3 := Lib.hid (P1.out.keep hM.2 (fun k h1 h2 => H1.out.d k h1.1 (H1.out.b.ob.isB k h2)))
    have H2 := Lib.hid (H1.out.right hM H1.out.b.ob.isB)
    clear hi hM
    go_wp2_with fail
    refine (HI.out _ _ _ _ _ _ _ P3.out P2.out).mono ?_
    rintro e w3 ⟨rfl, hb⟩
    have H3 := Lib.hid (H2.out.below hb)
    clear hb
    go_wp2_with fail
    go_ret
    exact ⟨rfl, _, _, H3.out⟩
  · have HC := Lib.hid (cDrain_any h0.a.ob)
    rw [show dkD om ⟨3, l⟩ = outD (lenT om) om from rfl]
    have HI := Lib.hid (fun (A A' : Option Addr) (c c' : Nat) (W : World) (P P' : Nat → Prop) (hT : LAt P W A (outV (lenT om) om)) (hT' : LAt P' W A' (outV (lenT om) om)) => rSame_any A A' c c' (outV (lenT om) om) W (outV_le HOB.out _).1 (outV_le HOB.out _).2 hT hT')
    clear h0 hzz
    generalize l.length = ll at *
    go_enter Try.func15, Try.ntmps15
    go_wp2_with fail
    refine HC.out.mono ?_
    rintro e w1 ⟨A1, c1', rfl, _, hi, hM⟩
    have P1 := Lib.hid hi
    have H1 := Lib.hid (HH.out.left hM HH.out.a.ob.isB)
    clear hi hM
    go_wp2_with fail
    refine (dDrain_any H1.out.b.ob).mono ?_
    rintro e w2 ⟨A2, c2', rfl, _, hi, hM⟩
    have P2 := Lib.hid hi
    have P3 := Lib.hid (P1.out.keep hM.2 (fun k h1 h2 => H1.out.d k h1.1 (H1.out.b.ob.isB k h2)))
    have H2 := Lib.hid (H1.out.right hM H1.out.b.ob.isB)
    clear hi hM
    go_wp2_with fail
    refine (HI.out _ _ _ _ _ _ _ P3.out P2.out).mono ?_
    rintro e w3 ⟨rfl, hb⟩
    have H3 := Lib.hid (H2.out.below hb)
    clear hb
    go_wp2_with fail
    go_ret
    exact ⟨rfl, _, _, H3.out⟩
  · rw [show dkD om ⟨k, l⟩ = om from by unfold dkD; dsimp only; rw [if_neg (by omega), if_neg (by omega), if_neg (by omega), if_neg (by omega)]]
    have k0 : (k == 0) = false := by simp; omega
    have k1 : (k == 1) = false := by simp; omega
    have k2 : (k == 2) = false := by simp; omega
    have k3 : (k == 3) = false := by simp; omega
    clear hk h0 hzz
    generalize l.length = ll at *
    go_enter Try.func15, Try.ntmps15
    go_wp2_with fail
    go_ret
    exact ⟨rfl, _, _, HH.out⟩
end Go.Proofs.Ytaefhhkdfepgmaa
