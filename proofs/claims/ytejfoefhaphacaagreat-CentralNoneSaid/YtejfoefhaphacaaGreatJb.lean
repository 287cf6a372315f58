/- The statements' helper: a call on both. -/
import Derived.Test.YtejfoefhaphacaaGreatJa
namespace Go.Proofs.YtejfoefhaphacaaGreat
open Go.RowKit Go.Sort Go.Shelf Go.Lib

/-- What play leaves: both sides are alike again. -/
def PlP (w0 : World) (a b : Value) (om : Option Ce) (e : Ending) (w' : World) : Prop := e = .returned (.bool true) ∧ ∃ O1 O2, TwR w0 w' a b om om O1 O2
theorem cell_keep {w w' : World} {O : Nat → Prop} {g i : Nat} {u : Value} (h : w.cell? ⟨g, i, none⟩ = some u) (hk : Keep O w w') (hl : g < w.heap.size) (ho : ¬ O g) : w'.cell? ⟨g, i, none⟩ = some u := (World.cell?_of_block (a := ⟨g, i, none⟩) (hk.block g hl ho)).trans h

set_option maxRecDepth 100000 in
set_option maxHeartbeats 8000000 in
theorem play_any {w0 w : World} {a b u : Value} {om : Option Ce} {O1 O2 : Nat → Prop} (x : Ak) (h : TwR w0 w a b om om O1 O2) {N0 : Nat} (hN0' : N0 ≤ w0.heap.size) (hx : AkV w N0 x u) (h60 : x.l.length ≤ 60) :
    Calls Tryz.prog 11 #[a, b, .agg #[.int .i64 x.k, .int .i64 x.a, u]] w (PlP w0 a b (dkD om x)) := by
  have hN0 : N0 ≤ w.heap.size := Nat.le_trans hN0' h.a.bel.size
  obtain ⟨W0, hW, hb0, hz, c0, c1, c2⟩ := newA3 w (.int .i64 x.k) (.int .i64 x.a) u 36
  have h0 := h.below hb0
  obtain ⟨A, cap, rfl, hzz⟩ := (hx.below (hb0.mono hN0)).v
  have hax := hx.a
  have HNN := Lib.hid (And.intro hN0' (Nat.le_trans hN0 hb0.size))
  have HH := Lib.hid h0
  have HO1 := Lib.hid (show ¬ O1 w.heap.size from fun h' => absurd (h.a.ob.lt w.heap.size h') (Nat.lt_irrefl _))
  have HO2 := Lib.hid (show ¬ O2 w.heap.size from fun h' => absurd (h.b.ob.lt w.heap.size h') (Nat.lt_irrefl _))
  have HZl := Lib.hid hz
  have HZ := Lib.hid hzz
  have HZ1 := Lib.hid (fun (w1 : World) (hk : Keep O1 W0 w1) => show ZAt w1 N0 A x.l from hzz.below (hk.below (Nat.le_trans hN0 hb0.size) (fun k hk => Nat.le_trans hN0' (h.a.nw k hk))))
  clear h hb0 hx hN0 hN0'
  obtain ⟨k, n, l⟩ := x
  dsimp only at *
  have hk : k = 0 ∨ k = 1 ∨ k = 2 ∨ k = 3 ∨ k = 4 ∨ k = 5 ∨ ¬ (k = 0 ∨ k = 1 ∨ k = 2 ∨ k = 3 ∨ k = 4 ∨ k = 5) := by omega
  rcases hk with rfl | rfl | rfl | rfl | rfl | rfl | hk
  · have HA := Lib.hid (fun W (hb : Below W0.heap.size W0 W) => cAdd_any (HH.out.below hb).a.ob n)
    have HR := Lib.hid (fun (W w1 : World) (hb : Below W0.heap.size W0 W) (hM : LMut false W O1 a (adD om n) w1) => dAdd_any ((HH.out.below hb).left hM).b.ob n)
    have HCK := Lib.hid (fun (W w1 : World) (hb : Below W0.heap.size W0 W) (hM : LMut false W O1 a (adD om n) w1) => cell_keep (g := w.heap.size) (i := 1) ((hb.cell (p := ⟨w.heap.size, 1, none⟩) HZl.out).trans c1) hM.2 (Nat.lt_of_lt_of_le HZl.out hb.size) HO1.out)
    have HCK2 := Lib.hid (fun (W w1 w2 : World) (hb : Below W0.heap.size W0 W) (hM : LMut false W O1 a (adD om n) w1) (hM2 : LMut true w1 O2 b (adD om n) w2) => cell_keep (g := w.heap.size) (i := 1) (HCK.out W w1 hb hM) hM2.2 (Nat.lt_of_lt_of_le HZl.out (Nat.le_trans hb.size hM.2.size)) HO2.out)
    rw [show dkD om ⟨0, n, l⟩ = adD om n from rfl]
    clear h0 hzz
    generalize l.length = ll at *
    generalize adE om n = te at *
    generalize adD om n = om' at *
    go_enter Tryz.func11, Tryz.ntmps11
    go_wp2_with fail
    go_region_held3 (fun w' => w'.cell? ⟨w.heap.size, 1, none⟩ = some (.int .i64 n)) (first | exact c1 | exact HCK.out _ _ (belowN (Below.refl _ _) _) hM1 | exact HCK2.out _ _ _ (belowN (Below.refl _ _) _) hM1 hM2)
      (first
      | (go_at_call 13; refine (HA.out _ (belowN (Below.refl _ _) _)).mono ?_; rintro e w1 ⟨rfl, hM1⟩)
      | (go_at_call 25; refine (HR.out _ _ (belowN (Below.refl _ _) _) hM1).mono ?_; rintro e w2 ⟨rfl, hM2⟩))
    have HF := Lib.hid (((HH.out.below (belowN (Below.refl _ _) _)).left hM1).right hM2)
    clear hM1 hM2
    go_wp2_with fail
    go_ret
    exact ⟨ret_bool (by simp), _, _, HF.out⟩
  · have HC := Lib.hid (cTake_any h0.a.ob n hax)
    have HD := Lib.hid (fun (w1 : World) (ob : LOb true w1 O2 b om) => dTake_any ob n hax)
    have HI := Lib.hid (fun (A A' : Option Addr) (c c' : Nat) (W : World) (hl : (tkR om n).length ≤ 32768) (hT : LAt W A (tkR om n)) (hT' : LAt W A' (tkR om n)) => Ints_any A A' c c' (tkR om n) W hl hT hT')
    rw [show dkD om ⟨1, n, l⟩ = tkDr om n from rfl]
    clear h0 hzz
    generalize l.length = ll at *
    generalize tkEr om n = te at *
    go_enter Tryz.func11, Tryz.ntmps11
    go_wp2_with fail
    refine HC.out.mono ?_
    rintro e w1 ⟨A1, c1', rfl, hi, hN, hM⟩
    have P1 := Lib.hid (And.intro hi (And.intro hN.1 (tkR_le hM.1)))
    have H1 := Lib.hid (HH.out.left hM)
    have x0 := cell_keep c1 hM.2 HZl.out HO1.out
    clear hi hN hM
    go_wp2_with fail
    refine (HD.out _ H1.out.b.ob).mono ?_
    rintro e w2 ⟨A2, c2', rfl, hi, hN, hM⟩
    have P2 := Lib.hid hi
    have P3 := Lib.hid (lat_keep P1.out.1 hM.2 (HH.out.apart P1.out.2.1))
    have H2 := Lib.hid (H1.out.right hM)
    clear hi hN hM x0
    go_wp2_with fail
    refine (HI.out _ _ _ _ _ P1.out.2.2 P3.out P2.out).mono ?_
    rintro e w3 ⟨rfl, hb⟩
    have H3 := Lib.hid (H2.out.below hb)
    clear hb
    go_wp2_with fail
    go_ret
    exact ⟨ret_bool (by simp), _, _, H3.out⟩
  · have HC := Lib.hid (cPut_any h0.a.ob A cap l h60 HNN.out.2 (fun k hk => Nat.le_trans HNN.out.1 (HH.out.a.nw k hk)) hzz)
    have HD := Lib.hid (fun (w1 : World) (hs : W0.heap.size ≤ w1.heap.size) (ob : LOb true w1 O2 b om) (hz' : ZAt w1 N0 A l) => dPut_any ob A cap l h60 (Nat.le_trans HNN.out.2 hs) hz')
    have HI := Lib.hid (fun (A A' : Option Addr) (c c' : Nat) (W : World) (hT : RsAt W A (ptVr om l)) (hT' : RsAt W A' (ptVr om l)) => RunsEq_any A A' c c' (ptVr om l) W (ptVr_le HH.out.a.ob l) hT hT')
    rw [show dkD om ⟨2, n, l⟩ = ptDr om l from rfl]
    clear h0 hzz
    generalize l.length = ll at *
    generalize ptEr om l = te at *
    go_enter Tryz.func11, Tryz.ntmps11
    go_wp2_with fail
    refine HC.out.mono ?_
    rintro e w1 ⟨A1, c1', rfl, hi, hN, hM⟩
    have P1 := Lib.hid (And.intro hi hN.1)
    have H1 := Lib.hid (HH.out.left hM)
    have HS := Lib.hid (And.intro hM.2.size (HZ1.out w1 hM.2))
    have x0 := cell_keep c2 hM.2 HZl.out HO1.out
    clear hi hN hM
    go_wp2_with fail
    refine (HD.out _ HS.out.1 H1.out.b.ob HS.out.2).mono ?_
    rintro e w2 ⟨A2, c2', rfl, hi, hN, hM⟩
    have P2 := Lib.hid hi
    have P3 := Lib.hid (rs_keep P1.out.1 hM.2 (HH.out.apart P1.out.2))
    have H2 := Lib.hid (H1.out.right hM)
    clear hi hN hM x0
    go_wp2_with fail
    refine (HI.out _ _ _ _ _ P3.out P2.out).mono ?_
    rintro e w3 ⟨rfl, hb⟩
    have H3 := Lib.hid (H2.out.below hb)
    clear hb
    go_wp2_with fail
    go_ret
    exact ⟨ret_bool (by simp), _, _, H3.out⟩
  · have HC := Lib.hid (cSweep_any h0.a.ob)
    have HI := Lib.hid (fun (A A' : Option Addr) (c c' : Nat) (W : World) (hT : RsAt W A (swV om)) (hT' : RsAt W A' (swV om)) => RunsEq_any A A' c c' (swV om) W (swV_le HH.out.a.ob) hT hT')
    rw [show dkD om ⟨3, n, l⟩ = swD om from rfl]
    clear h0 hzz
    generalize l.length = ll at *
    go_enter Tryz.func11, Tryz.ntmps11
    go_wp2_with fail
    refine HC.out.mono ?_
    rintro e w1 ⟨A1, c1', rfl, hi, hN, hM⟩
    have P1 := Lib.hid (And.intro hi hN.1)
    have H1 := Lib.hid (HH.out.left hM)
    clear hi hN hM
    go_wp2_with fail
    refine (dSweep_any H1.out.b.ob).mono ?_
    rintro e w2 ⟨A2, c2', rfl, hi, hN, hM⟩
    have P2 := Lib.hid hi
    have P3 := Lib.hid (rs_keep P1.out.1 hM.2 (HH.out.apart P1.out.2))
    have H2 := Lib.hid (H1.out.right hM)
    clear hi hN hM
    go_wp2_with fail
    refine (HI.out _ _ _ _ _ P3.out P2.out).mono ?_
    rintro e w3 ⟨rfl, hb⟩
    have H3 := Lib.hid (H2.out.below hb)
    clear hb
    go_wp2_with fail
    go_ret
    exact ⟨rfl, _, _, H3.out⟩
  · have HC := Lib.hid (cFind_any h0.a.ob n hax)
    have HD := Lib.hid (fun (w1 : World) (hb : Below W0.heap.size W0 w1) => dFind_any (HH.out.below hb).b.ob n)
    have HX := Lib.hid (fun (w1 : World) (hb : Below W0.heap.size W0 w1) => (hb.cell (p := ⟨w.heap.size, 1, none⟩) HZl.out).trans c1)
    rw [show dkD om ⟨4, n, l⟩ = om from rfl]
    clear h0 hzz
    generalize l.length = ll at *
    generalize fdV om n = tv at *
    generalize fdE om n = te at *
    go_enter Tryz.func11, Tryz.ntmps11
    go_wp2_with fail
    refine HC.out.mono ?_
    rintro e w1 ⟨rfl, hb1⟩
    have HB1 := Lib.hid hb1
    have x0 := HX.out _ hb1
    clear hb1
    go_wp2_with fail
    refine (HD.out _ HB1.out).mono ?_
    rintro e w2 ⟨rfl, hb2⟩
    have HB2 := Lib.hid (btr HB1.out hb2 (Nat.le_refl _))
    clear hb2 x0
    go_wp2_with fail
    go_ret
    exact ⟨ret_bool (by simp), _, _, HH.out.below HB2.out⟩
  · have HC := Lib.hid (cIsTaken_any h0.a.ob n hax)
    have HD := Lib.hid (fun (w1 : World) (hb : Below W0.heap.size W0 w1) => dIsTaken_any (HH.out.below hb).b.ob n)
    have HX := Lib.hid (fun (w1 : World) (hb : Below W0.heap.size W0 w1) => (hb.cell (p := ⟨w.heap.size, 1, none⟩) HZl.out).trans c1)
    rw [show dkD om ⟨5, n, l⟩ = om from rfl]
    clear h0 hzz
    generalize l.length = ll at *
    generalize liV om n = tv at *
    generalize liE om n = te at *
    go_enter Tryz.func11, Tryz.ntmps11
    go_wp2_with fail
    refine HC.out.mono ?_
    rintro e w1 ⟨rfl, hb1⟩
    have HB1 := Lib.hid hb1
    have x0 := HX.out _ hb1
    clear hb1
    go_wp2_with fail
    refine (HD.out _ HB1.out).mono ?_
    rintro e w2 ⟨rfl, hb2⟩
    have HB2 := Lib.hid (btr HB1.out hb2 (Nat.le_refl _))
    clear hb2 x0
    cases tv
    all_goals
      go_wp2_with fail
      go_ret
      exact ⟨ret_bool (by simp), _, _, HH.out.below HB2.out⟩
  · rw [show dkD om ⟨k, n, l⟩ = om from by unfold dkD; dsimp only; rw [if_neg (by omega), if_neg (by omega), if_neg (by omega), if_neg (by omega)]]
    have k0 : (k == 0) = false := by simp; omega
    have k1 : (k == 1) = false := by simp; omega
    have k2 : (k == 2) = false := by simp; omega
    have k3 : (k == 3) = false := by simp; omega
    have k4 : (k == 4) = false := by simp; omega
    have k5 : (k == 5) = false := by simp; omega
    clear hk h0 hzz
    generalize l.length = ll at *
    go_enter Tryz.func11, Tryz.ntmps11
    go_wp2_with fail
    go_ret
    exact ⟨rfl, _, _, HH.out⟩
end Go.Proofs.YtejfoefhaphacaaGreat
