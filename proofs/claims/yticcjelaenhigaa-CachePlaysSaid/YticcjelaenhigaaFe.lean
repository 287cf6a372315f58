/- The statements' helpers: play. -/
import Derived.Test.YticcjelaenhigaaFd
import Derived.Test.YticcjelaenhigaaRm
namespace Go.Proofs.Yticcjelaenhigaa
open Go.RowKit Go.Lib

theorem ptV_le {r : Bool} {w : World} {O : Nat → Prop} {v : Value} {om : Option Tc} {x a : Int} (_ : TOb r w O v om) : (ptV om x a).length ≤ 257 := by
  unfold ptV
  cases hk : atK om x with
  | none => exact Nat.zero_le _
  | some k =>
    dsimp only
    split
    · exact Nat.zero_le _
    · rename_i hb
      unfold ptL
      split
      · exact Nat.zero_le _
      · rw [List.length_take, List.length_append, List.length_singleton]; omega
/-- What play leaves: both sides are alike again. -/
def PlP (w0 : World) (a b : Value) (om : Option Tc) (e : Ending) (w' : World) : Prop := e = .returned (.bool true) ∧ ∃ O1 O2, Two false true w0 w' a b om om O1 O2
set_option maxRecDepth 100000 in
set_option maxHeartbeats 8000000 in
theorem play_any {w0 w : World} {a b u : Value} {om : Option Tc} {O1 O2 : Nat → Prop} (x : Ak) (h : Two false true w0 w a b om om O1 O2) {N0 : Nat} (hN0' : N0 ≤ w0.heap.size) (hx : AkV w N0 x u) :
    Calls Try.prog 20 #[a, b, .agg #[.int .i64 x.k, .int .i64 x.c, .int .i64 x.a, u]] w (PlP w0 a b (dkD om x)) := by
  have hN0 : N0 ≤ w.heap.size := Nat.le_trans hN0' h.a.bel.size
  obtain ⟨kk, kc, ka, l⟩ := x
  dsimp only
  obtain ⟨W0, hW, hb0, hz, c0, c1, c2, c3⟩ := newA4 w (.int .i64 kk) (.int .i64 kc) (.int .i64 ka) u 35
  have h0 := h.below hb0
  have hx0 := hx.below (hb0.mono hN0)
  obtain ⟨A, cap, rfl, hzz⟩ := hx0.v
  dsimp only at hzz
  have hxc : InR kc := hx0.c
  have hxa : InR ka := hx0.a
  have hxn : l.length ≤ 9223372036854775807 := hx0.n
  have hN00 : N0 ≤ W0.heap.size := Nat.le_trans hN0 hb0.size
  have HH := Lib.hid h0
  have HOB := Lib.hid h.a.ob
  have HZ := Lib.hid hzz
  have HNN := Lib.hid (And.intro hN0' hN00)
  have HX1 := Lib.hid (fun (W : World) (hk : Keep O1 W0 W) => show W.cell? ⟨w.heap.size, 1, none⟩ = some (.int .i64 kc) ∧ W.cell? ⟨w.heap.size, 2, none⟩ = some (.int .i64 ka) ∧ W.cell? ⟨w.heap.size, 3, none⟩ = some (.slice A l.length cap) from by
    have hb := hk.block w.heap.size hz (fun hx => absurd (h.a.ob.lt _ hx) (Nat.lt_irrefl _))
    exact ⟨(World.cell?_of_block (a := ⟨w.heap.size, 1, none⟩) hb).trans c1, (World.cell?_of_block (a := ⟨w.heap.size, 2, none⟩) hb).trans c2, (World.cell?_of_block (a := ⟨w.heap.size, 3, none⟩) hb).trans c3⟩)
  have HX2 := Lib.hid (fun (W W' : World) (hk : Keep O1 W0 W) (O : Nat → Prop) (ho : ∀ g, O g → ¬ O2 g → False) (hk2 : Keep O W W') => show W'.cell? ⟨w.heap.size, 1, none⟩ = some (.int .i64 kc) ∧ W'.cell? ⟨w.heap.size, 3, none⟩ = some (.slice A l.length cap) from by
    have hb := hk.block w.heap.size hz (fun hx => absurd (h.a.ob.lt _ hx) (Nat.lt_irrefl _))
    have hb2 := hk2.block w.heap.size (Nat.lt_of_lt_of_le hz hk.size) (fun hx => ho _ hx (fun hx => absurd (h.b.ob.lt _ hx) (Nat.lt_irrefl _)))
    exact ⟨(World.cell?_of_block (a := ⟨w.heap.size, 1, none⟩) (hb2.trans hb)).trans c1, (World.cell?_of_block (a := ⟨w.heap.size, 3, none⟩) (hb2.trans hb)).trans c3⟩)
  by_cases k0 : kk = 0
  · subst k0
    rw [(dk0 om ⟨0, kc, ka, l⟩ rfl).1]
    have HC := Lib.hid (cTake_any h0.a.ob hxc)
    have HD := Lib.hid (fun (w1 : World) (ob : TOb true w1 O2 b om) => dTake_any (x := kc) ob)
    unfold TkP at HC HD
    dsimp only
    generalize tkV om kc = tv at *
    generalize tkE om kc = te at *
    generalize tkD om kc = od at *
    clear h h0 hx hx0 hzz hb0 hN0 hxc hxa hxn hN00 hN0'
    generalize l.length = ll at *
    go_enter Try.func20, Try.ntmps20
    go_wp2_with fail
    refine HC.out.mono ?_
    rintro e w1 ⟨rfl, hM, _⟩
    have H1 := Lib.hid (HH.out.left hM.1 (fun _ h => h) hM.2)
    obtain ⟨x1, x2, x3⟩ := HX1.out _ hM.2
    clear hM
    go_wp2_with fail
    refine (HD.out _ H1.out.b.ob).mono ?_
    rintro e w2 ⟨rfl, hM, _⟩
    have H2 := Lib.hid (H1.out.right hM.1 (fun _ h => h) hM.2)
    clear hM
    go_wp2_with fail
    go_ret
    exact ⟨by simp, _, _, H2.out⟩
  by_cases k1 : kk = 1
  · subst k1
    rw [(dk1 om ⟨1, kc, ka, l⟩ rfl).1]
    have HC := Lib.hid (cWant_any h0.a.ob hxc)
    have HD := Lib.hid (fun (w1 : World) (ob : TOb true w1 O2 b om) => dWant_any (x := kc) ob)
    unfold WtP at HC HD
    generalize wtV om kc = tv at *
    generalize errK om kc = te at *
    clear h h0 hx hx0 hzz hb0 hN0 hxc hxa hxn hN00 hN0'
    generalize l.length = ll at *
    go_enter Try.func20, Try.ntmps20
    go_wp2_with fail
    refine HC.out.mono ?_
    rintro e w1 ⟨rfl, hM⟩
    have H1 := Lib.hid (HH.out.below hM)
    obtain ⟨x1, x2, x3⟩ := HX1.out _ (Keep.of hM)
    clear hM
    go_wp2_with fail
    refine (HD.out _ H1.out.b.ob).mono ?_
    rintro e w2 ⟨rfl, hM⟩
    have H2 := Lib.hid (H1.out.below hM)
    clear hM
    go_wp2_with fail
    go_ret
    exact ⟨by simp, _, _, H2.out⟩
  by_cases k2 : kk = 2
  · subst k2
    rw [(dk2 om ⟨2, kc, ka, l⟩ rfl).1]
    have HC := Lib.hid (fun (W : World) (hb : Below W0.heap.size W0 W) => cFill_any (c' := cap) (h0.a.ob.below hb) hxc (hzz.low (hb.mono hN00)) (fun g hg ho => by have := h0.a.nw g ho; have hg : g < N0 := hg; omega) hxn)
    have HD := Lib.hid (fun (w1 : World) (ob : TOb true w1 O2 b om) (hz' : IAt (fun k => k < N0) w1 A l) => dFill_any (x := kc) (c' := cap) ob hz' (fun g hg ho => by have := h0.b.nw g ho; have hg : g < N0 := hg; omega) hxn)
    unfold FlP at HC HD
    dsimp only
    generalize flE om kc l = te at *
    generalize flD om kc l = od at *
    have HLO := Lib.hid (fun (W : World) (hk : Keep O1 W0 W) => hzz.low (hk.below hN00 (fun k hk => Nat.le_trans hN0' (h0.a.nw k hk))))
    clear h h0 hx hx0 hzz hb0 hN0 hxc hxa hxn hN00 hN0'
    generalize l.length = ll at *
    go_enter Try.func20, Try.ntmps20
    go_wp2_with fail
    go_region_held3 (fun w' => w'.cell? ⟨w.heap.size, 1, none⟩ = some (.int .i64 kc) ∧ w'.cell? ⟨w.heap.size, 3, none⟩ = some (.slice A ll cap))
      (first | exact ⟨c1, c3⟩ | exact ⟨(HX1.out _ HK1.out).1, (HX1.out _ HK1.out).2.2⟩ | exact HX2.out _ _ HK1.out O2 (fun g h1 h2 => h2 h1) HK2.out)
      (first
        | (go_at_call 26; refine (HC.out _ (belowN (Below.refl _ _) 1)).mono ?_; rintro e w1 ⟨rfl, hM⟩; have HTW := Lib.hid ((HH.out.below (belowN (Below.refl _ W0) 1)).left hM.1 (fun _ h => h) hM.2); have HK1 := Lib.hid ((Keep.of (O := O1) (belowN (Below.refl _ W0) 1)).trans (hM.2.mono fun _ _ h => .inl h)); clear hM)
        | (go_at_call 46; refine (HD.out _ HTW.out.b.ob (HLO.out _ HK1.out)).mono ?_; rintro e w2 ⟨rfl, hM⟩; have HT2 := Lib.hid (HTW.out.right hM.1 (fun _ h => h) hM.2); have HK2 := Lib.hid hM.2; clear hM))
    all_goals
      go_wp2_with fail
      go_ret
      exact ⟨by simp, _, _, HT2.out⟩
  by_cases k3 : kk = 3
  · subst k3
    rw [(dk3 om ⟨3, kc, ka, l⟩ rfl).1]
    have HC := Lib.hid (cPut_any h0.a.ob hxc hxa)
    have HD := Lib.hid (fun (w1 : World) (ob : TOb true w1 O2 b om) => dPut_any (x := kc) ob hxa)
    have HLE := ptV_le (x := kc) (a := ka) h.a.ob
    have HI := Lib.hid (fun (A A' : Option Addr) (c c' : Nat) (W : World) (P P' : Nat → Prop) (hT : IAt P W A (ptV om kc ka)) (hT' : IAt P' W A' (ptV om kc ka)) => Ints_any A A' c c' (ptV om kc ka) W (by omega) hT hT')
    unfold PtP at HC HD
    dsimp only
    generalize ptE om kc = te at *
    generalize ptD om kc ka = od at *
    generalize ptV om kc ka = lv at *
    clear h h0 hx hx0 hzz hb0 hN0 hxc hxa hxn hN00 hN0' HLE
    generalize l.length = ll at *
    go_enter Try.func20, Try.ntmps20
    go_wp2_with fail
    refine HC.out.mono ?_
    rintro e w1 ⟨A1, c9, rfl, O', m1, m2, m3, m4⟩
    have H1 := Lib.hid (HH.out.left m1 m2 m3)
    have P1 := Lib.hid m4
    obtain ⟨x1, x2, x3⟩ := HX1.out _ m3
    clear m1 m2 m3 m4
    go_wp2_with fail
    refine (HD.out _ H1.out.b.ob).mono ?_
    rintro e w2 ⟨A2, c8, rfl, O'', m1, m2, m3, m4⟩
    have H2 := Lib.hid (H1.out.right m1 m2 m3)
    have P2 := Lib.hid m4
    have P3 := Lib.hid (P1.out.keep m3 (fun g h1 h2 => by have := HH.out.b.ob.lt g h2; have := h1.1; omega))
    clear m1 m2 m3 m4
    go_wp2_with fail
    refine (HI.out _ _ _ _ _ _ _ P3.out P2.out).mono ?_
    rintro e w3 ⟨rfl, hb⟩
    have H3 := Lib.hid (H2.out.below hb)
    clear hb
    go_wp2_with fail
    go_ret
    exact ⟨by simp, _, _, H3.out⟩
  by_cases k4 : kk = 4
  · subst k4
    rw [(dk4 om ⟨4, kc, ka, l⟩ rfl).1]
    have HC := Lib.hid (cScavenge_any h0.a.ob)
    have HD := Lib.hid (fun (w1 : World) (ob : TOb true w1 O2 b om) => dScavenge_any ob)
    have HLE := batV_le h.a.ob scavV_le
    have HI := Lib.hid (fun (A A' : Option Addr) (c c' : Nat) (W : World) (P P' : Nat → Prop) (hT : BAt P W A (batV scavV om)) (hT' : BAt P' W A' (batV scavV om)) => rSame_any A A' c c' (batV scavV om) W HLE.1 (fun x hx => (HLE.2 x hx).2) hT hT')
    unfold RmsP at HC HD
    clear HLE
    generalize mapK scavK om = od at *
    generalize batV scavV om = lv at *
    clear h h0 hx hx0 hzz hb0 hN0 hxc hxa hxn hN00 hN0'
    generalize l.length = ll at *
    go_enter Try.func20, Try.ntmps20
    go_wp2_with fail
    refine HC.out.mono ?_
    rintro e w1 ⟨A1, c9, rfl, O', m1, m2, m3, m4⟩
    have H1 := Lib.hid (HH.out.left m1 m2 m3)
    have P1 := Lib.hid m4
    clear m1 m2 m3 m4
    go_wp2_with fail
    refine (HD.out _ H1.out.b.ob).mono ?_
    rintro e w2 ⟨A2, c8, rfl, O'', m1, m2, m3, m4⟩
    have H2 := Lib.hid (H1.out.right m1 m2 m3)
    have P2 := Lib.hid m4
    have P3 := Lib.hid (P1.out.keep m3 (fun g h1 h2 => by have := HH.out.b.ob.lt g h2; have := h1.1; omega))
    clear m1 m2 m3 m4
    go_wp2_with fail
    refine (HI.out _ _ _ _ _ _ _ P3.out P2.out).mono ?_
    rintro e w3 ⟨rfl, hb⟩
    have H3 := Lib.hid (H2.out.below hb)
    clear hb
    go_wp2_with fail
    go_ret
    exact ⟨rfl, _, _, H3.out⟩
  by_cases k5 : kk = 5
  · subst k5
    rw [(dk5 om ⟨5, kc, ka, l⟩ rfl).1]
    have HC := Lib.hid (cDrain_any h0.a.ob)
    have HD := Lib.hid (fun (w1 : World) (ob : TOb true w1 O2 b om) => dDrain_any ob)
    have HLE := batV_le h.a.ob drainV_le
    have HI := Lib.hid (fun (A A' : Option Addr) (c c' : Nat) (W : World) (P P' : Nat → Prop) (hT : BAt P W A (batV drainV om)) (hT' : BAt P' W A' (batV drainV om)) => rSame_any A A' c c' (batV drainV om) W HLE.1 (fun x hx => (HLE.2 x hx).2) hT hT')
    unfold RmsP at HC HD
    clear HLE
    generalize mapK drainK om = od at *
    generalize batV drainV om = lv at *
    clear h h0 hx hx0 hzz hb0 hN0 hxc hxa hxn hN00 hN0'
    generalize l.length = ll at *
    go_enter Try.func20, Try.ntmps20
    go_wp2_with fail
    refine HC.out.mono ?_
    rintro e w1 ⟨A1, c9, rfl, O', m1, m2, m3, m4⟩
    have H1 := Lib.hid (HH.out.left m1 m2 m3)
    have P1 := Lib.hid m4
    clear m1 m2 m3 m4
    go_wp2_with fail
    refine (HD.out _ H1.out.b.ob).mono ?_
    rintro e w2 ⟨A2, c8, rfl, O'', m1, m2, m3, m4⟩
    have H2 := Lib.hid (H1.out.right m1 m2 m3)
    have P2 := Lib.hid m4
    have P3 := Lib.hid (P1.out.keep m3 (fun g h1 h2 => by have := HH.out.b.ob.lt g h2; have := h1.1; omega))
    clear m1 m2 m3 m4
    go_wp2_with fail
    refine (HI.out _ _ _ _ _ _ _ P3.out P2.out).mono ?_
    rintro e w3 ⟨rfl, hb⟩
    have H3 := Lib.hid (H2.out.below hb)
    clear hb
    go_wp2_with fail
    go_ret
    exact ⟨rfl, _, _, H3.out⟩
  rw [(dk6 om ⟨kk, kc, ka, l⟩ (by dsimp only; omega)).1]
  have b0 : (kk == 0) = false := by simpa using k0
  have b1 : (kk == 1) = false := by simpa using k1
  have b2 : (kk == 2) = false := by simpa using k2
  have b3 : (kk == 3) = false := by simpa using k3
  have b4 : (kk == 4) = false := by simpa using k4
  have b5 : (kk == 5) = false := by simpa using k5
  clear h h0 hx hx0 hzz hb0 hN0 hxc hxa hxn hN00 hN0'
  generalize l.length = ll at *
  go_enter Try.func20, Try.ntmps20
  go_wp2_with fail
  go_ret
  exact ⟨rfl, _, _, HH.out⟩
end Go.Proofs.Yticcjelaenhigaa
