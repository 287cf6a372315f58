/- put. -/
import Derived.Test.YtnmejilpifmlnaaDoorLc
namespace Go.Proofs.YtnmejilpifmlnaaDoor
open Go.RowKit

set_option maxRecDepth 100000 in
set_option maxHeartbeats 1000000 in
theorem put_any {O : Nat → Prop} {B : Nat} {m : Mo} {w : World} (s k : Nat) (h : Hp w O B m) (hk : k < ords m.n) (hm : s % 2 ^ k = 0) (hle : s + 2 ^ k ≤ m.n) (hno : ∀ p, s ≤ p → p < s + 2 ^ k → m.F p = false) :
    Calls Tryd.prog 66 #[.pointer (some ⟨B, 0, none⟩), .agg #[.int .i64 s, .int .i64 k]] w fun e w' => e = .returned (.tuple #[]) ∧ Mut w O B ⟨m.n, setF m.F s (s + 2 ^ k) true⟩ w' := by
  obtain ⟨A, cap, mb, h⟩ := h
  have hn2 := h.wf.n2
  have hK := (h.wf.K).2.1
  obtain ⟨W0, hW⟩ : ∃ W, w.alloc (.cells #[.int .i64 s, .int .i64 k] 73) = W := ⟨_, rfl⟩
  have hb0 : Below w.heap.size w W0 := by rw [← hW]; exact bnew _ _
  obtain ⟨g2, g3⟩ := two_cells w w.heap.size (.int .i64 s) (.int .i64 k) 73 rfl
  obtain ⟨f2, f3⟩ := two_free w w.heap.size (.int .i64 s) (.int .i64 k) 73 rfl
  rw [hW] at g2 g3 f2 f3
  obtain ⟨G, hG⟩ : ∃ G, setF m.F s (s + 2 ^ k) true = G := ⟨_, rfl⟩
  rw [hG]
  obtain ⟨Z, hZ⟩ : ∃ Z, w.heap.size = Z := ⟨_, rfl⟩
  have h1w := h.tb.lt
  have hP0 : PutIn w O B A cap mb m.n G Z W0 m.F s k := ⟨h.below hb0, Keep.of hb0, ⟨fun i hi => by
      rw [← hZ]
      have : i = 0 ∨ i = 1 := by omega
      rcases this with rfl | rfl
      · exact g2
      · exact g3, fun i hi => by
      rw [← hZ]
      have : i = 0 ∨ i = 1 := by omega
      rcases this with rfl | rfl
      · exact f2
      · exact f3⟩, hk, hm, hle, hno, hG, by omega, fun ho => by have := h.lt _ ho; omega, by omega⟩
  have HP0 := Lib.hid hP0
  have hs1 : s ≤ 1024 := by omega
  have hk1 : k ≤ 11 := by omega
  obtain ⟨P, p1, p2, e1, e2, hx⟩ := xor_facts hk1 hs1 hm
  obtain ⟨S0, hS0⟩ : ∃ S0, sib k s = S0 := ⟨_, rfl⟩
  have HS0 := Lib.hid hS0
  rw [hS0] at hx
  rw [hZ] at g2 g3
  obtain ⟨n, hn⟩ : ∃ n, m.n = n := ⟨_, rfl⟩
  rw [hn] at HP0 hn2 ⊢
  clear h hb0 hno hG hm hle hP0 hk h1w f2 f3 hS0 hn hK
  go_enter Tryd.func66, Tryd.ntmps66
  go_wp2
  go_quiet (fail)
  go_wp2
  clear e1 e2 hx g2 g3
  obtain ⟨W1, hW1⟩ : ∃ W1, W0.drewN nq = W1 := ⟨_, rfl⟩
  have HP1 := Lib.hid (show PutIn w O B A cap mb n G Z W1 m.F s k by rw [← hW1]; exact HP0.out.below (belowN (Below.refl _ _) _))
  rw [hW1]
  clear hW1 HP0
  go_loopw [4] (fun v wr => ∃ (F : Nat → Bool) (s k : Nat), v = .int .i64 (sib k s : Nat) ∧ PutIn w O B A cap mb n G Z wr F s k) (fun _ wr => mz Z wr)
  case atStart => exact ⟨_, s, k, by rw [HS0.out], HP1.out⟩
  case round =>
    clear HP1 HS0
    obtain ⟨F, s, k, rfl, hP⟩ := hrel
    have HP := Lib.hid hP
    have hA := hP.hp
    have hkK := hP.kK
    have hn1 := hA.wf.n1
    have hKl := (hA.wf.K).2.1
    have hsl := hP.le
    have hcap := hA.cp
    have c1 := hA.c1
    have a0 := hA.a0 (k := k) hkK
    have z0 := hP.cl.cell 0 (by omega)
    have z1 := hP.cl.cell 1 (by omega)
    have f0 := hP.cl.free 0 (by omega)
    have f1 := hP.cl.free 1 (by omega)
    simp only [if_true, if_neg (show ¬ (1 : Nat) = 0 by omega)] at z0 z1
    obtain ⟨m0, m1, m2, m3⟩ := sib_facts hP.md
    have hk2 : k ≤ 11 := by simp only at hKl; omega
    have hs2 : s ≤ 1024 := by omega
    have hpw := pow_le_2048 hk2
    have hq2 : sib k s ≤ 100000 := by omega
    have hask := ask_nat (hA.s k hkK) (s := sib k s) hq2
    have hask2 : ∀ n, (Instr.lookup 64 (.map (some (mb k))) (.int .i64 (sib k s : Nat)) false).run Tryd.prog (wr.drewN n) = .ok (.bool (decide (Bk F k (sib k s)))) (wr.drewN n) := fun n => ask_nat ((hA.s k hkK).drewN n) hq2
    have HA := Lib.hid hA
    have HM := Lib.hid (And.intro m0 (And.intro m1 (And.intro m2 m3)))
    by_cases hb : Bk F k (sib k s)
    · have HB := Lib.hid hb
      rw [decide_eq_true hb] at hask
      simp only [decide_eq_true hb] at hask2
      have HJ := Lib.hid (fun w1 => hP.join (w1 := w1) hb)
      have hq := bk_le hA.wf.f hb
      simp only at hq
      obtain ⟨Q, hQ⟩ : ∃ Q, sib k s = Q := ⟨_, rfl⟩
      have HQ := Lib.hid hQ
      rw [hQ] at hask hq2 ⊢
      simp only [hQ] at hask2
      have hi1 : (k : Int) < (ords n : Int) := by omega
      clear hA hP hb hkK hn1 hsl m0 m1 m2 m3 hpw hq hQ
      simp only at c1
      have HSK := Lib.hid (HA.out.s k (show k < ords n by omega))
      generalize ords n = K at hi1 hKl hcap c1
      go_wp2
      go_quiet (fail)
      go_wp2
      obtain ⟨W2, hdel, hset, hgr⟩ := set_del (w := wr.drewN (nq + 1)) (HSK.out.of_block rfl) hq2
      have HSET := Lib.hid hset
      have HGR := Lib.hid hgr
      clear hset hgr hask hask2
      go_region
      have hPn := HP.out.below (belowN (Below.refl wr.heap.size wr) (nq + 1))
      obtain ⟨y0, y1, y2, y3⟩ := hPn.box HGR.out
      have HPN := Lib.hid hPn
      have hm4 : min s Q % 2 ^ (k + 1) = 0 := by
        obtain ⟨m0, m1, m2, m3⟩ := HM.out
        rw [← HQ.out, ← m1]; exact fl_mod _ _
      have hk3 : k + 1 ≤ 11 := by
        have := ((HPN.out.join HB.out HGR.out (by rw [HQ.out]; exact HSET.out)).1)
        have := (ords_facts HPN.out.hp.wf.n1 HPN.out.hp.wf.n2).2.1
        simp only at this
        omega
      obtain ⟨P', p1', p2', e1', e2', hx'⟩ := xor_facts hk3 (show min s Q ≤ 1024 by omega) hm4
      have HE2 := Lib.hid e2'
      obtain ⟨S1, hS1⟩ : ∃ S, sib (k + 1) (min s Q) = S := ⟨_, rfl⟩
      rw [hS1] at hx'
      have HS1 := Lib.hid hS1
      clear hPn hdel z0 z1 f0 f1 c1 a0 hS1 hm4 e2'
      rcases Nat.le_total s Q with hsq | hsq
      · have hmin : min s Q = s := Nat.min_eq_left hsq
        have HMIN := Lib.hid hmin
        have hsq' : (s : Int) ≤ (Q : Int) := by clear e1'; omega
        rw [hmin] at hx'
        clear hmin hsq
        go_wp2
        go_quiet (fail)
        go_wp2
        go_roundw
        case rel => exact (HPN.out.round HP.out HB.out HGR.out HSET.out HQ.out HMIN.out HS1.out).1
        case measure => exact (HPN.out.round HP.out HB.out HGR.out HSET.out HQ.out HMIN.out HS1.out).2
      · have hmin : min s Q = Q := Nat.min_eq_right hsq
        have HMIN := Lib.hid hmin
        have hsq' : ¬ (s : Int) ≤ (Q : Int) := by
          clear e1'
          obtain ⟨m0, m1, m2, m3⟩ := HM.out
          have := HQ.out
          have := Nat.two_pow_pos k
          omega
        have hs3 : Q ≤ 1024 := by clear e1'; omega
        rw [hmin] at hx'
        clear hmin hsq
        go_wp2
        go_quiet (fail)
        go_wp2
        go_roundw
        case rel => exact (HPN.out.round HP.out HB.out HGR.out HSET.out HQ.out HMIN.out HS1.out).1
        case measure => exact (HPN.out.round HP.out HB.out HGR.out HSET.out HQ.out HMIN.out HS1.out).2
    · have HB := Lib.hid hb
      rw [decide_eq_false hb] at hask
      simp only [decide_eq_false hb] at hask2
      have HL := Lib.hid (fun w1 => hP.last (w1 := w1) hb)
      obtain ⟨Q, hQ⟩ : ∃ Q, sib k s = Q := ⟨_, rfl⟩
      have HQ := Lib.hid hQ
      rw [hQ] at hask hq2 ⊢
      simp only [hQ] at hask2
      have hi1 : (k : Int) < (ords n : Int) := by omega
      have hno : ¬ Bk F k s := fun h => by
        have := hP.no s (Nat.le_refl _) (by have := Nat.two_pow_pos k; omega)
        rw [h.at (Nat.le_refl _) (by have := Nat.two_pow_pos k; omega)] at this
        cases this
      have HNO := Lib.hid hno
      clear hA hP hb hkK hn1 hsl m0 m1 m2 m3 hpw hQ hno
      simp only at c1
      have HSK := Lib.hid (HA.out.s k (show k < ords n by omega))
      generalize ords n = K at hi1 hKl hcap c1
      go_wp2
      go_quiet (fail)
      go_wp2
      have hPn := HP.out.below (belowN (Below.refl wr.heap.size wr) (nq + 1))
      obtain ⟨W2, hput, hset, hgr⟩ := set_put (w := wr.drewN (nq + 1)) (HSK.out.of_block rfl) HA.out.wf.f HA.out.wf.n2 hs2 HNO.out
      have HFIN := Lib.hid (hPn.last HB.out hgr hset)
      clear hset hgr hask hask2 hPn
      go_region
      go_end0
      exact ⟨rfl, HFIN.out⟩

end Go.Proofs.YtnmejilpifmlnaaDoor
