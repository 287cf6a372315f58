/- give, take. -/
import Derived.Test.YtnmejilpifmlnaaDoorLd
namespace Go.Proofs.YtnmejilpifmlnaaDoor
open Go.RowKit

theorem give_ord {k e n : Nat} (hk : k < e) (he : e ≤ n) (h1 : 1 ≤ n) (h2 : n ≤ 1024) : 1 ≤ Lib.bitLen (e - k) ∧ Lib.bitLen (e - k) ≤ 11 ∧ Lib.ctz 64 k ≤ 64 ∧
    ∀ j, j ≤ Lib.ctz 64 k → j ≤ Lib.bitLen (e - k) - 1 → k % 2 ^ j = 0 ∧ k + 2 ^ j ≤ e ∧ j < ords n ∧ j ≤ 10 := by
  obtain ⟨a, b, c⟩ := Lib.bitLenAux_bounds 64 (e - k) (by omega) (by omega)
  have hd : Lib.bitLen (e - k) = Lib.bitLenAux 64 (e - k) := rfl
  have hl := Lib.bitLen_le (e - k) 11 (by omega) (by omega)
  obtain ⟨t1, t2⟩ := ctz_facts k (by omega)
  rw [hd] at hl ⊢
  refine ⟨a, hl, t1, fun j h3 h4 => ?_⟩
  have hp := pow_le h4
  refine ⟨mod_le h3 t2, by omega, ?_, by omega⟩
  have ho := (ords_facts h1 h2).2.2.1
  rcases Nat.lt_or_ge j (ords n) with hlt | hge
  · exact hlt
  · have := pow_le hge
    omega

set_option maxRecDepth 100000 in
set_option maxHeartbeats 1000000 in
theorem give_any {O : Nat → Prop} {B : Nat} {m : Mo} {w : World} (s e : Nat) (h : Hp w O B m) (he : e ≤ m.n) (hs : s ≤ 1024) (hno : ∀ p, s ≤ p → p < e → m.F p = false) :
    Calls Tryd.prog 53 #[.pointer (some ⟨B, 0, none⟩), .int .i64 s, .int .i64 e] w fun x w' => x = .returned (.tuple #[]) ∧ Mut w O B ⟨m.n, setF m.F s e true⟩ w' := by
  have hn1 := h.wf.n1
  have hn2 := h.wf.n2
  have HH := Lib.hid h
  have HNO := Lib.hid hno
  have HE := Lib.hid he
  have he2 : e ≤ 1024 := by omega
  have HN1 := Lib.hid (And.intro hn1 hn2)
  clear h hno he hn1 hn2
  go_enter Tryd.func53, Tryd.ntmps53
  go_wp2
  go_loopw [1] (fun v wr => ∃ k : Nat, v = .int .i64 k ∧ s ≤ k ∧ (k ≤ e ∨ k = s) ∧ k ≤ 1024 ∧ Mut w O B ⟨m.n, setF m.F s k true⟩ wr) (fun v _ => e - (intOf v).toNat)
  case atStart => exact ⟨s, rfl, Nat.le_refl _, .inr rfl, hs, by rw [setF_none (Nat.le_refl _)]; exact Mut.same HH.out (Below.refl _ _)⟩
  case round =>
    obtain ⟨k, rfl, hk1, hk2, hk3, hM⟩ := hrel
    have HM := Lib.hid hM
    by_cases hlt : k < e
    · obtain ⟨b1, b2, b3, b4⟩ := give_ord hlt HE.out HN1.out.1 HN1.out.2
      have HT := Lib.hid (tz_any k (by omega) wr hM.1.tb)
      have HL := Lib.hid (len_any (e - k) wr (by omega))
      rw [show ((e - k : Nat) : Int) = (e : Int) - (k : Int) from by omega] at HL
      have HPUT := Lib.hid (fun j (h1 : j ≤ Lib.ctz 64 k) (h2 : j ≤ Lib.bitLen (e - k) - 1) => put_any k j hM.1 (b4 j h1 h2).2.2.1 (b4 j h1 h2).1 (Nat.le_trans (b4 j h1 h2).2.1 HE.out) (fun p p1 p2 => by
        have := (b4 j h1 h2).2.1
        show setF m.F s k true p = false
        rw [setF_out (by omega)]
        exact HNO.out p (by omega) (by omega)))
      have HB4 := Lib.hid b4
      generalize Lib.ctz 64 k = c at HT HPUT b3 HB4
      obtain ⟨d, hd⟩ : ∃ d, Lib.bitLen (e - k) = d + 1 := ⟨Lib.bitLen (e - k) - 1, by omega⟩
      rw [hd] at HL HPUT b2 HB4
      have hd1 : d ≤ 10 := by omega
      have ed : ((d + 1 : Nat) : Int) = (d : Int) + 1 := by omega
      rw [ed] at HL
      clear hM b1 b2 b4 hd ed
      by_cases hcd : c ≤ d
      · obtain ⟨g1, g2, g3, g4⟩ := HB4.out c (Nat.le_refl _) hcd
        have HP := Lib.hid (HPUT.out c (Nat.le_refl _) hcd)
        obtain ⟨P, hP, p1, p2, e1, e2⟩ := two_pow (k := c) (by omega)
        rw [← hP] at HP g2
        have HPP := Lib.hid hP
        have HE1 := Lib.hid e1
        clear hP g1 g3 HPUT HB4 e1
        have hj10 : c ≤ 10 := g4
        have hkp : (k : Int) + (P : Int) ≤ 1024 := by clear e2; omega
        have hcd' : (c : Int) ≤ (d : Int) := by clear e2; omega
        go_wp2_with (first | (go_at_call 65; refine HT.out.mono ?_; rintro x _ ⟨rfl, rfl⟩) | (go_at_call 32; refine HL.out.mono ?_; rintro x _ ⟨rfl, rfl⟩) | (go_at_call 66; refine HP.out.mono ?_; rintro x w1 ⟨rfl, hM1⟩; have HM1 := Lib.hid hM1; clear hM1))
        go_roundw
        case rel =>
          refine ⟨k + P, by go_num, by omega, .inl g2, by omega, ?_⟩
          have := HM.out.trans HM1.out
          rwa [setF_join hk1 (by omega)] at this
        case measure => simp [intOf]; omega
      · obtain ⟨g1, g2, g3, g4⟩ := HB4.out d (by omega) (Nat.le_refl _)
        have HP := Lib.hid (HPUT.out d (by omega) (Nat.le_refl _))
        obtain ⟨P, hP, p1, p2, e1, e2⟩ := two_pow (k := d) (by omega)
        rw [← hP] at HP g2
        have HPP := Lib.hid hP
        have HE1 := Lib.hid e1
        clear hP g1 g3 HPUT HB4 e1
        have hj10 : d ≤ 10 := g4
        have hkp : (k : Int) + (P : Int) ≤ 1024 := by clear e2; omega
        have hcd' : ¬ (c : Int) ≤ (d : Int) := by clear e2; omega
        go_wp2_with (first | (go_at_call 65; refine HT.out.mono ?_; rintro x _ ⟨rfl, rfl⟩) | (go_at_call 32; refine HL.out.mono ?_; rintro x _ ⟨rfl, rfl⟩) | (go_at_call 66; refine HP.out.mono ?_; rintro x w1 ⟨rfl, hM1⟩; have HM1 := Lib.hid hM1; clear hM1))
        go_roundw
        case rel =>
          refine ⟨k + P, by go_num, by omega, .inl g2, by omega, ?_⟩
          have := HM.out.trans HM1.out
          rwa [setF_join hk1 (by omega)] at this
        case measure => simp [intOf]; omega
    · go_wp2
      go_end0
      refine ⟨rfl, ?_⟩
      have := HM.out
      rcases hk2 with hk2 | rfl
      · obtain rfl : k = e := by omega
        exact this
      · rw [setF_none (by omega)]
        rwa [setF_none (Nat.le_refl _)] at this

theorem below_drew {N : Nat} {w W : World} (h : Below N w W) : Below N w W.drew := ⟨h.os, h.tape, h.output, h.size, h.block⟩

/-- A free block is taken out of its set. -/
theorem out_mut {w W0 W2 : World} {O : Nat → Prop} {B A cap : Nat} {mb : Nat → Nat} {m : Mo} {b k : Nat} (h : HpA W0 O B A cap mb m) (hk : Keep O w W0) (hb : Bk m.F k b) (hg : W0.grownBy W2 (some (mb k))) (hs : ∀ S : Nat → Prop, (∀ x, S x ↔ Bk m.F k x ∧ x ≠ b) → SetAt W2 (mb k) S) :
    Mut w O B ⟨m.n, setF m.F b (b + 2 ^ k) false⟩ W2 := by
  have hK := bk_ord h.wf.n1 h.wf.n2 h.wf.f hb
  have hA := h.turn hK (F' := setF m.F b (b + 2 ^ k) false) hg (fun p hp => h.wf.f p (by
    by_cases hi : b ≤ p ∧ p < b + 2 ^ k
    · rw [setF_in hi.1 hi.2] at hp; cases hp
    · rwa [setF_out hi] at hp)) (hs _ (fun x => by rw [bk_out hb]; simp)) (fun j hj t => by rw [bk_out hb]; simp [hj])
  exact ⟨⟨A, cap, mb, hA⟩, hk.grown hg (.inl (h.os k hK))⟩

theorem take_eq {F : Nat → Bool} {b k s e : Nat} (hb : Bk F k b) (h1 : b ≤ s) (h2 : s ≤ e) (h3 : e ≤ b + 2 ^ k) :
    setF (setF (setF F b (b + 2 ^ k) false) b s true) e (b + 2 ^ k) true = setF F s e false := by
  funext p
  by_cases hi : b ≤ p ∧ p < b + 2 ^ k
  · have hF := hb.at hi.1 hi.2
    by_cases c1 : p < s
    · rw [setF_out (by omega), setF_in hi.1 c1, setF_out (by omega), hF]
    · by_cases c2 : p < e
      · rw [setF_out (by omega), setF_out (by omega), setF_in hi.1 hi.2, setF_in (by omega) c2]
      · rw [setF_in (by omega) hi.2, setF_out (by omega), hF]
  · rw [setF_out (by omega), setF_out (by omega), setF_out hi, setF_out (by omega)]

set_option maxRecDepth 100000 in
set_option maxHeartbeats 1000000 in
theorem take_any {O : Nat → Prop} {B : Nat} {m : Mo} {w : World} (b k s e : Nat) (h : Hp w O B m) (hb : Bk m.F k b) (h1 : b ≤ s) (h2 : s ≤ e) (h3 : e ≤ b + 2 ^ k) :
    Calls Tryd.prog 51 #[.pointer (some ⟨B, 0, none⟩), .agg #[.int .i64 b, .int .i64 k], .int .i64 s, .int .i64 e] w fun x w' => x = .returned (.tuple #[]) ∧ Mut w O B ⟨m.n, setF m.F s e false⟩ w' := by
  obtain ⟨A, cap, mb, h⟩ := h
  have hn2 := h.wf.n2
  have hK := bk_ord h.wf.n1 h.wf.n2 h.wf.f hb
  have hKl := (h.wf.K).2.1
  have hble := bk_le h.wf.f hb
  obtain ⟨W0, hW⟩ : ∃ W, w.alloc (.cells #[.int .i64 b, .int .i64 k] 73) = W := ⟨_, rfl⟩
  have hb0 : Below w.heap.size w W0 := by rw [← hW]; exact bnew _ _
  obtain ⟨g2, g3⟩ := two_cells w w.heap.size (.int .i64 b) (.int .i64 k) 73 rfl
  rw [hW] at g2 g3
  have hzl : w.heap.size < W0.heap.size := World.block_lt_of_cell? _ _ g2
  have h0 := h.below hb0
  have c1 := h0.c1
  have a0 := h0.a0 hK
  have hcap := h0.cp
  have hi1 : (k : Int) < (ords m.n : Int) := by omega
  obtain ⟨W2, hdel, hset, hgr⟩ := set_del (w := W0.drew) (s := b) ((h0.s k hK).of_block rfl) (by omega)
  have HM := Lib.hid (out_mut (h0.below (below_drew (Below.refl _ _))) ((Keep.of (O := O) hb0).drew) hb hgr hset)
  have hzm : w.heap.size ≠ mb k := fun e => by
    rw [(h0.s k hK).no_cell ⟨w.heap.size, 0, none⟩ e] at g2
    cases g2
  have hbx : W2.heap[w.heap.size]? = W0.heap[w.heap.size]? := hgr.block w.heap.size hzl (fun e => hzm (Option.some.inj e))
  have y0 : W2.cell? ⟨w.heap.size, 0, none⟩ = some (.int .i64 b) := (World.cell?_of_block (w := W0) (a := ⟨w.heap.size, 0, none⟩) hbx).trans g2
  have y1 : W2.cell? ⟨w.heap.size, 1, none⟩ = some (.int .i64 k) := (World.cell?_of_block (w := W0) (a := ⟨w.heap.size, 1, none⟩) hbx).trans g3
  have hz2 : w.heap.size < W2.heap.size := World.block_lt_of_cell? _ _ y0
  have HY := Lib.hid (And.intro y0 (And.intro y1 hz2))
  have HB := Lib.hid hb
  have HO := Lib.hid (fun ho => Nat.lt_irrefl _ (h.lt w.heap.size ho))
  have hk11 : k ≤ 11 := by omega
  have hb1024 : b ≤ 1024 := by omega
  have HLE := Lib.hid (And.intro h1 (And.intro h2 (And.intro h3 hble)))
  have hs1024 : s ≤ 1024 := by omega
  have he1024 : e ≤ 1024 := by omega
  clear hb0 hzl h0 hset hgr hzm hbx hK hKl hble h hz2 hb h1 h2 h3 hn2
  go_enter Tryd.func51, Tryd.ntmps51
  go_wp2
  go_region
  clear hdel g2 g3 c1 a0 hi1
  obtain ⟨h1, h2, h3, hble⟩ := HLE.out
  have HG1 := Lib.hid (give_any b s HM.out.1 (by show s ≤ m.n; omega) hb1024 (fun p p1 p2 => setF_in p1 (by omega)))
  clear h1 h2 h3 hble
  go_wp2_with fail
  refine HG1.out.mono ?_
  rintro x w3 ⟨rfl, hM3⟩
  have HM3 := Lib.hid hM3
  have hbx3 : w3.heap[w.heap.size]? = W2.heap[w.heap.size]? := hM3.2.block _ HY.out.2.2 HO.out
  have z0 := (World.cell?_of_block (w := W2) (a := ⟨w.heap.size, 0, none⟩) hbx3).trans y0
  have z1 := (World.cell?_of_block (w := W2) (a := ⟨w.heap.size, 1, none⟩) hbx3).trans y1
  have HEN := Lib.hid (end_any b k w3 hk11 (by omega))
  obtain ⟨E, hE⟩ : ∃ E, b + 2 ^ k = E := ⟨_, rfl⟩
  have HE := Lib.hid hE
  rw [hE] at HEN
  clear hM3 hbx3 y0 y1 hE
  go_wp2_with fail
  refine HEN.out.mono ?_
  rintro x w4 ⟨rfl, hb4⟩
  have HG2 := Lib.hid (give_any e E (HM3.out.1.below hb4) (by
      obtain ⟨h1, h2, h3, hble⟩ := HLE.out
      have := HE.out
      show E ≤ m.n
      omega) he1024 (fun p p1 p2 => by
      obtain ⟨h1, h2, h3, hble⟩ := HLE.out
      have := HE.out
      show setF (setF m.F b (b + 2 ^ k) false) b s true p = false
      rw [setF_out (by omega), setF_in (by omega) (by omega)]))
  have HB4 := Lib.hid hb4
  clear hb4
  go_wp2_with fail
  refine HG2.out.mono ?_
  rintro x w5 ⟨rfl, hM5⟩
  have HM5 := Lib.hid (HM.out.trans ((HM3.out.then HB4.out).trans hM5))
  clear hM5
  go_wp2_with fail
  go_end0
  refine ⟨rfl, ?_⟩
  have := HM5.out
  obtain ⟨h1, h2, h3, hble⟩ := HLE.out
  rw [← HE.out] at this
  rwa [take_eq HB.out h1 h2 h3] at this

end Go.Proofs.YtnmejilpifmlnaaDoor
