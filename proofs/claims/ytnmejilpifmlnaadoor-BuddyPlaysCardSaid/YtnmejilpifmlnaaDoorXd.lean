/- The statement about giving back: what its call returns. -/
import Derived.Test.YtnmejilpifmlnaaDoorXc
namespace Go.Proofs.YtnmejilpifmlnaaDoor
open Go.RowKit

/-- What Take has taken. -/
structure Took (m : Mo) (p a : Int) (s q : Nat) : Prop where
  v : tkV m p a = s
  e : p = q
  q1 : 1 ≤ q
  qn : s + q ≤ m.n
  d : tkD m p a = ⟨m.n, setF m.F s (s + q) false⟩
  f : ∀ j, s ≤ j → j < s + q → m.F j = true
theorem tk_ok {m : Mo} {p a : Int} (hwf : WF m) (h : tkE m p a = 0) : ∃ s q : Nat, Took m p a s q := by
  cases hok : okA p a with
  | false => rw [(tk_bad hok).1] at h; cases h
  | true =>
    cases hb : tkB m p a with
    | none => rw [(tk_full hok hb).1] at h; cases h
    | some r =>
      obtain ⟨_, hv, hd⟩ := tk_yes hok hb
      have ho := hok
      unfold okA at ho
      rw [Bool.and_eq_true, decide_eq_true_eq] at ho
      have hab := pow_bd ho.2
      unfold tkB at hb
      obtain ⟨hbk, hlv⟩ := bst_bk hwf.f hb
      have hle := (lv_le (max p a).toNat r.1 (by omega) (by omega)).1 hlv
      have hn := bk_le hwf.f hbk
      refine ⟨r.2, p.toNat, hv, by omega, by omega, by omega, hd, fun j h1 h2 => hbk.at h1 (by omega)⟩
theorem Took.fr {m : Mo} {p a : Int} {s q : Nat} (h : Took m p a s q) : (tkD m p a).fr + q = m.fr := by
  rw [h.d]
  unfold Mo.fr
  show cntF (setF m.F s (s + q) false) m.n + q = cntF m.F m.n
  have hsplit := cntF_or (F := setF m.F s (s + q) false) (G := fun j => decide (s ≤ j ∧ j < s + q)) (H := m.F) (fun j => by
    by_cases hj : s ≤ j ∧ j < s + q
    · rw [h.f j hj.1 hj.2, setF_in hj.1 hj.2, decide_eq_true hj]; rfl
    · rw [setF_out hj, decide_eq_false hj, Bool.or_false]) (fun j h1 h2 => by
    have hj := of_decide_eq_true h2
    rw [setF_in hj.1 hj.2] at h1
    cases h1) m.n
  have hc : ∀ d, cntF (fun j => decide (s ≤ j ∧ j < s + q)) d = min d (s + q) - min d s := by
    intro d
    induction d with
    | zero => rfl
    | succ d ih =>
      rw [cntF_succ, ih]
      by_cases hj : s ≤ d ∧ d < s + q
      · rw [if_pos (decide_eq_true hj)]; omega
      · rw [if_neg (by simpa using hj)]; omega
  rw [hc] at hsplit
  have := h.qn
  omega
theorem Took.back {m : Mo} {p a : Int} {s q : Nat} (h : Took m p a s q) : givE (tkD m p a) s q = 0 ∧ givD (tkD m p a) s q = m := by
  have hE : givE (tkD m p a) s q = 0 := by
    unfold givE
    have hin : inM (tkD m p a) s q = true := by
      unfold inM
      rw [h.d]
      have := h.q1
      have := h.qn
      exact decide_eq_true (by dsimp only; omega)
    have hno : noneM (tkD m p a) (s : Int).toNat (q : Int).toNat = true := by
      unfold noneM
      rw [h.d]
      refine decide_eq_true fun j hj => ?_
      exact setF_in (by simp) (by simp at hj ⊢; omega)
    rw [if_pos hin, if_pos hno]
  refine ⟨hE, ?_⟩
  unfold givD
  rw [if_pos hE, h.d]
  cases m with
  | mk n F =>
    congr 1
    funext j
    have hf := h.f
    dsimp only at hf ⊢
    simp only [Int.toNat_natCast]
    by_cases hj : s ≤ j ∧ j < s + q
    · rw [setF_in hj.1 hj.2, hf j hj.1 hj.2]
    · rw [setF_out hj, setF_out hj]

set_option maxRecDepth 100000 in
set_option maxHeartbeats 1000000 in
theorem back_walk (p : Int) (A : Option Addr) (c : Nat) (l : List Ac) (many align : Int) (w : World) (ht : Tab w) (hp0 : 0 ≤ p) (hp1 : p ≤ 65535) (hl : l.length ≤ 9223372036854775807) (hA : ActsAt w w.heap.size A l) :
    Calls Tryd.prog 9 #[.int .u16 p, .slice A l.length c, .int .i64 many, .int .i64 align] w (Yes w) := by
  have HAL := Lib.hid (Alive w ht)
  obtain ⟨n, hn⟩ : ∃ n : Nat, p % 1024 + 1 = n := ⟨(p % 1024 + 1).toNat, by omega⟩
  have HMD := Lib.hid (Made p A c n l w hn hp0 hp1 hl hA ht)
  have HW1 := Lib.hid ht.lt
  obtain ⟨L, hL⟩ : ∃ L, L = l.length := ⟨_, rfl⟩
  rw [← hL] at hl HMD ⊢
  have HG := Lib.hid (fun w => great_any A L c w hl)
  have hb0 := Below.refl w.heap.size w
  clear hA hL hn ht
  by_cases h40 : 40 < L
  · rw [decide_eq_true h40] at HG
    go_enter Tryd.func9, Tryd.ntmps9
    go_wp2_with fail
    refine (HG.out _).mono ?_
    rintro e _ ⟨rfl, rfl⟩
    go_wp2_with fail
    refine (HAL.out _ hb0).mono ?_
    rintro e w1 ⟨rfl, hb1⟩
    go_wp2_with fail
    go_ret
    exact ⟨rfl, hb1⟩
  · rw [decide_eq_false h40] at HG
    clear h40
    go_enter Tryd.func9, Tryd.ntmps9
    go_wp2_with fail
    refine (HG.out _).mono ?_
    rintro e _ ⟨rfl, rfl⟩
    go_wp2_with fail
    refine (HMD.out _ hb0).mono ?_
    rintro e w1 ⟨B, rfl, hb1, hs1⟩
    go_wp2_with fail
    refine (Clone_any hs1).mono ?_
    rintro e w2 ⟨C, rfl, hb2, hs2⟩
    have HBW := Lib.hid (btr hb1 hb2 (Nat.le_refl _))
    have HZ := Lib.hid (And.intro hb1.size hb2.size)
    have HS1 := Lib.hid (hs1.below hb2)
    have HS2 := Lib.hid hs2
    generalize runM (newM n) l = m at HS1 HS2
    clear hb0 hb1 hb2 hs1 hs2 HMD
    have hn2 := HS1.out.wf.n2
    have HN2 := Lib.hid hn2
    go_wp2_with fail
    refine (Take_any many align HS1.out).mono ?_
    rintro e w3 ⟨rfl, hM⟩
    have HM := Lib.hid hM
    have HB3 := Lib.hid (hM.bel HBW.out (fun k hk => hk.1))
    have HT := Lib.hid (HS2.out.keep hM.2 (fun k hk hk2 => by have := hk.1; have := hk2.2; omega) (fun hk => by have := hk.1; have := HW1.out; omega))
    clear hM
    by_cases hE : tkE m many align = 0
    · obtain ⟨s, q, hk⟩ := tk_ok HS1.out.wf hE
      have hv := hk.v
      obtain rfl := hk.e
      have hbk := hk.back
      have hfr := hk.fr
      have hq1 := hk.q1
      have hqn := hk.qn
      have hfl := fr_le (m := m)
      have HF1 := Lib.hid (Free_any HM.out.1)
      have HF2 := Lib.hid (Free_any HT.out)
      have HGV := Lib.hid (Give_any (s : Int) (q : Int) HM.out.1 ⟨by omega, by omega⟩)
      have HBK := Lib.hid hbk
      generalize tkD m (q : Int) align = m3 at HM HF1 HGV HBK hfr hbk
      rw [hbk.1] at HGV
      generalize m3.fr = f3 at HF1 hfr
      generalize m.fr = f at HF2 hfr hfl
      have hz : IntKind.i64.wrap ((f : Int) - (q : Int)) = (f3 : Int) := by rw [show (f : Int) - (q : Int) = f3 from by omega]; exact IntWalk.i64_in _ (by omega)
      clear hk hbk hfr hfl
      rw [hE, hv]
      clear hE hv
      go_wp2_with fail
      refine HF1.out.mono ?_
      rintro e _ ⟨rfl, rfl⟩
      go_wp2_with fail
      refine HF2.out.mono ?_
      rintro e _ ⟨rfl, rfl⟩
      go_wp2_with fail
      refine HGV.out.mono ?_
      rintro e w4 ⟨rfl, hM4⟩
      have HM4 := Lib.hid hM4
      have HB4 := Lib.hid (hM4.bel HB3.out (fun k hk => hk.1))
      clear hM4
      go_wp2_with fail
      have ht := HT.out.keep HM4.out.2 (fun k hk hk2 => by have := hk.1; have := hk2.2; omega) (fun hk => by have := hk.1; have := HW1.out; omega)
      have hs := HM4.out.1
      rw [HBK.out.2] at hs
      refine (alike_any hs ht).mono ?_
      rintro e w5 ⟨rfl, hb5⟩
      clear ht hs
      go_wp2_with fail
      refine (HAL.out _ (btr HB4.out hb5 (Nat.le_refl _))).mono ?_
      rintro e w6 ⟨rfl, hb6⟩
      go_wp2_with fail
      go_ret
      exact ⟨rfl, hb6⟩
    · have HEQ := Lib.hid (tkE_err hE)
      generalize tkE m many align = E at hE
      generalize tkV m many align = V
      have hq : (E == 0) = false := by simpa using hE
      clear hE
      go_wp2_with fail
      have hs := HM.out.1
      rw [HEQ.out] at hs
      refine (alike_any hs HT.out).mono ?_
      rintro e w4 ⟨rfl, hb4⟩
      clear hs
      go_wp2_with fail
      refine (HAL.out _ (btr HB3.out hb4 (Nat.le_refl _))).mono ?_
      rintro e w5 ⟨rfl, hb5⟩
      go_wp2_with fail
      go_ret
      exact ⟨rfl, hb5⟩

end Go.Proofs.YtnmejilpifmlnaaDoor
