/- The statement about the best fit: what its call returns. -/
import Derived.Test.YtnmejilpifmlnaaDoorXg
namespace Go.Proofs.YtnmejilpifmlnaaDoor
open Go.RowKit

theorem frV_nat' (m : Mo) (p : Nat) : frV m (p : Int) = m.F p := by
  unfold frV
  cases h : m.F p <;> simp [h]
theorem doM_n' (m : Mo) (x : Ac) : (doM m x).n = m.n := by
  unfold doM givD tkD trD
  repeat' split
  all_goals rfl
theorem runM_n' (m : Mo) (l : List Ac) : (runM m l).n = m.n := by
  induction l generalizing m with
  | nil => rfl
  | cons x l ih => exact (ih (doM m x)).trans (doM_n' m x)
theorem bst_no {F : Nat → Bool} {n : Nat} : ∀ {f k : Nat}, bst F n k f = none → ∀ j, k ≤ j → j < k + f → bl F n j = []
  | 0, k, _, j, h1, h2 => by omega
  | f + 1, k, h, j, h1, h2 => by
    cases hb : bl F n k with
    | nil =>
      rw [bst_nil hb] at h
      by_cases e : j = k
      · subst e; exact hb
      · exact bst_no h j (by omega) (by omega)
    | cons s t => rw [bst_cons hb] at h; cases h
/-- Where the search of the statement stands. -/
inductive At (T : Option (Nat × Nat)) (F : Nat → Bool) (n k : Nat) : Int → Prop
  | on (h : T = bst F n k (11 - k)) : At T F n k (-1)
  | got (r : Nat × Nat) (h : T = some r) : At T F n k r.2

structure Fit (m : Mo) (p a : Int) (k0 : Nat) : Prop where
  p1 : 1 ≤ p ∧ p ≤ 1024
  a1 : 1 ≤ a ∧ a ≤ 1024
  le : ∀ k, k0 ≤ k ↔ max p a ≤ ((2 ^ k : Nat) : Int)
  k10 : k0 ≤ 10
  tb : tkB m p a = bst m.F m.n k0 (11 - k0)
  al : ∃ j, j ≤ k0 ∧ a = ((2 ^ j : Nat) : Int)
theorem fit_mk {m : Mo} {p a : Int} (h : okA p a = true) : Fit m p a (lv (max p a).toNat) := by
  have hok := h
  unfold okA at hok
  rw [Bool.and_eq_true, decide_eq_true_eq] at hok
  have hab := pow_bd hok.2
  have hle : ∀ k, lv (max p a).toNat ≤ k ↔ max p a ≤ ((2 ^ k : Nat) : Int) := fun k => by
    rw [lv_le _ k (by omega) (by omega)]
    omega
  obtain ⟨j, hj, e⟩ := powI_iff.1 hok.2
  refine ⟨hok.1, hab, hle, lv_10 _ (by omega) (by omega), rfl, j, ?_, e⟩
  rcases Nat.lt_or_ge (lv (max p a).toNat) j with hlt | hge
  · have h1 := (hle _).1 (Nat.le_refl _)
    have h2 := Nat.pow_lt_pow_right (show 1 < 2 by omega) hlt
    omega
  · exact hge

set_option maxRecDepth 100000 in
set_option maxHeartbeats 2000000 in
theorem takes_walk (p : Int) (A : Option Addr) (c : Nat) (l : List Ac) (many align : Int) (w : World) (ht : Tab w) (hp0 : 0 ≤ p) (hp1 : p ≤ 65535) (hl : l.length ≤ 9223372036854775807) (hA : ActsAt w w.heap.size A l) :
    Calls Tryd.prog 7 #[.int .u16 p, .slice A l.length c, .int .i64 many, .int .i64 align] w (Yes w) := by
  have HAL := Lib.hid (Alive w ht)
  obtain ⟨n, hn⟩ : ∃ n : Nat, p % 1024 + 1 = n := ⟨(p % 1024 + 1).toNat, by omega⟩
  have HMD := Lib.hid (Made p A c n l w hn hp0 hp1 hl hA ht)
  have HW1 := Lib.hid ht.lt
  have t1 : p.tmod 1024 = p % 1024 := Int.tmod_eq_emod_of_nonneg hp0
  have t2 : IntKind.i64.wrap (p % 1024) = p % 1024 := IntWalk.i64_in _ (by omega)
  have t4 : IntKind.i64.wrap p = p := IntWalk.i64_in _ (by omega)
  have t5 : p % 1024 = (n : Int) - 1 := by omega
  obtain ⟨L, hL⟩ : ∃ L, L = l.length := ⟨_, rfl⟩
  rw [← hL] at hl HMD ⊢
  have HG := Lib.hid (fun w => great_any A L c w hl)
  have HR := Lib.hid (runM_n' (newM n) l)
  have hb0 := Below.refl w.heap.size w
  clear hA hL ht
  by_cases h40 : 40 < L
  · rw [decide_eq_true h40] at HG
    go_enter Tryd.func7, Tryd.ntmps7
    go_wp2_with fail
    refine (HG.out _).mono ?_
    rintro e _ ⟨rfl, rfl⟩
    go_wp2_with fail
    refine (HAL.out _ hb0).mono ?_
    rintro e w1 ⟨rfl, hb1⟩
    go_wp2_with fail
    go_ret
    exact ⟨rfl, hb1⟩
  · rw [decide_eq_false h40] at HG
    clear h40
    go_enter Tryd.func7, Tryd.ntmps7
    go_wp2_with fail
    refine (HG.out _).mono ?_
    rintro e _ ⟨rfl, rfl⟩
    go_wp2_with fail
    refine (HMD.out _ hb0).mono ?_
    rintro e w1 ⟨B, rfl, hb1, hs1⟩
    go_wp2_with fail
    refine (Clone_any hs1).mono ?_
    rintro e w2 ⟨C, rfl, hb2, hs2⟩
    have HBW := Lib.hid (btr hb1 hb2 (Nat.le_refl _))
    have HZ := Lib.hid (And.intro hb1.size hb2.size)
    have HS1 := Lib.hid (hs1.below hb2)
    have HS2 := Lib.hid hs2
    have HMN := Lib.hid (show (runM (newM n) l).n = n from HR.out)
    generalize runM (newM n) l = m at HS1 HS2 HMN
    clear hb0 hb1 hb2 hs1 hs2 HMD
    go_wp2_with fail
    refine (Take_any many align HS1.out).mono ?_
    rintro e w3 ⟨rfl, hM⟩
    have HM := Lib.hid hM
    have HB3 := Lib.hid (hM.bel HBW.out (fun k hk => hk.1))
    have HT := Lib.hid (HS2.out.keep hM.2 (fun k hk hk2 => by have := hk.1; have := hk2.2; omega) (fun hk => by have := hk.1; have := HW1.out; omega))
    clear hM
    cases hok : okA many align with
    | false =>
      obtain ⟨hE, hV, hD⟩ := tk_bad (m := m) hok
      rw [hD] at HM
      rw [hE, hV]
      have hbad : many < 1 ∨ (1 ≤ many ∧ 1024 < many) ∨ (1 ≤ many ∧ many ≤ 1024 ∧ powI align = false) := by
        unfold okA at hok
        by_cases h1 : many < 1
        · exact .inl h1
        · by_cases h2 : 1024 < many
          · exact .inr (.inl ⟨by omega, h2⟩)
          · rw [decide_eq_true (show 1 ≤ many ∧ many ≤ 1024 by omega), Bool.true_and] at hok
            exact .inr (.inr ⟨by omega, by omega, hok⟩)
      have HPW := Lib.hid (Power_any align w3)
      clear hE hV hD hok
      rcases hbad with hbad | hbad | hbad
      · go_wp2_with fail
        refine (alike_any HM.out.1 HT.out).mono ?_
        rintro e w4 ⟨rfl, hb4⟩
        go_wp2_with fail
        refine (HAL.out _ (btr HB3.out hb4 (Nat.le_refl _))).mono ?_
        rintro e w5 ⟨rfl, hb5⟩
        go_wp2_with fail
        go_ret
        exact ⟨rfl, hb5⟩
      · obtain ⟨h1, h2⟩ := hbad
        go_wp2_with fail
        refine (alike_any HM.out.1 HT.out).mono ?_
        rintro e w4 ⟨rfl, hb4⟩
        go_wp2_with fail
        refine (HAL.out _ (btr HB3.out hb4 (Nat.le_refl _))).mono ?_
        rintro e w5 ⟨rfl, hb5⟩
        go_wp2_with fail
        go_ret
        exact ⟨rfl, hb5⟩
      · obtain ⟨h1, h2, h3⟩ := hbad
        rw [h3] at HPW
        go_wp2_with fail
        refine HPW.out.mono ?_
        rintro e _ ⟨rfl, rfl⟩
        go_wp2_with fail
        refine (alike_any HM.out.1 HT.out).mono ?_
        rintro e w4 ⟨rfl, hb4⟩
        go_wp2_with fail
        refine (HAL.out _ (btr HB3.out hb4 (Nat.le_refl _))).mono ?_
        rintro e w5 ⟨rfl, hb5⟩
        go_wp2_with fail
        go_ret
        exact ⟨rfl, hb5⟩
    | true =>
      have hfit := fit_mk (m := m) hok
      generalize lv (max many align).toNat = k0 at hfit
      have HFT := Lib.hid hfit
      obtain ⟨hm1, hm2⟩ := hfit.p1
      obtain ⟨ha1, ha2⟩ := hfit.a1
      have hk10 := hfit.k10
      have HPW := Lib.hid (Power_any align w3)
      have hpw : powI align = true := by
        unfold okA at hok
        rw [Bool.and_eq_true] at hok
        exact hok.2
      rw [hpw] at HPW
      have HOK := Lib.hid hok
      clear hfit hpw hok
      go_wp2_with fail
      refine HPW.out.mono ?_
      rintro e _ ⟨rfl, rfl⟩
      go_wp2_with fail
      go_loopw [13] (fun v wr => ∃ k : Nat, k ≤ k0 ∧ v = .int .i64 k ∧ w3 = wr) (fun v _ => 20 - (intOf v).toNat)
      case atStart => exact ⟨0, by omega, rfl, rfl⟩
      case round =>
        obtain ⟨k, hk, rfl, rfl⟩ := hrel
        obtain ⟨P, hP, p1, p2, e1, e2⟩ := two_pow (k := k) (by omega)
        have hle := HFT.out.le k
        rw [← hP] at hle
        have HP := Lib.hid hP
        have HE := Lib.hid (And.intro e1 e2)
        clear hP e1 e2
        by_cases hlt : k < k0
        · have hmx : ¬ (max many align ≤ (P : Int)) := fun h => by have := hle.2 h; omega
          clear hle
          by_cases hmany : (P : Int) < many
          · obtain ⟨e1, e2⟩ := HE.out
            go_wp2_with fail
            clear e1 e2
            go_roundw
            case rel => exact ⟨k + 1, by omega, by go_num, trivial⟩
            case measure => simp [intOf]; omega
          · have hal : (P : Int) < align := by omega
            obtain ⟨e1, e2⟩ := HE.out
            go_wp2_with fail
            clear e1 e2
            go_roundw
            case rel => exact ⟨k + 1, by omega, by go_num, trivial⟩
            case measure => simp [intOf]; omega
        · obtain rfl : k = k0 := by omega
          have hmx := hle.1 (Nat.le_refl _)
          have hmany : ¬ (P : Int) < many := by omega
          have hal : ¬ (P : Int) < align := by omega
          clear hle hmx hlt hk
          obtain ⟨e1, e2⟩ := HE.out
          go_wp2_with fail
          clear e1 e2
          go_loopw [14, 15] (fun bv ov wr => ∃ (j : Nat) (x : Int), k ≤ j ∧ j ≤ 11 ∧ ov = .int .i64 j ∧ bv = .int .i64 x ∧ At (tkB m many align) m.F m.n j x ∧ Below w3.heap.size w3 wr) (fun _ o _ => 12 - (intOf o).toNat)
          case atStart => exact ⟨k, -1, Nat.le_refl _, by omega, rfl, rfl, At.on HFT.out.tb, Below.refl _ _⟩
          case round =>
            obtain ⟨j, x, hj1, hj2, rfl, rfl, hat, hB⟩ := hrel
            have HT4 := Lib.hid (HT.out.below hB)
            cases hat with
            | on h =>
              by_cases hj : j ≤ 10
              · have HBL := Lib.hid (Blocks_any (j : Int) HT4.out ⟨by omega, by omega⟩)
                rw [blV_nat] at HBL
                rw [show 11 - j = (10 - j) + 1 from by omega] at h
                cases hbl : bl m.F m.n j with
                | nil =>
                  rw [bst_nil hbl] at h
                  rw [hbl] at HBL
                  have HH := Lib.hid h
                  clear h hbl
                  go_wp2_with fail
                  refine HBL.out.mono ?_
                  rintro e w4 ⟨A4, c4, rfl, _, hb4⟩
                  have hB4 := btr hB hb4 (Nat.le_refl _)
                  go_wp2_with fail
                  go_roundw
                  case rel => exact ⟨j + 1, -1, by omega, by omega, by go_num, rfl, At.on (by rw [show 11 - (j + 1) = 10 - j from by omega]; exact HH.out), hB4⟩
                  case measure => simp [intOf]; omega
                | cons s r =>
                  rw [bst_cons hbl] at h
                  rw [hbl] at HBL
                  have HH := Lib.hid h
                  have hlen := blV_len m (j : Int)
                  rw [blV_nat, hbl] at hlen
                  have hmn := HT4.out.wf.n2
                  obtain ⟨K, hK⟩ : ∃ K, r.length = K := ⟨_, rfl⟩
                  have hK2 : (s :: r).length = K + 1 := by rw [List.length_cons, hK]
                  have hK3 : K ≤ 1023 := by rw [hK2] at hlen; omega
                  clear h hbl hlen hmn
                  go_wp2_with fail
                  refine HBL.out.mono ?_
                  rintro e w4 ⟨A4, c4, rfl, hn4, hb4⟩
                  have hB4 := btr hB hb4 (Nat.le_refl _)
                  obtain ⟨g, rfl, _, _, hc4⟩ := hn4 0 s rfl
                  rw [hK2]
                  clear hn4
                  go_wp2_with fail
                  go_roundw
                  case rel => exact ⟨j + 1, s, by omega, by omega, by go_num, rfl, At.got (j, s) HH.out, hB4⟩
                  case measure => simp [intOf]; omega
              · obtain rfl : j = 11 := by omega
                have hnone : tkB m many align = none := h
                obtain ⟨hE, hV, hD⟩ := tk_full HOK.out hnone
                have htb := HFT.out.tb
                rw [hnone] at htb
                have hod : m.od < (k : Int) := by
                  have := ordN_lt (F := m.F) (n := m.n) (k := 11) (l := k) (fun i h1 h2 => bst_no htb.symm i h1 (by omega))
                  unfold Mo.od
                  omega
                have hol : -1 ≤ m.od := (ordN_bd m.F m.n 11).1
                have HOD := Lib.hid (fun w4 (hb : Below w3.heap.size w3 w4) => Order_any (HT.out.below hb))
                generalize m.od = D at HOD hod hol
                have hs := HM.out.1.below hB
                rw [hD] at hs
                have HSS := Lib.hid hs
                rw [hE, hV]
                clear hE hV hD htb hnone h hs
                go_wp2_with fail
                refine (alike_any HSS.out HT4.out).mono ?_
                rintro e w4 ⟨rfl, hb4⟩
                have hB4 := btr hB hb4 (Nat.le_refl _)
                go_wp2_with fail
                refine (HOD.out _ hB4).mono ?_
                rintro e _ ⟨rfl, rfl⟩
                go_wp2_with fail
                refine (HAL.out _ (btr HB3.out hB4 (Nat.le_refl _))).mono ?_
                rintro e w5 ⟨rfl, hb5⟩
                go_wp2_with fail
                go_ret
                exact ⟨rfl, hb5⟩
            | got r h =>
              obtain ⟨hE, hV, hD⟩ := tk_yes HOK.out h
              obtain ⟨s, q, hto⟩ := tk_ok HS1.out.wf hE
              have hsr : r.2 = s := by have := hV.symm.trans hto.v; omega
              have htb := HFT.out.tb
              rw [h] at htb
              obtain ⟨hbk, hkr⟩ := bst_bk HS1.out.wf.f htb.symm
              rw [hsr] at hV hbk ⊢
              have hqn := hto.qn
              have hq1 := hto.q1
              obtain rfl := hto.e
              have hmn := HS1.out.wf.n2
              have hmn' := HMN.out
              obtain ⟨ja, hja, hae⟩ := HFT.out.al
              have hd1 : s % 2 ^ ja = 0 := mod_le (by omega) hbk.mod
              have hd2 : s % P = 0 := by rw [HP.out]; exact mod_le hkr hbk.mod
              obtain ⟨al, hal⟩ : ∃ al : Nat, align = al := ⟨align.toNat, by omega⟩
              subst hal
              have hd3 : s % al = 0 := by
                have : al = 2 ^ ja := by omega
                rw [this]; exact hd1
              have z1 : (s : Int) % (al : Int) = 0 := by rw [← Int.natCast_emod, hd3]; rfl
              have z2 : (s : Int) % (P : Int) = 0 := by rw [← Int.natCast_emod, hd2]; rfl
              have z3 : (s : Int).tmod (al : Int) = 0 := by rw [Int.tmod_eq_emod_of_nonneg (by omega)]; exact z1
              have z4 : (s : Int).tmod (P : Int) = 0 := by rw [Int.tmod_eq_emod_of_nonneg (by omega)]; exact z2
              have hal0 : ¬ al = 0 := by omega
              have hP0 : ¬ P = 0 := by omega
              have hsw : IntKind.i64.wrap ((s : Int) + (q : Int)) = (s : Int) + (q : Int) := IntWalk.i64_in _ (by omega)
              have HIN := Lib.hid (fun i (h1 : s ≤ i) (h2 : i < s + q) => And.intro (hto.f i h1 h2) (show (tkD m (q : Int) (al : Int)).F i = false by rw [hto.d]; exact setF_in h1 h2))
              have HOUT := Lib.hid (fun i (h : ¬ (s ≤ i ∧ i < s + q)) => show (tkD m (q : Int) (al : Int)).F i = m.F i by rw [hto.d]; exact setF_out h)
              rw [hE, hV]
              clear hE hV hD htb hbk hkr hja hae hd1 hd2 hd3 h hto hsr
              generalize tkD m (q : Int) (al : Int) = m3 at HM HIN HOUT
              obtain ⟨e1, e2⟩ := HE.out
              by_cases hj : j ≤ 10
              · go_wp2_with fail
                clear e1 e2
                go_loopw [17] (fun v wr => ∃ i : Nat, i ≤ n ∧ v = .int .i64 i ∧ Below w3.heap.size w3 wr) (fun v _ => n - (intOf v).toNat)
                case atStart => exact ⟨0, by omega, rfl, hB⟩
                case round =>
                  obtain ⟨i, hi, rfl, hB4⟩ := hrel
                  clear hB
                  by_cases hin : i < n
                  · have HF1 := Lib.hid (fun w4 (hb : Below w3.heap.size w3 w4) => IsFree_any (i : Int) (HT.out.below hb) ⟨by omega, by omega⟩)
                    have HF2 := Lib.hid (fun w4 (hb : Below w3.heap.size w3 w4) => IsFree_any (i : Int) (HM.out.1.below hb) ⟨by omega, by omega⟩)
                    rw [frV_nat'] at HF1 HF2
                    have hle : (i : Int) ≤ (n : Int) - 1 := by omega
                    by_cases h1 : s ≤ i
                    · by_cases h2 : i < s + q
                      · rw [(HIN.out i h1 h2).1] at HF1
                        rw [(HIN.out i h1 h2).2] at HF2
                        have h1' : (s : Int) ≤ (i : Int) := by omega
                        have h2' : (i : Int) < (s : Int) + (q : Int) := by omega
                        go_wp2_with fail
                        refine (HF1.out _ hB4).mono ?_
                        rintro e w5 ⟨rfl, hb5⟩
                        have hB5 := btr hB4 hb5 (Nat.le_refl _)
                        go_wp2_with fail
                        refine (HF2.out _ hB5).mono ?_
                        rintro e w6 ⟨rfl, hb6⟩
                        have hB6 := btr hB5 hb6 (Nat.le_refl _)
                        go_wp2_with fail
                        go_roundw
                        case rel => exact ⟨i + 1, by omega, by go_num, hB6⟩
                        case measure => simp [intOf]; omega
                      · rw [HOUT.out i (by omega)] at HF2
                        generalize m.F i = v at HF1 HF2
                        have h1' : (s : Int) ≤ (i : Int) := by omega
                        have h2' : ¬ (i : Int) < (s : Int) + (q : Int) := by omega
                        go_wp2_with fail
                        refine (HF1.out _ hB4).mono ?_
                        rintro e w5 ⟨rfl, hb5⟩
                        have hB5 := btr hB4 hb5 (Nat.le_refl _)
                        go_wp2_with fail
                        refine (HF2.out _ hB5).mono ?_
                        rintro e w6 ⟨rfl, hb6⟩
                        have hB6 := btr hB5 hb6 (Nat.le_refl _)
                        cases v
                        all_goals
                          go_wp2_with fail
                          go_roundw
                          case rel => exact ⟨i + 1, by omega, by go_num, hB6⟩
                          case measure => simp [intOf]; omega
                    · rw [HOUT.out i (by omega)] at HF2
                      generalize m.F i = v at HF1 HF2
                      have h1' : ¬ (s : Int) ≤ (i : Int) := by omega
                      go_wp2_with fail
                      refine (HF1.out _ hB4).mono ?_
                      rintro e w5 ⟨rfl, hb5⟩
                      have hB5 := btr hB4 hb5 (Nat.le_refl _)
                      go_wp2_with fail
                      refine (HF2.out _ hB5).mono ?_
                      rintro e w6 ⟨rfl, hb6⟩
                      have hB6 := btr hB5 hb6 (Nat.le_refl _)
                      cases v
                      all_goals
                        go_wp2_with fail
                        go_roundw
                        case rel => exact ⟨i + 1, by omega, by go_num, hB6⟩
                        case measure => simp [intOf]; omega
                  · have hle : ¬ (i : Int) ≤ (n : Int) - 1 := by omega
                    go_wp2_with fail
                    refine (HAL.out _ (btr HB3.out hB4 (Nat.le_refl _))).mono ?_
                    rintro e w5 ⟨rfl, hb5⟩
                    go_wp2_with fail
                    go_ret
                    exact ⟨rfl, hb5⟩
              · go_wp2_with fail
                clear e1 e2
                go_loopw [17] (fun v wr => ∃ i : Nat, i ≤ n ∧ v = .int .i64 i ∧ Below w3.heap.size w3 wr) (fun v _ => n - (intOf v).toNat)
                case atStart => exact ⟨0, by omega, rfl, hB⟩
                case round =>
                  obtain ⟨i, hi, rfl, hB4⟩ := hrel
                  clear hB
                  by_cases hin : i < n
                  · have HF1 := Lib.hid (fun w4 (hb : Below w3.heap.size w3 w4) => IsFree_any (i : Int) (HT.out.below hb) ⟨by omega, by omega⟩)
                    have HF2 := Lib.hid (fun w4 (hb : Below w3.heap.size w3 w4) => IsFree_any (i : Int) (HM.out.1.below hb) ⟨by omega, by omega⟩)
                    rw [frV_nat'] at HF1 HF2
                    have hle : (i : Int) ≤ (n : Int) - 1 := by omega
                    by_cases h1 : s ≤ i
                    · by_cases h2 : i < s + q
                      · rw [(HIN.out i h1 h2).1] at HF1
                        rw [(HIN.out i h1 h2).2] at HF2
                        have h1' : (s : Int) ≤ (i : Int) := by omega
                        have h2' : (i : Int) < (s : Int) + (q : Int) := by omega
                        go_wp2_with fail
                        refine (HF1.out _ hB4).mono ?_
                        rintro e w5 ⟨rfl, hb5⟩
                        have hB5 := btr hB4 hb5 (Nat.le_refl _)
                        go_wp2_with fail
                        refine (HF2.out _ hB5).mono ?_
                        rintro e w6 ⟨rfl, hb6⟩
                        have hB6 := btr hB5 hb6 (Nat.le_refl _)
                        go_wp2_with fail
                        go_roundw
                        case rel => exact ⟨i + 1, by omega, by go_num, hB6⟩
                        case measure => simp [intOf]; omega
                      · rw [HOUT.out i (by omega)] at HF2
                        generalize m.F i = v at HF1 HF2
                        have h1' : (s : Int) ≤ (i : Int) := by omega
                        have h2' : ¬ (i : Int) < (s : Int) + (q : Int) := by omega
                        go_wp2_with fail
                        refine (HF1.out _ hB4).mono ?_
                        rintro e w5 ⟨rfl, hb5⟩
                        have hB5 := btr hB4 hb5 (Nat.le_refl _)
                        go_wp2_with fail
                        refine (HF2.out _ hB5).mono ?_
                        rintro e w6 ⟨rfl, hb6⟩
                        have hB6 := btr hB5 hb6 (Nat.le_refl _)
                        cases v
                        all_goals
                          go_wp2_with fail
                          go_roundw
                          case rel => exact ⟨i + 1, by omega, by go_num, hB6⟩
                          case measure => simp [intOf]; omega
                    · rw [HOUT.out i (by omega)] at HF2
                      generalize m.F i = v at HF1 HF2
                      have h1' : ¬ (s : Int) ≤ (i : Int) := by omega
                      go_wp2_with fail
                      refine (HF1.out _ hB4).mono ?_
                      rintro e w5 ⟨rfl, hb5⟩
                      have hB5 := btr hB4 hb5 (Nat.le_refl _)
                      go_wp2_with fail
                      refine (HF2.out _ hB5).mono ?_
                      rintro e w6 ⟨rfl, hb6⟩
                      have hB6 := btr hB5 hb6 (Nat.le_refl _)
                      cases v
                      all_goals
                        go_wp2_with fail
                        go_roundw
                        case rel => exact ⟨i + 1, by omega, by go_num, hB6⟩
                        case measure => simp [intOf]; omega
                  · have hle : ¬ (i : Int) ≤ (n : Int) - 1 := by omega
                    go_wp2_with fail
                    refine (HAL.out _ (btr HB3.out hB4 (Nat.le_refl _))).mono ?_
                    rintro e w5 ⟨rfl, hb5⟩
                    go_wp2_with fail
                    go_ret
                    exact ⟨rfl, hb5⟩

end Go.Proofs.YtnmejilpifmlnaaDoor
