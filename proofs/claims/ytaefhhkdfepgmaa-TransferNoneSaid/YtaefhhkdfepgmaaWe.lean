/- The statement about lows: only what nobody needed. -/
import Derived.Test.YtaefhhkdfepgmaaWd
namespace Go.Proofs.Ytaefhhkdfepgmaa
open Go.RowKit Go.Lib

theorem low_min {c : Tc} (h : TWf c) (x : Ak) (hk : x.k ≠ 2) : ∃ c', dkD (some c) x = some c' ∧ min c.lo c'.L.length = c'.lo ∧ (x.k = 3 → c'.lo = 0) := by
  have h1 := h.low
  unfold dkD
  by_cases h0 : x.k = 0
  · rw [if_pos h0]
    unfold insD
    dsimp only
    split
    · exact ⟨_, rfl, by show min c.lo (c.L ++ [x.l]).length = c.lo; rw [List.length_append]; omega, fun h => by omega⟩
    · exact ⟨_, rfl, by omega, fun h => by omega⟩
  · rw [if_neg h0]
    by_cases h1' : x.k = 1
    · rw [if_pos h1']
      exact ⟨_, rfl, by show min c.lo c.L.dropLast.length = min c.lo (c.L.length - 1); rw [List.length_dropLast], fun h => by omega⟩
    · rw [if_neg h1', if_neg hk]
      by_cases h3 : x.k = 3
      · rw [if_pos h3]
        have e : (c.L.drop c.L.length).length = 0 := by rw [List.length_drop]; omega
        exact ⟨_, rfl, by show min c.lo (c.L.drop c.L.length).length = (c.L.drop c.L.length).length; rw [e]; omega, fun _ => e⟩
      · rw [if_neg h3]
        exact ⟨_, rfl, by omega, fun h => absurd h h3⟩

set_option maxRecDepth 100000 in
set_option maxHeartbeats 8000000 in
theorem low_walk (b r : Int) (A : Option Addr) (cp : Nat) (l : List Ak) (w : World) (hl : l.length ≤ 9223372036854775807) (hA : ActsAt w w.heap.size A l) :
    Calls Try.prog 6 #[.int .i64 b, .int .i64 r, .slice A l.length cp] w (Yes w) := by
  have HAL := Lib.hid alive_any
  have HG := Lib.hid (great_any A cp l w hl hA)
  have HM1 := Lib.hid (show Calls Try.prog 17 #[.int .i64 b, .int .i64 r, .slice none 0 0] w (MadeP w (madeO b r [])) from made_law b r none 0 [] w (by decide) (fun k x h => by simp at h) (Nat.le_refl _) (ActsAt.nil w w.heap.size none))
  have HA := Lib.hid hA
  obtain ⟨L, hL⟩ : ∃ L, l.length = L := ⟨_, rfl⟩
  have HL := Lib.hid hL
  rw [hL] at hl HG ⊢
  clear hA hL
  by_cases hg : grB l = true
  · rw [hg] at HG
    go_enter Try.func6, Try.ntmps6
    go_wp2_with fail
    refine HG.out.mono ?_
    rintro e _ ⟨rfl, rfl⟩
    go_wp2_with fail
    refine (HAL.out _).mono ?_
    rintro e w2 ⟨rfl, hb⟩
    have HF := Lib.hid hb
    clear hb
    go_wp2_with fail
    go_ret
    exact ⟨rfl, HF.out⟩
  have hg' : grB l = false := by simpa using hg
  rw [hg'] at HG
  have H60 := Lib.hid (grB_no hg').2
  obtain ⟨om, hom⟩ : ∃ om, madeO b r [] = om := ⟨_, rfl⟩
  have HZ := Lib.hid (show lowT om = 0 from by
    rw [← hom]
    unfold madeO
    split
    · rename_i h
      rw [show newT b r = some ⟨b.toNat, r.toNat, 0, []⟩ from if_pos h]; rfl
    · rfl)
  rw [hom] at HM1
  clear hg hg' hom
  cases om with
  | none =>
    go_enter Try.func6, Try.ntmps6
    go_wp2_with fail
    refine HG.out.mono ?_
    rintro e _ ⟨rfl, rfl⟩
    go_wp2_with fail
    refine HM1.out.mono ?_
    intro e w3 hm
    obtain ⟨rfl, hb3⟩ := hm.no
    have HB3 := Lib.hid hb3
    clear hm hb3
    go_wp2_with fail
    refine (HAL.out _).mono ?_
    rintro e w5 ⟨rfl, hb⟩
    have HF := Lib.hid (btr HB3.out hb (Nat.le_refl _))
    clear hb
    go_wp2_with fail
    go_ret
    exact ⟨rfl, HF.out⟩
  | some c0 =>
    go_enter Try.func6, Try.ntmps6
    go_wp2_with fail
    refine HG.out.mono ?_
    rintro e _ ⟨rfl, rfl⟩
    go_wp2_with fail
    refine HM1.out.mono ?_
    intro e w3 hm
    obtain ⟨B, O1, rfl, ho1⟩ := hm.yes
    have HO1 := Lib.hid ho1
    clear hm ho1 HM1
    go_wp2_with fail
    go_loopw [8, 9] (fun lw i wr => ∃ (k : Nat) (c : Tc) (O : Nat → Prop), k ≤ L ∧ i = .int .i64 k ∧ lw = .int .i64 c.lo ∧ Own false w wr (.pointer (some ⟨B, 0, none⟩)) (some c) O) (fun _ i _ => L - (intOf i).toNat)
    case atStart => exact ⟨0, c0, _, by omega, rfl, by rw [show c0.lo = 0 from HZ.out]; rfl, HO1.out⟩
    case round =>
      clear HO1
      obtain ⟨k, c, O, hk, rfl, rfl, hO⟩ := hrel
      have HO := Lib.hid hO
      by_cases hlt : k < L
      · obtain ⟨x, hx⟩ : ∃ x, l[k]? = some x := ⟨_, List.getElem?_eq_getElem (by have := HL.out; omega)⟩
        obtain ⟨bb, o, u, rfl, hB, g1, g2, hv⟩ := (HA.out.below hO.bel) k x hx
        have HX := Lib.hid (fun W (hb : Below w.heap.size w W) => (HA.out.below hb) k x hx)
        have H6 := Lib.hid (H60.out k x hx)
        have hw := hO.ob.wf
        have HW := Lib.hid hw
        have h8 : c.lo ≤ 8 := by have := hw.low; have := hw.len; have := hw.r2; omega
        have hn8 : c.L.length ≤ 8 := by have := hw.len; have := hw.r2; omega
        have hln := hw.low
        by_cases h2 : x.k = 2
        · have HL1 := Lib.hid (cLen_any hO.ob)
          rw [show lenT (some c) = c.L.length from rfl] at HL1
          have hT := cTick_any hO.ob
          unfold OutP at hT
          rw [tk_out, show half (some c) = (c.lo + 1) / 2 from rfl] at hT
          have hlv : (outV ((c.lo + 1) / 2) (some c)).length = (c.lo + 1) / 2 := by show (c.L.take _).length = _; rw [List.length_take]; omega
          rw [hlv] at hT
          have HT := Lib.hid hT
          obtain ⟨tl1, tl2⟩ := tk_len c
          have HTL := Lib.hid (And.intro tl1 tl2)
          obtain ⟨q, hq⟩ : ∃ q, (c.lo + 1) / 2 = q := ⟨_, rfl⟩
          rw [hq] at HT HTL
          obtain ⟨lo, hlo⟩ : ∃ lo, c.lo = lo := ⟨_, rfl⟩
          rw [hlo] at h8 hln hq ⊢
          obtain ⟨n, hn⟩ : ∃ n, c.L.length = n := ⟨_, rfl⟩
          rw [hn] at HL1 HTL hn8 hln
          obtain ⟨D, hD⟩ : ∃ D, n - q = D := ⟨_, rfl⟩
          rw [hD] at HTL
          have E1 := Lib.hid (show IntKind.i64.wrap ((lo : Int) + 1) = (lo : Int) + 1 ∧ wrap64 ((lo : Int) + 1) = (lo : Int) + 1 ∧ ((lo : Int) + 1).tdiv 2 = (q : Int) ∧ ((lo : Int) + 1) / 2 = (q : Int) ∧ IntKind.i64.wrap (q : Int) = (q : Int) ∧ wrap64 (q : Int) = (q : Int) from
            ⟨(w64 _ (by omega)).2, (w64 _ (by omega)).1, by rw [Int.tdiv_eq_ediv_of_nonneg (by omega)]; omega, by omega, (w64 _ (by omega)).2, (w64 _ (by omega)).1⟩)
          have E2 := Lib.hid (show (n : Int) - (q : Int) = (D : Int) ∧ IntKind.i64.wrap (D : Int) = (D : Int) ∧ wrap64 (D : Int) = (D : Int) from ⟨by omega, (w64 _ (by omega)).2, (w64 _ (by omega)).1⟩)
          rw [h2] at g1
          have H2 := Lib.hid h2
          clear hO hx hv hw hT hlv tl1 tl2 hq hlo hn h2 g2 hD
          go_wp2_with fail
          refine HL1.out.mono ?_
          rintro e _ ⟨rfl, rfl⟩
          go_wp2_with fail
          refine HT.out.mono ?_
          rintro e w6 ⟨A6, c6, rfl, h5, hl6, hM⟩
          have HM := Lib.hid (HO.out.mut hM HO.out.ob.isB)
          clear h5 hl6 hM
          have HL2 := cLen_any HM.out.ob
          rw [show lenT (some (tk c)) = (tk c).L.length from rfl, HTL.out.1] at HL2
          have HL2 := Lib.hid HL2
          have HW2 := cLow_any HM.out.ob
          rw [show lowT (some (tk c)) = (tk c).lo from rfl, HTL.out.2, HTL.out.1] at HW2
          have HW2 := Lib.hid HW2
          clear g1
          obtain ⟨bb', o', u', e', _, g1, _, _⟩ := HX.out _ HM.out.bel
          cases e'
          rw [H2.out] at g1
          obtain ⟨f1, f2, f3, f4, f5, f6⟩ := E1.out
          obtain ⟨f7, f8, f9⟩ := E2.out
          clear E1 E2
          go_wp2_with fail
          clear f1 f2 f3 f4 f5 f6
          refine HL2.out.mono ?_
          rintro e _ ⟨rfl, rfl⟩
          go_wp2_with fail
          clear f7 f8 f9
          refine HL2.out.mono ?_
          rintro e _ ⟨rfl, rfl⟩
          go_wp2_with fail
          refine HW2.out.mono ?_
          rintro e _ ⟨rfl, rfl⟩
          go_wp2_with fail
          refine HW2.out.mono ?_
          rintro e _ ⟨rfl, rfl⟩
          go_wp2_with fail
          refine HL2.out.mono ?_
          rintro e _ ⟨rfl, rfl⟩
          go_wp2_with fail
          go_roundw
          case rel => exact ⟨k + 1, _, _, by omega, by go_num, by rw [HTL.out.2, HTL.out.1], HM.out⟩
          case measure => simp [intOf]; omega
        · have h2' : (x.k == 2) = false := by simpa using h2
          have HD := Lib.hid (do_any x hO.ob hO.bel.size hv H6.out)
          obtain ⟨c', hc', hmin, h3⟩ := low_min hw x h2
          rw [hc'] at HD
          have HMN := Lib.hid (And.intro hmin h3)
          obtain ⟨lo, hlo⟩ : ∃ lo, c.lo = lo := ⟨_, rfl⟩
          rw [hlo] at HMN h8 ⊢
          obtain ⟨xk, hxk⟩ : ∃ xk, x.k = xk := ⟨_, rfl⟩
          rw [hxk] at g1 h2' HD HMN
          have HXK := Lib.hid hxk
          clear hO hx hv hw hc' hmin h3 hlo hln h2 hxk
          go_wp2_with fail
          refine HD.out.mono ?_
          rintro e w6 ⟨rfl, hM⟩
          have HM := Lib.hid (HO.out.mut hM (fun _ h => h))
          clear hM
          have hw2 := HM.out.ob.wf
          have HLE := Lib.hid hw2.low
          have h8' : c'.lo ≤ 8 ∧ c'.L.length ≤ 8 := by have := hw2.low; have := hw2.len; have := hw2.r2; omega
          have HL2 := cLen_any HM.out.ob
          rw [show lenT (some c') = c'.L.length from rfl] at HL2
          have HL2 := Lib.hid HL2
          have HW2 := cLow_any HM.out.ob
          rw [show lowT (some c') = c'.lo from rfl] at HW2
          have HW2 := Lib.hid HW2
          obtain ⟨bb', o', u', e', _, g3, _, _⟩ := HX.out _ HM.out.bel
          cases e'
          rw [HXK.out] at g3
          obtain ⟨m, hm⟩ : ∃ m, c'.L.length = m := ⟨_, rfl⟩
          obtain ⟨lo', hlo'⟩ : ∃ lo', c'.lo = lo' := ⟨_, rfl⟩
          rw [hm] at HL2 HMN HLE h8'
          rw [hlo'] at HW2 HMN HLE h8'
          have HLO := Lib.hid hlo'
          clear g1 g2 hw2 hm hlo'
          go_wp2_with fail
          refine HL2.out.mono ?_
          rintro e _ ⟨rfl, rfl⟩
          by_cases hk3 : xk = 3
          · have hz : lo' = 0 := HMN.out.2 hk3
            subst hk3
            subst hz
            go_wp2_with fail
            all_goals
              refine HW2.out.mono ?_
              rintro e _ ⟨rfl, rfl⟩
              go_wp2_with fail
              refine HW2.out.mono ?_
              rintro e _ ⟨rfl, rfl⟩
              go_wp2_with fail
              refine HL2.out.mono ?_
              rintro e _ ⟨rfl, rfl⟩
              go_wp2_with fail
              go_roundw
              case rel => exact ⟨k + 1, c', _, by omega, by go_num, by rw [HLO.out]; rfl, HM.out⟩
              case measure => simp [intOf]; omega
          · have hk3' : (xk == 3) = false := by simpa using hk3
            have hmm := HMN.out.1
            have hle := HLE.out
            by_cases hlm : lo ≤ m
            · obtain rfl : lo = lo' := by omega
              clear hmm hk3
              go_wp2_with fail
              refine HW2.out.mono ?_
              rintro e _ ⟨rfl, rfl⟩
              go_wp2_with fail
              refine HW2.out.mono ?_
              rintro e _ ⟨rfl, rfl⟩
              go_wp2_with fail
              refine HL2.out.mono ?_
              rintro e _ ⟨rfl, rfl⟩
              go_wp2_with fail
              go_roundw
              case rel => exact ⟨k + 1, c', _, by omega, by go_num, by rw [HLO.out], HM.out⟩
              case measure => simp [intOf]; omega
            · obtain rfl : m = lo' := by omega
              clear hmm hk3
              go_wp2_with fail
              refine HW2.out.mono ?_
              rintro e _ ⟨rfl, rfl⟩
              go_wp2_with fail
              refine HW2.out.mono ?_
              rintro e _ ⟨rfl, rfl⟩
              go_wp2_with fail
              refine HL2.out.mono ?_
              rintro e _ ⟨rfl, rfl⟩
              go_wp2_with fail
              go_roundw
              case rel => exact ⟨k + 1, c', _, by omega, by go_num, by rw [HLO.out], HM.out⟩
              case measure => simp [intOf]; omega
      · clear hO
        go_wp2_with fail
        refine (HAL.out _).mono ?_
        rintro e w9 ⟨rfl, hb⟩
        have HF2 := Lib.hid (btr HO.out.bel hb (Nat.le_refl _))
        clear hb
        go_wp2_with fail
        go_ret
        exact ⟨rfl, HF2.out⟩
end Go.Proofs.Ytaefhhkdfepgmaa
