/- The statement: only what was not needed. -/
import Derived.Test.YticcjelaenhigaaWc
namespace Go.Proofs.Yticcjelaenhigaa
open Go.RowKit Go.Lib

theorem new_lo {t : List Cs} {g : Int} {c : Tc} (h : madeO t g [] = some c) : ∀ (i : Nat) (k : Kl), c.K[i]? = some k → k.lo = 0 := fun i k hk => by
  have h : newT t g = some c := h
  unfold newT at h
  split at h
  · injection h with h
    subst h
    have hk : (t.map clsK)[i]? = some k := hk
    rw [List.getElem?_map] at hk
    cases ht : t[i]? with
    | none => rw [ht] at hk; cases hk
    | some q => rw [ht] at hk; injection hk with hk; subst hk; rfl
  · cases h
/-- The objects of a class in the first batches. -/
def gat (kk : Nat) (L : List (Nat × List Int)) (j : Nat) : List Int := ((L.take j).filter (fun x => x.1 == kk)).flatMap (·.2)
theorem gat_yes {kk j : Nat} {L : List (Nat × List Int)} {x : Nat × List Int} (h : L[j]? = some x) (hx : x.1 = kk) : gat kk L (j + 1) = gat kk L j ++ x.2 := by
  unfold gat
  rw [List.take_add_one, h, List.filter_append]
  simp [hx]
theorem gat_no {kk j : Nat} {L : List (Nat × List Int)} {x : Nat × List Int} (h : L[j]? = some x) (hx : ¬ x.1 = kk) : gat kk L (j + 1) = gat kk L j := by
  unfold gat
  rw [List.take_add_one, h, List.filter_append]
  simp [hx]
theorem filt_le (p : Nat × List Int → Bool) (M : List (Nat × List Int)) : ((M.filter p).flatMap (·.2)).length ≤ (M.flatMap (·.2)).length := by
  induction M with
  | nil => exact Nat.le_refl _
  | cons a t ih =>
    rw [List.filter_cons]
    split
    · rw [List.flatMap_cons, List.flatMap_cons, List.length_append, List.length_append]; omega
    · rw [List.flatMap_cons, List.length_append]; omega
theorem gat_le {L : List (Nat × List Int)} (h40 : L.length ≤ 40) (h256 : ∀ x ∈ L, x.2.length ≤ 256) (kk j : Nat) : (gat kk L j).length ≤ 10240 := Nat.le_trans (filt_le _ _) (flat_le h40 h256 j)
theorem bat_filt (h : Nat → List Int) (kk : Nat) : ∀ Q : List Nat, Q.Nodup → ((batQ h Q).filter (fun x => x.1 == kk)).flatMap (·.2) = if kk ∈ Q then h kk else []
  | [], _ => rfl
  | a :: t, hn => by
    have ih := bat_filt h kk t (List.nodup_cons.1 hn).2
    have ha := (List.nodup_cons.1 hn).1
    unfold batQ at ih ⊢
    rw [List.filterMap_cons]
    by_cases e : h a = []
    · rw [if_pos e]
      dsimp only
      rw [ih]
      by_cases ek : kk = a
      · subst ek
        rw [if_neg ha, if_pos List.mem_cons_self, e]
      · have : (kk ∈ a :: t) ↔ kk ∈ t := by simp [ek]
        simp only [this]
    · rw [if_neg e]
      dsimp only
      rw [List.filter_cons]
      by_cases ek : a = kk
      · subst ek
        rw [if_pos (by simp), List.flatMap_cons, ih, if_neg ha, if_pos List.mem_cons_self]
        simp
      · rw [if_neg (by simpa using ek), ih]
        have : (kk ∈ a :: t) ↔ kk ∈ t := by simp [Ne.symm ek]
        simp only [this]
theorem gat_all {c : Tc} {kk : Nat} {k : Kl} (f : Kl → List Int) (hk : c.K[kk]? = some k) : gat kk (batV f (some c)) (batV f (some c)).length = f k := by
  unfold gat
  rw [List.take_of_length_le (Nat.le_refl _)]
  show ((batQ (hK f c.K) (List.range c.K.length)).filter _).flatMap _ = _
  rw [bat_filt _ _ _ List.nodup_range, if_pos (List.mem_range.2 (List.getElem?_eq_some_iff.1 hk).1)]
  unfold hK
  rw [hk]; rfl
theorem set_case {c : Tc} {n i : Nat} {k0 k k' : Kl} (h0 : c.K[n]? = some k0) (hk : c.K[i]? = some k) : ∃ k1, (Tc.mk c.g (c.K.set n k')).K[i]? = some k1 ∧ (k1 = k ∨ (k0 = k ∧ k1 = k')) := by
  show ∃ k1, (c.K.set n k')[i]? = some k1 ∧ _
  rw [List.getElem?_set]
  have hl := (List.getElem?_eq_some_iff.1 h0).1
  by_cases e : n = i
  · subst e
    rw [if_pos rfl, if_pos hl]
    rw [h0] at hk
    injection hk with hk
    exact ⟨k', rfl, .inr ⟨hk, rfl⟩⟩
  · rw [if_neg e]
    exact ⟨k, hk, .inl rfl⟩
theorem iat_from {P : Nat → Prop} {w : World} {A : Option Addr} {l : List Int} {c n : Nat} (h : IAt P w A l) (hc : l.length ≤ c) : IAt P w (if c = n then A else A.map (·.add n)) (l.drop n) := fun i a hi => by
  rw [List.getElem?_drop] at hi
  obtain ⟨g, o, e, h1, h2, h3, h4⟩ := h (n + i) a hi
  have hl := (List.getElem?_eq_some_iff.1 hi).1
  rw [if_neg (by omega), e]
  exact ⟨g, o + n, by rw [Option.map_some, Addr.add_lit], h1, h2, by rw [Nat.add_assoc]; exact h3, h4⟩
theorem drop_at {c : Tc} {i : Nat} {k : Kl} (h : c.K[i]? = some k) : (Tc.mk c.g (c.K.map scavK)).K[i]? = some (scavK k) := by
  show (c.K.map scavK)[i]? = _
  rw [List.getElem?_map, h]; rfl
theorem at_map9 {c : Tc} {i : Nat} {k : Kl} (f : Kl → Kl) (h : c.K[i]? = some k) : (Tc.mk c.g (c.K.map f)).K[i]? = some (f k) := by
  show (c.K.map f)[i]? = _
  rw [List.getElem?_map, h]; rfl
theorem drainK_low (k : Kl) : (drainK k).l.length = 0 ∧ (drainK k).lo = 0 := by
  refine ⟨?_, ?_⟩
  · show (k.l.drop k.l.length).length = 0
    rw [List.length_drop]; omega
  · show min k.lo (k.l.length - k.l.length) = 0
    omega
theorem low_law {c : Tc} {x : Ak} {i : Nat} {k : Kl} (hk : c.K[i]? = some k) (hw : KWf k) (h4 : x.k ≠ 4) : ∃ c1 k1, dkD (some c) x = some c1 ∧ c1.K[i]? = some k1 ∧ min k.lo k1.l.length = k1.lo ∧ (x.k = 5 → k1.lo = 0) := by
  have hlo := hw.low
  have here : dkD (some c) x = some c → x.k ≠ 5 → ∃ c1 k1, dkD (some c) x = some c1 ∧ c1.K[i]? = some k1 ∧ min k.lo k1.l.length = k1.lo ∧ (x.k = 5 → k1.lo = 0) := fun e h5 => ⟨c, k, e, hk, by omega, fun h => absurd h h5⟩
  have sett : ∀ k0 k', atK (some c) x.c = some k0 → dkD (some c) x = setK (some c) x.c k' → x.k ≠ 5 → (k0 = k → min k.lo k'.l.length = k'.lo) → ∃ c1 k1, dkD (some c) x = some c1 ∧ c1.K[i]? = some k1 ∧ min k.lo k1.l.length = k1.lo ∧ (x.k = 5 → k1.lo = 0) := fun k0 k' ha e h5 hq => by
    obtain ⟨_, h1⟩ := atK_some ha
    obtain ⟨k1, e1, e2⟩ := set_case (k' := k') h1 hk
    refine ⟨_, k1, e, e1, ?_, fun h => absurd h h5⟩
    rcases e2 with rfl | ⟨e2, rfl⟩
    · omega
    · exact hq e2
  by_cases h0 : x.k = 0
  · obtain ⟨e1, _, _⟩ := dk0 (some c) x h0
    cases ha : atK (some c) x.c with
    | none => exact here (by rw [e1]; unfold tkD; rw [ha]) (by omega)
    | some k0 =>
      by_cases hn : k0.l = []
      · refine sett k0 (missK k0) ha (by rw [e1]; unfold tkD; rw [ha]; dsimp only; rw [if_pos hn]) (by omega) (fun e => ?_)
        subst e
        show min k0.lo k0.l.length = k0.lo
        omega
      · refine sett k0 (popK k0) ha (by rw [e1]; unfold tkD; rw [ha]; dsimp only; rw [if_neg hn]) (by omega) (fun e => ?_)
        subst e
        show min k0.lo k0.l.dropLast.length = min k0.lo (k0.l.length - 1)
        rw [List.length_dropLast]
  by_cases h1 : x.k = 1
  · exact here (dk1 (some c) x h1).1 (by omega)
  by_cases h2 : x.k = 2
  · obtain ⟨e1, _, _⟩ := dk2 (some c) x h2
    cases ha : atK (some c) x.c with
    | none => exact here (by rw [e1]; unfold flD; rw [ha]) (by omega)
    | some k0 =>
      by_cases hn : 256 < k0.l.length + x.l.length
      · exact here (by rw [e1]; unfold flD; rw [ha]; exact if_pos hn) (by omega)
      · refine sett k0 (addK k0 x.l) ha (by rw [e1]; unfold flD; rw [ha]; dsimp only; rw [if_neg hn]) (by omega) (fun e => ?_)
        subst e
        show min k0.lo (k0.l ++ x.l.reverse).length = k0.lo
        rw [List.length_append]; omega
  by_cases h3 : x.k = 3
  · obtain ⟨e1, _, _⟩ := dk3 (some c) x h3
    cases ha : atK (some c) x.c with
    | none => exact here (by rw [e1]; unfold ptD; rw [ha]) (by omega)
    | some k0 =>
      by_cases hn : 256 < k0.l.length + 1
      · exact here (by rw [e1]; unfold ptD; rw [ha]; exact if_pos hn) (by omega)
      · refine sett k0 (ptK k0 x.a) ha (by rw [e1]; unfold ptD; rw [ha]; dsimp only; rw [if_neg hn]) (by omega) (fun e => ?_)
        subst e
        have el : (k0.l ++ [x.a].reverse).length = k0.l.length + 1 := by simp
        unfold ptK
        split
        · show min k0.lo (k0.l ++ [x.a].reverse).length = k0.lo
          rw [el]; omega
        · show min k0.lo ((k0.l ++ [x.a].reverse).drop (overN (addK k0 [x.a]))).length = min k0.lo ((k0.l ++ [x.a].reverse).length - overN (addK k0 [x.a]))
          rw [List.length_drop]
  by_cases h5 : x.k = 5
  · obtain ⟨e1, _, _⟩ := dk5 (some c) x h5
    exact ⟨_, drainK k, by rw [e1]; rfl, at_map9 drainK hk, by rw [(drainK_low k).1, (drainK_low k).2]; omega, fun _ => (drainK_low k).2⟩
  · exact here (dk6 (some c) x (by omega)).1 h5

set_option maxRecDepth 100000 in
set_option maxHeartbeats 8000000 in
theorem low_walk (A0 : Option Addr) (c0 : Nat) (t : List Cs) (g : Int) (A : Option Addr) (cp : Nat) (l : List Ak) (n : Nat) (hn : n ≤ 255) (w : World) (ht : t.length ≤ 9223372036854775807) (hT : TabAt w w.heap.size A0 t) (hl : l.length ≤ 9223372036854775807) (hA : ActsAt w w.heap.size A l) :
    Calls Try.prog 8 #[.slice A0 t.length c0, .int .i64 g, .slice A l.length cp, .int .u8 n] w (Yes w) := by
  have HAL := Lib.hid alive_any
  have HT := Lib.hid hT
  have HG := Lib.hid (great_any A cp l w hl hA)
  obtain ⟨i0, hi, hz0, hz1, hz2⟩ := info_parts info3
  have HA := Lib.hid hA
  by_cases hg : grB l = true
  · rw [hg] at HG
    generalize t.length = tn at *
    generalize l.length = ln at *
    clear hT hA hg
    go_enter Try.func8, Try.ntmps8
    go_wp2_with fail
    refine HG.out.mono ?_
    rintro e _ ⟨rfl, rfl⟩
    go_wp2_with fail
    refine (HAL.out _).mono ?_
    rintro e w2 ⟨rfl, hb⟩
    have HF := Lib.hid hb
    clear hb
    go_wp2_with fail
    go_ret
    exact ⟨rfl, HF.out⟩
  have hg' : grB l = false := by simpa using hg
  rw [hg'] at HG
  have HM := Lib.hid (show Calls Try.prog 22 #[.slice A0 t.length c0, .int .i64 g, .slice none 0 0] w (MadeP w (madeO t g [])) from made_law A0 c0 t g none 0 [] w ht hT (by decide) (Nat.le_refl _) (ActsAt.nil w w.heap.size none))
  cases hm : madeO t g [] with
  | none =>
    rw [hm] at HM
    generalize t.length = tn at *
    generalize l.length = ln at *
    clear hT hA hg hg' hm
    go_enter Try.func8, Try.ntmps8
    go_wp2_with fail
    refine HG.out.mono ?_
    rintro e _ ⟨rfl, rfl⟩
    go_wp2_with fail
    refine HM.out.mono ?_
    intro e w1 hp
    obtain ⟨rfl, hb1⟩ := hp.no
    have HB1 := Lib.hid hb1
    clear hp hb1
    go_wp2_with fail
    refine (HAL.out _).mono ?_
    rintro e w2 ⟨rfl, hb⟩
    have HF := Lib.hid (btr HB1.out hb (Nat.le_refl _))
    clear hb
    go_wp2_with fail
    go_ret
    exact ⟨rfl, HF.out⟩
  | some c =>
    rw [hm] at HM
    have HKN := Lib.hid (made_kin hm)
    have HLN := Lib.hid HKN.out.2.2.len
    have ht40 := okT_len HKN.out.1
    have HZ := Lib.hid (new_lo hm)
    obtain ⟨tn, htn⟩ : ∃ tn, t.length = tn := ⟨_, rfl⟩
    rw [htn] at HM HLN ht ht40 ⊢
    obtain ⟨ln, hln⟩ : ∃ ln, l.length = ln := ⟨_, rfl⟩
    rw [hln] at HG hl ⊢
    have HL := Lib.hid hln
    have HTN := Lib.hid htn
    clear hT hA hg hg' hm htn hln
    obtain ⟨kk, hkk⟩ : ∃ kk, n % tn = kk := ⟨_, rfl⟩
    have hkt : kk < tn := by rw [← hkk]; exact Nat.mod_lt _ (by omega)
    have HE := Lib.hid (show IntKind.i64.wrap (n : Int) = n ∧ (n : Int).tmod (tn : Int) = (kk : Int) ∧ (n : Int) % (tn : Int) = (kk : Int) ∧ IntKind.i64.wrap (kk : Int) = kk ∧ wrap64 (n : Int) = n ∧ wrap64 (kk : Int) = kk from
      ⟨(w64 _ (by omega)).2, by rw [Int.tmod_eq_emod_of_nonneg (by omega), ← hkk, Int.natCast_emod], by rw [← hkk, Int.natCast_emod], (w64 _ (by omega)).2, (w64 _ (by omega)).1, (w64 _ (by omega)).1⟩)
    have y0 : ¬ tn = 0 := by omega
    have y1 : ((tn : Int) == 0) = false := by simpa using y0
    have y2 : ((tn : Int) != 0) = true := by simpa using y0
    clear hkk hn
    go_enter Try.func8, Try.ntmps8
    go_wp2_with fail
    refine HG.out.mono ?_
    rintro e _ ⟨rfl, rfl⟩
    go_wp2_with fail
    refine HM.out.mono ?_
    intro e w1 hp
    obtain ⟨B, O, rfl, ho⟩ := hp.yes
    have HO := Lib.hid ho
    have HWF := Lib.hid ho.ob.wf
    clear hp ho HM HG
    obtain ⟨e1, e2, e3, e4, e5, e6⟩ := HE.out
    go_wp2_with fail
    clear e1 e2 e3 e4 e5 e6 y0 y1 y2
    go_loopw [11, 12] (fun lw i wr => ∃ (k : Nat) (c : Tc) (O : Nat → Prop) (kq : Kl), k ≤ ln ∧ i = .int .i64 k ∧ lw = .int .i64 kq.lo ∧ c.K[kk]? = some kq ∧ Own false w wr (.pointer (some ⟨B, 0, none⟩)) (some c) O) (fun _ i _ => ln - (intOf i).toNat)
    case atStart => exact ⟨0, c, O, c.K[kk]'(by rw [HLN.out]; exact hkt), by omega, rfl, by rw [HZ.out kk _ (List.getElem?_eq_getElem (by rw [HLN.out]; exact hkt))]; rfl, List.getElem?_eq_getElem (by rw [HLN.out]; exact hkt), HO.out⟩
    case round =>
      clear HO HZ HWF HKN HLN
      obtain ⟨k, c, O, kq, hk, rfl, rfl, hkq, hO⟩ := hrel
      have HO := Lib.hid hO
      have hin : InR (kk : Int) := InR.nat (by omega)
      by_cases hlt : k < ln
      · obtain ⟨x, hx⟩ : ∃ x, l[k]? = some x := ⟨_, List.getElem?_eq_getElem (by have := HL.out; omega)⟩
        have HX := Lib.hid (fun W (hb : Below w.heap.size w W) => (HA.out.below hb) k x hx)
        obtain ⟨xk, xc, xa, xl⟩ := x
        obtain ⟨bb, o, u, rfl, hB, g1, g2, g3, g4, hv⟩ := HX.out _ hO.bel
        dsimp only at g1 g2 g3 g4
        have hkw := hO.ob.wf.k kq (List.mem_of_getElem? hkq)
        have HKW := Lib.hid hkw
        have HKQ := Lib.hid hkq
        have HOB := Lib.hid (cObjects_own hO.ob hin)
        rw [objT_at hkq] at HOB
        unfold ObjC at HOB
        obtain ⟨kl, hkl⟩ : ∃ kl, kq.l = kl := ⟨_, rfl⟩
        have HKL := Lib.hid hkl
        rw [hkl] at HOB
        obtain ⟨m, hm⟩ : ∃ m, kl.length = m := ⟨_, rfl⟩
        have HM := Lib.hid hm
        rw [hm] at HOB
        obtain ⟨lo, hlo⟩ : ∃ lo, kq.lo = lo := ⟨_, rfl⟩
        have HLO := Lib.hid hlo
        rw [hlo]
        have hm256 : m ≤ 256 := by rw [← hm, ← hkl]; exact hkw.len
        have hlm : lo ≤ m := by rw [← hm, ← hkl, ← hlo]; exact hkw.low
        have HIN := Lib.hid hin
        clear hkl hm hlo hkw hkq hx hv hO hin g2 g3 g4
        go_wp2_with fail
        refine HOB.out.mono ?_
        rintro e w2 ⟨A2, c2, rfl, hrow, hb⟩
        have HO2 := Lib.hid (HO.out.below hb)
        rw [← HM.out] at hrow
        obtain ⟨hi9, hcap, hcm⟩ := own_iat hrow
        rw [HM.out] at hcap
        have HI2 := Lib.hid (hi9.mono (P' := fun g => g < w2.heap.size ∧ ¬ O g) fun g h1 h2 => ⟨h1, fun ho => by have := HO.out.ob.lt g ho; have h2 : wr.heap.size ≤ g := h2; omega⟩)
        have HCM := Lib.hid hcm
        clear g1 hb hrow hi9 HOB hcm
        obtain ⟨bb', o', u', e', _, g1, g2, g3, g4, hv⟩ := HX.out _ HO2.out.bel
        cases e'
        try dsimp only at g1 g2 g3 g4
        have HV := Lib.hid hv
        clear hv
        by_cases h4 : xk = 4
        · subst h4
          have HSC := Lib.hid (cScavenge_any HO2.out.ob)
          unfold RmsP at HSC
          have HLV := Lib.hid (batV_le HO2.out.ob scavV_le)
          have HGA := Lib.hid (gat_all scavV HKQ.out)
          have HGL := Lib.hid (fun j => gat_le HLV.out.1 (fun y hy => (HLV.out.2 y hy).2) kk j)
          have hb40 := HLV.out.1
          obtain ⟨bl, hbl⟩ : ∃ bl, batV scavV (some c) = bl := ⟨_, rfl⟩
          rw [hbl] at HSC HLV HGA HGL hb40
          obtain ⟨bm, hbm⟩ : ∃ bm, bl.length = bm := ⟨_, rfl⟩
          have HBM := Lib.hid hbm
          rw [hbm] at HSC HGA hb40
          clear hbl hbm g2 g3 g4
          go_wp2_with fail
          refine HSC.out.mono ?_
          rintro e w3 ⟨A5, c5, rfl, O5, m1, m2, m3, m4⟩
          have H3 := Lib.hid (HO2.out.turn m1 m2 m3)
          have HB4 := Lib.hid m4
          have HI3 := Lib.hid ((HI2.out.keep m3 (fun g h1 h2 => h1.2 h2)).mono (P' := fun g => ¬ O5 g) fun g _ h2 h3 => by
            rcases m2 g h3 with h3 | h3
            · exact h2.2 h3
            · have := h2.1; omega)
          clear m1 m2 m3 m4 HSC g1
          go_wp2_with fail
          go_loopw [14, 16] (fun V i wz => ∃ j : Nat, j ≤ bm ∧ i = .int .i64 j ∧ wz.ownsRow w3.heap.size 3 1 V (gat kk bl j).length (cZ (gat kk bl j)) ∧ (∀ a ∈ gat kk bl j, InR a) ∧ Below w3.heap.size w3 wz) (fun _ i _ => bm - (intOf i).toNat)
          case atStart => exact ⟨0, by omega, rfl, World.ownsRow_nil _ _ _ _, (fun a ha => by cases ha), Below.refl _ _⟩
          case round =>
            obtain ⟨j, hj, rfl, hrow, hin2, hB⟩ := hrel
            have HR := Lib.hid (And.intro hrow (And.intro hin2 hB))
            obtain ⟨A1, c1, rfl⟩ := owns_form hrow
            have hgl := HGL.out j
            by_cases hlt2 : j < bm
            · obtain ⟨y, hy⟩ : ∃ y, bl[j]? = some y := ⟨_, List.getElem?_eq_getElem (by rw [HBM.out]; exact hlt2)⟩
              obtain ⟨gg, oo, A7, c7, rfl, _, _, f0, f1, i1⟩ := (HB4.out.below hB) j y hy
              have hyb := HLV.out.2 y (List.mem_of_getElem? hy)
              by_cases hyk : y.1 = kk
              · rw [hyk] at f0
                obtain ⟨g', o', rfl, _, _, hc⟩ := i1.some (List.length_pos_iff.2 hyb.1)
                have HS := Lib.hid (And.intro hc (And.intro (gat_yes hy hyk) i1.inr))
                obtain ⟨q, hq⟩ : ∃ q, y.2.length = q := ⟨_, rfl⟩
                have HQL := Lib.hid (show (cZ y.2).length = q * 1 from by rw [cZ_len, Nat.mul_one]; exact hq)
                have hyl := hyb.2
                rw [hq] at f1 hyl
                obtain ⟨p, hp⟩ : ∃ p, (gat kk bl j).length = p := ⟨_, rfl⟩
                rw [hp] at hrow hgl HR
                rw [hp]
                have HPQ := Lib.hid (And.intro hp hq)
                have hsz := hB.size
                clear hy hyb hc hq hrow hin2 hB hp i1 hyk
                go_wp2_with (at_builtin; refine wpList_append_own _ rfl _ _ 33 rfl w3.heap.size 3 i0 (.int .i64 0) 1 8 undInts hi hz0 hz1 hz2 rfl (by decide) _ _ _ rfl HR.out.1 ⟨g', o', none⟩ q c7 (cZ y.2) rfl HQL.out HS.out.1 (cZ_one _) (by unfold maxLen; omega) (by omega) hsz ?_; intro v' w9 hown hgrow _; have HO9 := Lib.hid (And.intro hown hgrow); clear hown hgrow)
                go_roundw
                case rel =>
                  refine ⟨j + 1, by omega, by go_num, ?_, ?_, HR.out.2.2.grown HO9.out.2 hsz (fun i hi => (HR.out.1.lt i hi).1)⟩
                  · rw [HS.out.2.1, List.length_append, cZ_app, HPQ.out.1, HPQ.out.2]
                    exact HO9.out.1
                  · rw [HS.out.2.1]
                    intro a ha
                    rcases List.mem_append.1 ha with h1 | h1
                    · exact HR.out.2.1 a h1
                    · exact HS.out.2.2 a h1
                case measure => simp [intOf]; omega
              · have HG := Lib.hid (gat_no hy hyk)
                have hyk' : ((y.1 : Int) == (kk : Int)) = false := by simp only [beq_eq_false_iff_ne, ne_eq]; omega
                have hyk2 : (y.1 == kk) = false := by simpa using hyk
                obtain ⟨y1, hy1⟩ : ∃ y1, y.1 = y1 := ⟨_, rfl⟩
                rw [hy1] at f0 hyk' hyk2
                obtain ⟨p, hp⟩ : ∃ p, (gat kk bl j).length = p := ⟨_, rfl⟩
                have HP := Lib.hid hp
                rw [hp] at hrow hgl HR
                rw [hp]
                clear hy hyb hrow hin2 hB hp i1 hyk hy1 f1
                go_wp2_with fail
                go_roundw
                case rel => exact ⟨j + 1, by omega, by go_num, by rw [HG.out, HP.out]; exact HR.out.1, by rw [HG.out]; exact HR.out.2.1, HR.out.2.2⟩
                case measure => simp [intOf]; omega
            · obtain rfl : j = bm := by omega
              obtain ⟨sn, hsn⟩ : ∃ sn, (lo + 1) / 2 = sn := ⟨_, rfl⟩
              have hsv : gat kk bl j = kl.take sn := by rw [HGA.out]; unfold scavV scavN; rw [HKL.out, HLO.out, hsn]
              rw [hsv] at hrow hin2 hgl HR ⊢
              have hsm : sn ≤ m := by omega
              have htl : (kl.take sn).length = sn := by rw [List.length_take, HM.out]; omega
              have HTL := Lib.hid htl
              rw [htl] at hrow hgl ⊢
              have HR2 := Lib.hid (show IAt (fun g => w3.heap.size ≤ g) wr A1 (kl.take sn) from (own_off hrow).1.iat (own_off hrow).2 hin2)
              obtain ⟨r, hr⟩ : ∃ r, m - sn = r := ⟨_, rfl⟩
              have H9 := Lib.hid (H3.out.below HR.out.2.2)
              have HI9 := Lib.hid (HI3.out.below HR.out.2.2)
              have hk9 := drop_at HKQ.out
              have hl9 : (scavK kq).l = kl.drop sn := by show kq.l.drop (scavN kq) = _; unfold scavN; rw [HKL.out, HLO.out, hsn]
              have hdl : (kl.drop sn).length = r := by rw [List.length_drop, HM.out]; exact hr
              have hlo9 : (scavK kq).lo = r := by show kq.l.length - scavN kq = r; unfold scavN; rw [HKL.out, HLO.out, hsn, HM.out]; exact hr
              have HK9 := Lib.hid (And.intro hk9 (And.intro hl9 hlo9))
              have HDL := Lib.hid hdl
              have hs1 := sl_to A2 m c2 sn (by omega)
              have hs2 := sl_from A2 m c2 sn hsm
              rw [hr] at hs2
              have HI8 := Lib.hid (iat_from (n := sn) (c := c2) HI9.out (by rw [HM.out]; exact hcap))
              generalize (if c2 = sn then A2 else A2.map (·.add sn)) = A8 at *
              have HCI1 := Lib.hid (fun (w' : World) (hb : Below wr.heap.size wr w') => show Calls Try.prog 25 #[.slice A1 sn c1, .slice A2 sn c2] w' (Yes w') from by
                have := Ints_any A1 A2 c1 c2 (kl.take sn) w' (by rw [HTL.out]; omega) (HR2.out.below hb) ((HI9.out.below hb).take sn)
                rw [HTL.out] at this
                exact this)
              have HCO := Lib.hid (fun (w' : World) (hb : Below wr.heap.size wr w') => show Calls Try.prog 23 #[.pointer (some ⟨B, 0, none⟩), .int .i64 kk] w' (ObjP w' (kl.drop sn)) from by
                have := cObjects_any (H9.out.below hb).ob HIN.out
                rw [show objT (mapK scavK (some c)) kk = kl.drop sn from (objT_at HK9.out.1).trans HK9.out.2.1] at this
                exact this)
              have HCI2 := Lib.hid (fun (w' : World) (A6 : Option Addr) (c6 : Nat) (hb : Below wr.heap.size wr w') (hi6 : IAt (fun g => wr.heap.size ≤ g) w' A6 (kl.drop sn)) => show Calls Try.prog 25 #[.slice A6 r c6, .slice A8 r (c2 - sn)] w' (Yes w') from by
                have := Ints_any A6 A8 c6 (c2 - sn) (kl.drop sn) w' (by rw [HDL.out]; omega) hi6 (HI8.out.below hb)
                rw [HDL.out] at this
                exact this)
              have HLN := Lib.hid (fun (w' : World) (hb : Below wr.heap.size wr w') => show Calls Try.prog 28 #[.pointer (some ⟨B, 0, none⟩), .int .i64 kk] w' (fun e w'' => e = .returned (.int .i64 (r : Nat)) ∧ w' = w'') from by
                have := cLen_any (H9.out.below hb).ob HIN.out
                rw [show lenT (mapK scavK (some c)) kk = r from (lenT_at HK9.out.1).trans (by rw [HK9.out.2.1]; exact HDL.out)] at this
                exact this)
              have HLW := Lib.hid (fun (w' : World) (hb : Below wr.heap.size wr w') => show Calls Try.prog 31 #[.pointer (some ⟨B, 0, none⟩), .int .i64 kk] w' (fun e w'' => e = .returned (.int .i64 (r : Nat)) ∧ w' = w'') from by
                have := cLow_any (H9.out.below hb).ob HIN.out
                rw [show lowT (mapK scavK (some c)) kk = r from (lowT_at HK9.out.1).trans HK9.out.2.2] at this
                exact this)
              unfold ObjP at HCO
              rw [HDL.out] at HCO
              have t1 : ((lo : Int) + 1).tdiv 2 = (sn : Int) := by rw [Int.tdiv_eq_ediv_of_nonneg (by omega)]; omega
              have t2 : ((lo : Int) + 1) / 2 = (sn : Int) := by omega
              have t3 : decide (m < sn) = false := decide_eq_false (by omega)
              have t4 : (0 : Int) ≤ (sn : Int) := by omega
              have W1 := Lib.hid (w64 ((lo : Int) + 1) (by omega))
              have W2 := Lib.hid (w64 (sn : Int) (by omega))
              have hsc2 : sn ≤ c2 := by omega
              clear hk9 hl9 hdl hlo9 hsv htl hrow hin2 hB hsn hgl hr
              obtain ⟨q1, q2⟩ := W1.out
              obtain ⟨q3, q4⟩ := W2.out
              go_wp2_with fail
              clear q1 q2 t1 t2
              go_region_held3 (fun _ => True)
                (exact True.intro)
                (first
                | (go_at_call 23; refine (HCO.out _ hb4).mono ?_; rintro e w5 ⟨A6, c6, rfl, hi6, hb⟩; have hb5 := btr hb4 hb (Nat.le_refl _); clear hb)
                | (go_at_call 25; refine (HCI2.out _ _ _ hb5 (hi6.mono fun g _ h => Nat.le_trans hb4.size h)).mono ?_; rintro e w6 ⟨rfl, hb⟩; have hb6 := btr hb5 hb (Nat.le_refl _); clear hb)
                | (go_at_call 25; refine (HCI1.out _ (belowN (Below.refl _ _) _)).mono ?_; rintro e w4 ⟨rfl, hb⟩; have hb4 := btr (belowN (Below.refl wr.heap.size wr) _) hb (Nat.le_refl _); clear hb))
              have HB6 := Lib.hid hb6
              clear hb4 hb5 hb6 hi6 hs1 hs2 t3 t4 q3 q4
              obtain ⟨bb', o', u', e', _, g1, _, _, _, _⟩ := HX.out _ (H9.out.below HB6.out).bel
              cases e'
              try dsimp only at g1
              go_wp2_with fail
              refine (HLN.out _ HB6.out).mono ?_
              rintro e _ ⟨rfl, rfl⟩
              go_wp2_with fail
              refine (HLW.out _ HB6.out).mono ?_
              rintro e _ ⟨rfl, rfl⟩
              go_wp2_with fail
              refine (HLW.out _ HB6.out).mono ?_
              rintro e _ ⟨rfl, rfl⟩
              go_wp2_with fail
              refine (HLN.out _ HB6.out).mono ?_
              rintro e _ ⟨rfl, rfl⟩
              go_wp2_with fail
              go_roundw
              case rel => exact ⟨k + 1, _, O5, scavK kq, by omega, by go_num, by rw [HK9.out.2.2], HK9.out.1, H9.out.below HB6.out⟩
              case measure => simp [intOf]; omega
        · have h4' : (xk == 4) = false := by simpa using h4
          obtain ⟨c1, k1, hc1, hk1, hmin, h5⟩ := low_law (x := ⟨xk, xc, xa, xl⟩) HKQ.out HKW.out h4
          have HDO := Lib.hid (do_any ⟨xk, xc, xa, xl⟩ HO2.out.ob (N0 := w.heap.size) HO2.out.bel.size HO2.out.nw HV.out)
          unfold DoP at HDO
          rw [hc1] at HDO
          have HK1 := Lib.hid hk1
          rw [HLO.out] at hmin
          dsimp only at h5
          have HM5 := Lib.hid (And.intro hmin h5)
          generalize dkV (some c) (⟨xk, xc, xa, xl⟩ : Ak) = dv at *
          generalize dkE (some c) (⟨xk, xc, xa, xl⟩ : Ak) = de at *
          clear hc1 hk1 hmin h5 h4
          go_wp2_with fail
          refine HDO.out.mono ?_
          rintro e w3 ⟨A5, c5, rfl, O5, m1, m2, m3, _⟩
          have H3 := Lib.hid (HO2.out.turn m1 m2 m3)
          clear m1 m2 m3 g1 g2 g3 g4 HDO
          obtain ⟨bb', o', u', e', _, g1, _, _, _, _⟩ := HX.out _ H3.out.bel
          cases e'
          try dsimp only at g1
          have HLN := Lib.hid (cLen_any H3.out.ob HIN.out)
          rw [lenT_at HK1.out] at HLN
          have HLW := Lib.hid (cLow_any H3.out.ob HIN.out)
          rw [lowT_at HK1.out] at HLW
          have hw1 := H3.out.ob.wf.k k1 (List.mem_of_getElem? HK1.out)
          have hn1 := hw1.len
          have hlo1 := hw1.low
          obtain ⟨m9, hm9⟩ : ∃ m9, k1.l.length = m9 := ⟨_, rfl⟩
          obtain ⟨l9, hl9⟩ : ∃ l9, k1.lo = l9 := ⟨_, rfl⟩
          have HL9 := Lib.hid hl9
          rw [hm9] at HLN HM5 hn1 hlo1
          rw [hl9] at HLW HM5 hlo1
          clear hw1 hm9 hl9
          have hmi2 : min lo m9 = l9 := HM5.out.1
          have hmi : min (lo : Int) (m9 : Int) = (l9 : Int) := by omega
          have d1 : decide (m9 < l9) = false := decide_eq_false (by omega)
          go_wp2_with fail
          refine HLN.out.mono ?_
          rintro e _ ⟨rfl, rfl⟩
          by_cases h5 : xk = 5
          · have hz : l9 = 0 := HM5.out.2 h5
            subst h5
            subst hz
            go_wp2_with fail
            refine HLW.out.mono ?_
            rintro e _ ⟨rfl, rfl⟩
            go_wp2_with fail
            refine HLW.out.mono ?_
            rintro e _ ⟨rfl, rfl⟩
            go_wp2_with fail
            refine HLN.out.mono ?_
            rintro e _ ⟨rfl, rfl⟩
            go_wp2_with fail
            go_roundw
            case rel => exact ⟨k + 1, c1, O5, k1, by omega, by go_num, by rw [HL9.out]; rfl, HK1.out, H3.out⟩
            case measure => simp [intOf]; omega
          · have h5' : (xk == 5) = false := by simpa using h5
            clear h5
            go_wp2_with fail
            refine HLW.out.mono ?_
            rintro e _ ⟨rfl, rfl⟩
            go_wp2_with fail
            refine HLW.out.mono ?_
            rintro e _ ⟨rfl, rfl⟩
            go_wp2_with fail
            refine HLN.out.mono ?_
            rintro e _ ⟨rfl, rfl⟩
            go_wp2_with fail
            go_roundw
            case rel => exact ⟨k + 1, c1, O5, k1, by omega, by go_num, by rw [HL9.out], HK1.out, H3.out⟩
            case measure => simp [intOf]; omega
      · go_wp2_with fail
        refine (HAL.out _).mono ?_
        rintro e w9 ⟨rfl, hb⟩
        have HF := Lib.hid (btr HO.out.bel hb (Nat.le_refl _))
        clear hb
        go_wp2_with fail
        go_ret
        exact ⟨rfl, HF.out⟩
end Go.Proofs.Yticcjelaenhigaa
