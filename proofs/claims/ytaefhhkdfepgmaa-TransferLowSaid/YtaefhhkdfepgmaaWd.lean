/- The statement about idle caches: five Ticks evict everything. -/
import Derived.Test.YtaefhhkdfepgmaaWc
namespace Go.Proofs.Ytaefhhkdfepgmaa
open Go.RowKit Go.Lib

def tk (c : Tc) : Tc := { c with L := c.L.drop ((c.lo + 1) / 2), lo := (c.L.drop ((c.lo + 1) / 2)).length }
def tkK : Nat → Tc → Tc
  | 0, c => c
  | k + 1, c => tk (tkK k c)
theorem tk_out (c : Tc) : outD (half (some c)) (some c) = some (tk c) := rfl
theorem tk_len (c : Tc) : (tk c).L.length = c.L.length - (c.lo + 1) / 2 ∧ (tk c).lo = (tk c).L.length := ⟨by show (c.L.drop _).length = _; rw [List.length_drop], rfl⟩
theorem tk_five {c : Tc} (h : TWf c) : (tkK 5 c).L = [] := by
  have h1 := h.low
  have h2 := h.len
  have h3 := h.r2
  have a1 := tk_len (tkK 0 c)
  have a2 := tk_len (tkK 1 c)
  have a3 := tk_len (tkK 2 c)
  have a4 := tk_len (tkK 3 c)
  have a5 := tk_len (tkK 4 c)
  simp only [tkK] at *
  refine List.length_eq_zero_iff.1 ?_
  omega

structure IdM (w w0 w1 wr : World) (v : Value) (oc : Option Tc) (O : Nat → Prop) (s : Value) (l : List Int) (A : Option Addr) (obs : List Int) : Prop where
  own : Own false w wr v oc O
  row : wr.ownsRow w1.heap.size 3 1 s l.length (cZ l)
  dj : ∀ g, s.ownBlock = some g → ¬ O g
  all : IAt (fun k => w0.heap.size ≤ k ∧ k < w1.heap.size) wr A obs
  sz : w1.heap.size ≤ wr.heap.size
  bl : ∀ k, isB v k → k < w0.heap.size
  hw : w.heap.size ≤ w1.heap.size
section
variable {w w0 w1 wr w2 w3 : World} {v s s' : Value} {oc oc' : Option Tc} {O : Nat → Prop} {l z obs : List Int} {A A' : Option Addr} {L : List (List Int)}
theorem owns_block {w w' : World} {B e size n : Nat} {v : Value} {xs : List Value} (h : w.ownsRow B e size v n xs) (hb : ∀ g, v.ownBlock = some g → g < w.heap.size → w'.heap[g]? = w.heap[g]?) : w'.ownsRow B e size v n xs := by
  obtain ⟨h1, h2⟩ := h
  refine ⟨h1, ?_⟩
  rcases h2 with h0 | ⟨g, cap, cur, rfl, b, hg, c⟩
  · exact .inl h0
  · exact .inr ⟨g, cap, cur, rfl, b, by rw [hb g rfl (Array.getElem?_eq_some_iff.1 hg).1]; exact hg, c⟩
theorem IdM.tick (h : IdM w w0 w1 wr v oc O s l A obs) (hM : TMut false (isB v) wr O v oc' w2) : IdM w w0 w1 w2 v oc' (Ext O wr w2) s l A obs :=
  ⟨h.own.mut hM h.own.ob.isB, owns_block h.row fun g hg hl => hM.2.block g hl (fun hx => h.dj g hg (h.own.ob.isB g hx)), fun g hg hx => by
      rcases hx with hx | hx
      · exact h.dj g hg hx
      · have := (h.row.lt g hg).2; omega,
    h.all.keep hM.2 (fun k h1 h2 => by have := h.bl k h2; have := h1.1; omega), Nat.le_trans h.sz hM.2.size, h.bl, h.hw⟩
theorem keep_row (hgr : wr.grownBy w3 s.ownBlock) : Keep (fun k => s.ownBlock = some k) wr w3 := ⟨hgr.os, hgr.tape, hgr.output, hgr.size, fun k hk hn => hgr.block k hk (fun e => hn e.symm)⟩
theorem IdM.push (h : IdM w w0 w1 wr v oc O s l A obs) {n : Nat} (hrow : w3.ownsRow w1.heap.size 3 1 s' n (cZ (l ++ z))) (hn : n = (l ++ z).length) (hgr : wr.grownBy w3 s.ownBlock) (hat : s'.ownBlock = s.ownBlock ∨ s'.ownBlock = some wr.heap.size) : IdM w w0 w1 w3 v oc O s' (l ++ z) A obs := by
  have hk := keep_row hgr
  refine ⟨⟨h.own.ob.keep hk (fun k h1 h2 => h.dj k h2 h1), h.own.nw, h.own.bel.trans (hk.below h.own.bel.size (fun k hk => ?_))⟩, hn ▸ hrow, fun g hg hx => ?_, h.all.keep hk (fun k h1 h2 => ?_), Nat.le_trans h.sz hk.size, h.bl, h.hw⟩
  · exact Nat.le_trans h.hw (h.row.lt k hk).1
  · rcases hat with e | e
    · rw [e] at hg; exact h.dj g hg hx
    · rw [e] at hg
      injection hg with hg
      have := h.own.ob.lt g hx
      omega
  · have := (h.row.lt k h2).1
    omega
end

set_option maxRecDepth 100000 in
set_option maxHeartbeats 8000000 in
theorem idle_walk (b r : Int) (A : Option Addr) (cp : Nat) (l : List Ak) (w : World) (hl : l.length ≤ 9223372036854775807) (hA : ActsAt w w.heap.size A l) :
    Calls Try.prog 7 #[.int .i64 b, .int .i64 r, .slice A l.length cp] w (Yes w) := by
  obtain ⟨i0, hi, hz0, hz1, hz2⟩ := info_parts info3
  have HAL := Lib.hid alive_any
  have HG := Lib.hid (great_any A cp l w hl hA)
  have HMD := Lib.hid (fun h1 h60 => made_law b r A cp l w h1 h60 (Nat.le_refl _) hA)
  obtain ⟨L, hL⟩ : ∃ L, l.length = L := ⟨_, rfl⟩
  have HL := Lib.hid hL
  rw [hL] at hl HG HMD ⊢
  clear hA hL
  by_cases hg : grB l = true
  · rw [hg] at HG
    go_enter Try.func7, Try.ntmps7
    go_wp2_with fail
    refine HG.out.mono ?_
    rintro e _ ⟨rfl, rfl⟩
    go_wp2_with fail
    refine (HAL.out _).mono ?_
    rintro e w2 ⟨rfl, hb⟩
    have HF := Lib.hid hb
    clear hb
    go_wp2_with fail
    go_ret
    exact ⟨rfl, HF.out⟩
  have hg' : grB l = false := by simpa using hg
  rw [hg'] at HG
  have HM1 := Lib.hid (HMD.out (by have := (grB_no hg').1; rw [← HL.out]; exact this) (grB_no hg').2)
  obtain ⟨om, hom⟩ : ∃ om, madeO b r l = om := ⟨_, rfl⟩
  rw [hom] at HM1
  clear hg hg' hom HMD
  cases om with
  | none =>
    go_enter Try.func7, Try.ntmps7
    go_wp2_with fail
    refine HG.out.mono ?_
    rintro e _ ⟨rfl, rfl⟩
    go_wp2_with fail
    refine HM1.out.mono ?_
    intro e w3 hm
    obtain ⟨rfl, hb3⟩ := hm.no
    have HB3 := Lib.hid hb3
    clear hm hb3
    go_wp2_with fail
    refine (HAL.out _).mono ?_
    rintro e w5 ⟨rfl, hb⟩
    have HF := Lib.hid (btr HB3.out hb (Nat.le_refl _))
    clear hb
    go_wp2_with fail
    go_ret
    exact ⟨rfl, HF.out⟩
  | some c =>
    go_enter Try.func7, Try.ntmps7
    go_wp2_with fail
    refine HG.out.mono ?_
    rintro e _ ⟨rfl, rfl⟩
    go_wp2_with fail
    refine HM1.out.mono ?_
    intro e w3 hm
    obtain ⟨B, O1, rfl, ho1⟩ := hm.yes
    have HO1 := Lib.hid ho1
    have HWF := Lib.hid ho1.ob.wf
    clear hm ho1 HM1
    go_wp2_with fail
    refine (cObjects_any HO1.out.ob).mono ?_
    rintro e w4 ⟨A4, c4, rfl, hi4, hb4⟩
    have HI := Lib.hid (show IdM w w3 w4 w4 (.pointer (some ⟨B, 0, none⟩)) (some (tkK 0 c)) O1 (.slice none 0 0) [] A4 (objT (some c)) from
      ⟨HO1.out.below hb4, World.ownsRow_nil _ _ _ _, (fun g hg => nomatch hg), fun i a h => (by
        obtain ⟨g, o, e, h1, h2, h3, h4⟩ := hi4 i a h
        exact ⟨g, o, e, h1, ⟨h2, h1⟩, h3, h4⟩), Nat.le_refl _, fun k hk => HO1.out.ob.lt k (HO1.out.ob.isB k hk), Nat.le_trans HO1.out.bel.size hb4.size⟩)
    have HOL := Lib.hid (show (objT (some c)).length ≤ 480 from HO1.out.ob.objs.1)
    clear hi4 hb4 HO1
    obtain ⟨obs, hobs⟩ : ∃ obs, objT (some c) = obs := ⟨_, rfl⟩
    rw [hobs] at HI HOL ⊢
    have HOB := Lib.hid (show obs = c.L.flatten from hobs.symm)
    clear hobs
    obtain ⟨no, hno⟩ : ∃ no, obs.length = no := ⟨_, rfl⟩
    have HNO := Lib.hid hno
    rw [hno]
    clear hno
    go_wp2_with fail
    go_loopw [9, 10] (fun s i wr => ∃ (k : Nat) (O : Nat → Prop) (l : List Int), k ≤ 5 ∧ i = .int .i64 k ∧ IdM w w3 w4 wr (.pointer (some ⟨B, 0, none⟩)) (some (tkK k c)) O s l A4 obs ∧ l ++ (tkK k c).L.flatten = c.L.flatten) (fun _ i _ => 5 - (intOf i).toNat)
    case atStart => exact ⟨0, _, [], by omega, rfl, HI.out, rfl⟩
    case round =>
      clear HI
      obtain ⟨k, O, l, hk, rfl, hI, hfl⟩ := hrel
      have HI := Lib.hid hI
      have HFL := Lib.hid hfl
      obtain ⟨A5, c5, rfl⟩ := owns_form hI.row
      have hll : l.length ≤ no := by
        have h1 := congrArg List.length hfl
        rw [List.length_append, ← HOB.out, HNO.out] at h1
        omega
      have HNL := Lib.hid (show no ≤ 480 by rw [← HNO.out]; exact HOL.out)
      by_cases hlt : k < 5
      · have hT := cTick_any hI.own.ob
        unfold OutP at hT
        rw [tk_out] at hT
        obtain ⟨q, hq⟩ : ∃ q, half (some (tkK k c)) = q := ⟨_, rfl⟩
        have HQ := Lib.hid hq
        have HLE := Lib.hid (outV_le hI.own.ob q)
        have HWK := Lib.hid hI.own.ob.wf
        rw [hq] at hT
        have HT := Lib.hid hT
        clear hI hfl hq hT
        obtain ⟨wk, rfl⟩ : ∃ wk, wk = wr := ⟨_, rfl⟩
        go_wp2_with fail
        refine HT.out.mono ?_
        rintro e w6 ⟨A6, c6, rfl, h5, hl6, hM⟩
        have HI2 := Lib.hid (HI.out.tick hM)
        have HL6 := Lib.hid hl6
        clear h5 hl6 hM
        obtain ⟨LL, hLL⟩ : ∃ LL, outV q (some (tkK k c)) = LL := ⟨_, rfl⟩
        rw [hLL] at HL6 HLE ⊢
        have HLL := Lib.hid (show (tkK k c).L = LL ++ (tk (tkK k c)).L from by
          rw [← hLL, ← HQ.out]
          exact (List.take_append_drop _ _).symm)
        have HLb := Lib.hid (show ∀ x ∈ LL, x.length = (tkK k c).b from fun x hx => HWK.out.sz x (by rw [← hLL] at hx; exact List.mem_of_mem_take hx))
        have HB1 := Lib.hid (show 1 ≤ (tkK k c).b ∧ (tkK k c).b ≤ 32 from ⟨HWK.out.b1, HWK.out.b2⟩)
        obtain ⟨cb, hcb⟩ : ∃ cb, (tkK k c).b = cb := ⟨_, rfl⟩
        rw [hcb] at HLb HB1
        clear hLL hcb
        obtain ⟨m, hm⟩ : ∃ m, LL.length = m := ⟨_, rfl⟩
        have HMM := Lib.hid hm
        rw [hm] at HLE ⊢
        clear hm
        have HFT := Lib.hid (show ∀ j, (LL.take j).flatten.length + l.length ≤ 480 from fun j => by
          have h1 := congrArg List.length HFL.out
          rw [HLL.out, List.flatten_append, List.length_append, List.length_append, ← HOB.out, HNO.out] at h1
          have h2 : (LL.take j).flatten.length ≤ LL.flatten.length := by
            have := congrArg (fun l : List (List Int) => l.flatten.length) (List.take_append_drop j LL)
            simp only [List.flatten_append, List.length_append] at this
            omega
          have := HNL.out
          omega)
        go_wp2_with fail
        go_loopw [9, 12] (fun s i wr => ∃ j : Nat, j ≤ m ∧ i = .int .i64 j ∧ IdM w w3 w4 wr (.pointer (some ⟨B, 0, none⟩)) (some (tk (tkK k c))) (Ext O wk w6) s (l ++ (LL.take j).flatten) A4 obs ∧ LAt (fun q => Ext O wk w6 q ∧ ¬ isB (.pointer (some ⟨B, 0, none⟩)) q) wr A6 LL) (fun _ i _ => m - (intOf i).toNat)
        case atStart => exact ⟨0, by omega, rfl, by rw [List.take_zero, List.flatten_nil, List.append_nil]; exact HI2.out, HL6.out⟩
        case round =>
          obtain ⟨j, hj, rfl, hI3, hL3⟩ := hrel
          have HI3 := Lib.hid hI3
          have HL3 := Lib.hid hL3
          obtain ⟨A7, c7, rfl⟩ := owns_form hI3.row
          have hft := HFT.out j
          have hm8 : m ≤ 8 := HLE.out.1
          by_cases hlt2 : j < m
          · obtain ⟨z, hz⟩ : ∃ z, LL[j]? = some z := ⟨_, List.getElem?_eq_getElem (by have := HMM.out; omega)⟩
            have hzl := HLb.out z (List.mem_of_getElem? hz)
            obtain ⟨h1, h2⟩ := HB1.out
            obtain ⟨g, o, g', o', c', rfl, hc, hg', hP', hcc, _⟩ := hL3.src hz (by omega)
            have HCC := Lib.hid hcc
            have HFK := Lib.hid (flat_take hz)
            have HZL := Lib.hid (show (cZ z).length = cb * 1 by rw [cZ_len, Nat.mul_one]; exact hzl)
            have HZ2 := Lib.hid hzl
            rw [hzl] at hc
            obtain ⟨nl, hnl⟩ : ∃ nl, (l ++ (LL.take j).flatten).length = nl := ⟨_, rfl⟩
            have HNL2 := Lib.hid hnl
            have HRO := Lib.hid hI3.row
            rw [hnl] at HRO HI3
            rw [hnl]
            have hnl3 : nl ≤ 480 := by rw [← hnl, List.length_append]; omega
            have HSZ := Lib.hid hI3.sz
            clear hI3 hL3 hz hcc hzl hnl hft
            go_wp2_with (at_builtin; refine wpList_append_own_at _ rfl _ _ 32 rfl w4.heap.size 3 i0 (.int .i64 0) 1 8 undInts hi hz0 hz1 hz2 rfl (by decide) (.slice A7 nl c7) nl _ rfl HRO.out ⟨g', o', none⟩ cb c' (cZ z) rfl HZL.out HCC.out (cZ_one z) (by unfold maxLen; omega) (by omega) HSZ.out ?_; intro v' w7 hown' hgrow _ hat; have HA7 := Lib.hid (And.intro hown' (And.intro hgrow hat)); clear hown' hgrow hat)
            have HF := Lib.hid (HI3.out.push (z := z) (by rw [cZ_app]; exact HA7.out.1) (by rw [List.length_append, HNL2.out, HZ2.out]) HA7.out.2.1 HA7.out.2.2)
            have HFL2 := Lib.hid (HL3.out.keep (keep_row HA7.out.2.1) (fun k h1 h2 => HI3.out.dj k h2 h1.1))
            go_roundw
            case rel => exact ⟨j + 1, by omega, by go_num, by rw [HFK.out, ← List.append_assoc]; exact HF.out, HFL2.out⟩
            case measure => simp [intOf]; omega
          · obtain rfl : j = m := by omega
            have e : LL.take j = LL := List.take_of_length_le (by rw [HMM.out]; exact Nat.le_refl _)
            rw [e] at HI3
            rw [e]
            have HEQ := Lib.hid (show (l ++ LL.flatten) ++ (tk (tkK k c)).L.flatten = c.L.flatten from by rw [← HFL.out, HLL.out, List.flatten_append, List.append_assoc])
            generalize (l ++ LL.flatten).length = nl at *
            clear hI3 hL3 hft e
            go_wp2_with fail
            go_roundw
            case rel => exact ⟨k + 1, _, _, by omega, by go_num, HI3.out, HEQ.out⟩
            case measure => simp [intOf]; omega
      · obtain rfl : k = 5 := by omega
        have hE : (tkK 5 c).L = [] := tk_five HWF.out
        have hlen := cLen_any hI.own.ob
        rw [show lenT (some (tkK 5 c)) = 0 from by show (tkK 5 c).L.length = 0; rw [hE]; rfl] at hlen
        have hlo : l = obs := by rw [hE, List.flatten_nil, List.append_nil] at hfl; rw [hfl, HOB.out]
        have HLN := Lib.hid hlen
        have HIN := Lib.hid (show ∀ a ∈ l, InR a from fun a ha => by
          rw [hlo] at ha
          obtain ⟨i, hi⟩ := List.mem_iff_getElem?.1 ha
          obtain ⟨_, _, _, _, _, _, h4⟩ := hI.all i a hi
          exact h4)
        have hia := iat_of hI.row HIN.out
        have hnn : l.length = no := by rw [hlo]; exact HNO.out
        rw [hlo] at hia
        have HII := Lib.hid (show Calls Try.prog 21 #[.slice A4 no c4, .slice A5 no c5] wr (Yes wr) from by
          have := Ints_any A4 A5 c4 c5 obs wr (by have := HOL.out; omega) hI.all hia
          rw [HNO.out] at this
          exact this)
        have HBF := Lib.hid hI.own.bel
        rw [hnn]
        clear hI hfl hE hlen hlo hia hnn hll HI
        go_wp2_with fail
        refine HLN.out.mono ?_
        rintro e _ ⟨rfl, rfl⟩
        go_wp2_with fail
        refine HII.out.mono ?_
        rintro e w8 ⟨rfl, hb⟩
        have HB8 := Lib.hid (btr HBF.out hb (Nat.le_refl _))
        clear hb
        go_wp2_with fail
        refine (HAL.out _).mono ?_
        rintro e w9 ⟨rfl, hb⟩
        have HF2 := Lib.hid (btr HB8.out hb (Nat.le_refl _))
        clear hb
        go_wp2_with fail
        go_ret
        exact ⟨rfl, HF2.out⟩
end Go.Proofs.Ytaefhhkdfepgmaa
