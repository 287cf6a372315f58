/- The document's list: Add, walked. -/
import Derived.Test.YtejfoefhaphacaaGreatDh
namespace Go.Proofs.YtejfoefhaphacaaGreat
open Go.RowKit Go.Shelf Go.Lib

set_option maxRecDepth 100000 in
set_option maxHeartbeats 8000000 in
theorem dAdd_any {O : Nat → Prop} {v : Value} {om : Option Ce} {w : World} (h : LOb true w O v om) (st : Int) :
    Calls Tryz.prog 25 #[v, .int .i64 st] w fun e w' => e = .returned (.int .i64 (adE om st)) ∧ LMut true w O v (adD om st) w' := by
  cases om with
  | none =>
    have HH := Lib.hid h
    have HM := Lib.hid (dmade_no h.1)
    rw [show adE none st = 5 from rfl, show adD none st = none from rfl]
    clear h
    go_enter Tryz.func25, Tryz.ntmps25
    go_wp2_with (go_at_call 23; refine HM.out.mono ?_; rintro e w1 ⟨rfl, rfl⟩)
    go_ret
    exact ⟨rfl, LMut.same HH.out (Below.refl _ _)⟩
  | some c =>
    obtain ⟨j0, hj, hy0, hy1, hy2⟩ := info_parts infoPRS
    obtain ⟨B, V, X, rfl, h⟩ := h
    have HM := Lib.hid (dmade_any h)
    have HNW := Lib.hid (rNew_any st c.z c.g c.t w)
    have HH := Lib.hid h
    obtain ⟨d0, d1, d2, d3⟩ := h.cells
    by_cases hf : fitB st (cls c) = true
    · have e1 : newE st ⟨c.z, c.g, c.t⟩ = 0 := if_pos hf
      have e2 : newO st ⟨c.z, c.g, c.t⟩ = some (newM st (cls c)) := if_pos hf
      rw [e1, e2] at HNW
      have hst : 0 ≤ st ∧ st ≤ 1024 := by
        obtain ⟨_, h2, h3⟩ := fit_get hf
        have := h.wf.g1
        have h4 : (cls c).p = (c.g : Int) := rfl
        omega
      have HF := Lib.hid hf
      have HWF := Lib.hid h.wf
      have hmax : X.length ≤ 1024 := by rw [h.len]; exact h.wf.len
      have hg4 := h.wf.g2
      have hg1 := h.wf.g1
      obtain ⟨A, cap, rfl⟩ := owns_form h.row
      have hcap : X.length ≤ cap := by
        rcases h.row.2 with ⟨h0, h2⟩ | ⟨g, cap', cur, h0, _, _, h2, _⟩
        · omega
        · injection h0 with _ _ h0; omega
      obtain ⟨N, hN⟩ : ∃ N, X.length = N := ⟨_, rfl⟩
      have HN := Lib.hid hN
      have HLL := Lib.hid (show c.L.length = N by rw [← h.len]; exact hN)
      rw [hN] at hmax hcap
      obtain ⟨S, rfl⟩ : ∃ S : Nat, st = (S : Int) := ⟨st.toNat, by omega⟩
      have hS : S ≤ 1024 := by omega
      obtain ⟨gg, hgg⟩ : ∃ gg, c.g = gg := ⟨_, rfl⟩
      have HGG := Lib.hid hgg
      rw [hgg] at hg4 hg1
      clear h hf e1 e2 hst hN hgg
      go_enter Tryz.func25, Tryz.ntmps25
      go_wp2_with (first
        | (go_at_call 23; refine HM.out.mono ?_; rintro e w1 ⟨rfl, rfl⟩)
        | (go_at_call 59; refine HNW.out.mono ?_; rintro e w1 ⟨v1, rfl, ho, hv1, hb⟩; have HB1 := Lib.hid hb; obtain ⟨x0, rfl, hxm, hxs, hxo⟩ := ob_sn ho; have HX0 := Lib.hid (And.intro hxm (And.intro hxs hxo)); clear ho hb hxm hxs hxo hv1))
      clear d0 d1 d2 d3
      go_loopw [7, 8] (fun a i wr => ∃ k : Nat, k ≤ N ∧ i = .int .i64 k ∧ a = .int .i64 (pos (c.L.take k) (S : Int) : Nat) ∧ Hid (ovl (c.L.take k) c.g (S : Int) = false) ∧ Below w1.heap.size w1 wr) (fun _ i _ => N - (intOf i).toNat)
      case atStart => exact ⟨0, by omega, rfl, rfl, Lib.hid rfl, Below.refl _ _⟩
      case round =>
        obtain ⟨k, hk, rfl, rfl, HO, hb⟩ := hrel
        have HB := Lib.hid hb
        have hbw := btr HB1.out hb (Nat.le_refl _)
        have HBW := Lib.hid hbw
        obtain ⟨d0, d1, d2, c3⟩ := (HH.out.below hbw).cells
        rw [HN.out] at c3
        rw [HGG.out] at d1
        by_cases hlt : k < N
        · obtain ⟨x, hx⟩ : ∃ x, X[k]? = some x := ⟨_, List.getElem?_eq_getElem (by have := HN.out; omega)⟩
          obtain ⟨g, cap2, hV, hc⟩ := (HH.out.below hbw).slot hx
          obtain ⟨rfl, rfl⟩ : A = some ⟨g, 0, none⟩ ∧ cap = cap2 := by injection hV; exact ⟨by assumption, by assumption⟩
          have hs3 : wr.cell? ⟨x.B, 3, none⟩ = some (.int .i64 x.m.s) := ((HH.out.below hbw).sp k x hx).cells.2.2.2.1
          have hcx := HH.out.at hx
          have hs1 : x.m.s ≤ 1024 := by have := (HWF.out.at hcx).wf.s1; omega
          have HCX := Lib.hid hcx
          have HPT := Lib.hid (pos_take hcx (S : Int))
          have HOT := Lib.hid (ovl_take hcx c.g (S : Int))
          have HPA := Lib.hid (fun hle => pos_all HWF.out hcx (p := (S : Int)) hle)
          rw [HGG.out] at HOT
          obtain ⟨s, hs⟩ : ∃ s, x.m.s = s := ⟨_, rfl⟩
          have HSS := Lib.hid hs
          rw [hs] at hs3 hs1 HPT HOT HPA
          generalize pos (c.L.take k) (S : Int) = q at *
          clear hV hx hcx hs hb hbw d0 d2
          by_cases h1 : S < s + gg
          · by_cases h2 : s < S + gg
            · have HE := Lib.hid (show adE (some c) (S : Int) = 9 ∧ adD (some c) (S : Int) = some c from by
                have hov : ovl c.L c.g (S : Int) = true := ovl_yes HCX.out (by rw [HSS.out, HGG.out]; omega)
                exact ⟨by simp [adE, HF.out, hov], by simp [adD, HF.out, hov]⟩)
              have t1 : decide ((S : Int) < (s : Int) + (gg : Int)) = true := decide_eq_true (by omega)
              have t2 : decide ((s : Int) < (S : Int) + (gg : Int)) = true := decide_eq_true (by omega)
              obtain ⟨f1, f2⟩ := w64 ((s : Int) + (gg : Int)) (by omega)
              obtain ⟨f3, f4⟩ := w64 ((S : Int) + (gg : Int)) (by clear f1 f2; omega)
              clear h1 h2
              go_wp2_with fail
              go_quiet (fail)
              clear f1 f2 f3 f4
              go_wp2_with fail
              go_ret
              rw [HE.out.1, HE.out.2]
              exact ⟨rfl, LMut.same HH.out.lob (belowN HBW.out _)⟩
            · have t1 : decide ((S : Int) < (s : Int) + (gg : Int)) = true := decide_eq_true (by omega)
              have t2 : decide ((s : Int) < (S : Int) + (gg : Int)) = false := decide_eq_false (by omega)
              have t3 : decide ((s : Int) < (S : Int)) = false := decide_eq_false (by omega)
              have t3n : decide (s < S) = false := decide_eq_false (by omega)
              have HR := Lib.hid (show pos (c.L.take (k + 1)) (S : Int) = q ∧ ovl (c.L.take (k + 1)) c.g (S : Int) = false from by
                have h5 := HOT.out
                have h6 := HO.out
                rw [HGG.out] at h6 ⊢
                exact ⟨by rw [HPT.out, if_neg (by omega)]; rfl, by rw [h5, h6, decide_eq_false (by omega)]; rfl⟩)
              obtain ⟨f1, f2⟩ := w64 ((s : Int) + (gg : Int)) (by omega)
              obtain ⟨f3, f4⟩ := w64 ((S : Int) + (gg : Int)) (by clear f1 f2; omega)
              clear h1 h2
              go_wp2_with fail
              go_quiet (fail)
              clear f1 f2 f3 f4 t1 t2
              go_wp2_with fail
              go_roundw
              case rel => exact ⟨k + 1, by omega, by go_num, by rw [HR.out.1], Lib.hid HR.out.2, belowN HB.out _⟩
              case measure => simp [intOf]; omega
          · have t1 : decide ((S : Int) < (s : Int) + (gg : Int)) = false := decide_eq_false (by omega)
            have t3 : decide ((s : Int) < (S : Int)) = true := decide_eq_true (by omega)
            have t3n : decide (s < S) = true := decide_eq_true (by omega)
            have HR := Lib.hid (show pos (c.L.take (k + 1)) (S : Int) = k + 1 ∧ ovl (c.L.take (k + 1)) c.g (S : Int) = false from by
              have h5 := HOT.out
              have h6 := HO.out
              rw [HGG.out] at h6 ⊢
              exact ⟨by rw [HPT.out, if_pos (by omega), HPA.out (by omega)], by rw [h5, h6, decide_eq_false (by omega)]; rfl⟩)
            obtain ⟨f1, f2⟩ := w64 ((s : Int) + (gg : Int)) (by omega)
            clear h1
            go_wp2_with fail
            go_quiet (fail)
            clear f1 f2 t1
            go_wp2_with fail
            go_roundw
            case rel => exact ⟨k + 1, by omega, by go_num, by rw [HR.out.1]; go_num, Lib.hid HR.out.2, belowN HB.out _⟩
            case measure => simp [intOf]; omega
        · obtain rfl : k = N := by omega
          have hLt : c.L.take k = c.L := by rw [← HLL.out]; exact List.take_length
          have HO2 := Lib.hid (show ovl c.L c.g (S : Int) = false by have := HO.out; rwa [hLt] at this)
          obtain ⟨P, hPe⟩ : ∃ P, pos (c.L.take k) (S : Int) = P := ⟨_, rfl⟩
          have hPe2 : pos c.L (S : Int) = P := by rw [← hPe, hLt]
          have hPk : P ≤ k := by rw [← hPe2, ← HLL.out]; exact pos_le _ _
          have HE := Lib.hid (show adE (some c) (S : Int) = 0 ∧ adD (some c) (S : Int) = some { c with L := ins c.L P (newM (S : Int) (cls c)) } from ⟨by simp [adE, HF.out, HO2.out], by rw [← hPe2]; simp [adD, HF.out, HO2.out]⟩)
          have HAD := Lib.hid (show CWf { c with L := ins c.L P (newM (S : Int) (cls c)) } by rw [← hPe2]; exact HWF.out.add HF.out HO2.out)
          rw [hPe]
          have hrw0 : w.ownsRow 0 65 1 (.slice A k cap) k (pV X) := by have := HH.out.row; rw [HN.out] at this; exact this
          have HSRC := Lib.hid (fun W (hb : Below w.heap.size w W) => And.intro (src_take (owns_below hrw0 hb) P hPk) (src_drop (owns_below hrw0 hb) P hPk))
          have HC3 := Lib.hid (fun W (hb : Below w.heap.size w W) => show W.cell? ⟨B, 3, none⟩ = some (.slice A k cap) ∧ W.frozen? ⟨B, 3, none⟩ = false from ⟨by have := (HH.out.below hb).cells.2.2.2; rwa [HN.out] at this, (HH.out.below hb).hd.free 3 (by omega)⟩)
          have HLX := Lib.hid (show (pV X).length = k by unfold pV; rw [List.length_map]; exact HN.out)
          have sT := sld_to (w := wr) A k cap P (by omega)
          have sF := fun W => sld_from A k cap P hPk W
          obtain ⟨A3, hA3⟩ : ∃ A3, (if cap = P then A else A.map (·.add P)) = A3 := ⟨_, rfl⟩
          rw [hA3] at HSRC sF
          have HW1 := Lib.hid HB1.out.size
          clear hb hbw hLt hPe hPe2 hrw0 hA3 d0 d1 d2 hlt
          go_wp2_with (first
            | (have hz := HO6.out; at_builtin; refine wpList_append_part _ rfl _ _ 60 rfl w1.heap.size 65 j0 (.pointer none) 1 8 undDSpans hj hy0 hy1 hy2 rfl (by decide) A6 (P + 1) c6 ((pV X).take P ++ [x0.v]) rfl HO6.out.1 A3 (k - P) (cap - P) ((pV X).drop P) rfl (by rw [Nat.mul_one, List.length_drop, HLX.out]) ((HSRC.out _ HO6.out.2.2).2) (fun u hu => pV_one X u (List.mem_of_mem_drop hu)) (by unfold maxLen; omega) (by omega) HO6.out.2.1.size (k + 1) (by omega) ((pV X).take P ++ x0.v :: (pV X).drop P) (by rw [List.append_assoc]; rfl) ?_; intro A7 c7 W7 how hgr
               have hb7 : Below w1.heap.size w1 W7 := HO6.out.2.1.grown hgr HO6.out.2.1.size (fun q e => (HO6.out.1.lt q e).1)
               obtain ⟨k1, k2⟩ := HC3.out _ (btr HB1.out hb7 (Nat.le_refl _))
               have HO7 := Lib.hid (And.intro how hb7)
               clear how hgr hb7 hz)
            | (have hz := HO5.out; at_builtin; refine wpList_append_part _ rfl _ _ 60 rfl w1.heap.size 65 j0 (.pointer none) 1 8 undDSpans hj hy0 hy1 hy2 rfl (by decide) A5 P c5 ((pV X).take P) rfl (HO5.out.1.alloc (.cells #[.pointer (some ⟨x0.B, 0, none⟩)] 65)) (some ⟨W5.heap.size, 0, none⟩) 1 1 [.pointer (some ⟨x0.B, 0, none⟩)] rfl rfl (.inr ⟨_, rfl, World.news_of_block (World.alloc_heap_new W5 _)⟩) (by simp [Value.oneCell']) (by unfold maxLen; omega) (by omega) (by have := HO5.out.2.1.size; simp; omega) (P + 1) rfl ((pV X).take P ++ [x0.v]) rfl ?_; intro A6 c6 W6 how hgr
               have hb6 : Below w1.heap.size w1 W6 := (HO5.out.2.1.alloc HO5.out.2.1.size _).grown hgr (by have := HO5.out.2.1.size; simp; omega) (fun q e => (HO5.out.1.lt q e).1)
               have k6 := (HC3.out _ (btr HB1.out hb6 (Nat.le_refl _))).1
               have sF6 := sF W6
               have HO6 := Lib.hid (And.intro how (And.intro hb6 (btr HB1.out hb6 (Nat.le_refl _))))
               clear how hgr hb6 hz)
            | (at_builtin; refine wpList_append_part _ rfl _ _ 60 rfl w1.heap.size 65 j0 (.pointer none) 1 8 undDSpans hj hy0 hy1 hy2 rfl (by decide) none 0 0 [] rfl ⟨rfl, .inl ⟨rfl, rfl⟩⟩ A P cap ((pV X).take P) rfl (by rw [Nat.mul_one, List.length_take, HLX.out]; omega) ((HSRC.out _ HBW.out).1) (fun u hu => pV_one X u (List.mem_of_mem_take hu)) (by unfold maxLen; omega) (by omega) HB.out.size P (Nat.zero_add P) ((pV X).take P) rfl ?_; intro A5 c5 W5 how hgr
               have hb5 : Below w1.heap.size w1 W5 := HB.out.grown hgr HB.out.size (fun q e => nomatch e)
               have HO5 := Lib.hid (And.intro how (And.intro hb5 (btr HB1.out hb5 (Nat.le_refl _))))
               clear how hgr hb5))
          go_ret
          rw [HE.out.1, HE.out.2]
          refine ⟨rfl, ?_⟩
          have hx0 := HX0.out
          have h2 := add_post2 HH.out (w5 := W7) (v' := .slice A7 (k + 1) c7) (P := P) HB1.out (by rw [HN.out]; exact hPk) hx0.2.1 hx0.2.2 (by rw [hx0.1]; exact HAD.out) (by rw [HN.out]; exact owns_base HO7.out.1 (Nat.zero_le _)) (grown_of HO7.out.2 _) (by
            rcases HO7.out.1.2 with ⟨_, h2⟩ | ⟨q, cq, cur, e, hq, _⟩
            · omega
            · rw [e]; exact .inr ⟨q, rfl, hq⟩)
          rw [hx0.1] at h2
          exact h2
    · have e1 : newE st ⟨c.z, c.g, c.t⟩ = 1 := if_neg hf
      have e2 : newO st ⟨c.z, c.g, c.t⟩ = none := if_neg hf
      rw [e1, e2] at HNW
      rw [show adE (some c) st = 1 from if_neg hf, show adD (some c) st = some c from if_neg hf]
      clear h hf e1 e2 d3
      go_enter Tryz.func25, Tryz.ntmps25
      go_wp2_with (first
        | (go_at_call 23; refine HM.out.mono ?_; rintro e w1 ⟨rfl, rfl⟩)
        | (go_at_call 59; refine HNW.out.mono ?_; rintro e w1 ⟨v1, rfl, ho, hv1, hb⟩; have HB1 := Lib.hid hb; obtain rfl := hv1 rfl; clear ho hb hv1))
      go_ret
      exact ⟨rfl, LMut.same HH.out.lob HB1.out⟩
end Go.Proofs.YtejfoefhaphacaaGreat
