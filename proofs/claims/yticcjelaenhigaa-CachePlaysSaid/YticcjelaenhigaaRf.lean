/- The document's cache: Fill. -/
import Derived.Test.YticcjelaenhigaaRe
namespace Go.Proofs.Yticcjelaenhigaa
open Go.RowKit Go.Lib

section
variable {w w' : World} {O : Nat → Prop} {B t l i j ct cl ci cj : Nat} {V : Nat → Value} {c : Tc} {x : Nat} {k k' : Kl} {A : Option Addr} {cp : Nat}
/-- A list is put in a block of its own. -/
theorem RcA.updN (h : RcA w O B t l i j ct cl ci cj V c) (hk : c.K[x]? = some k) (hw : KWf k') (hs : k'.s = k.s) (hb : k'.b = k.b) (hm : k'.lim = k.lim) (ho : k'.lo = k.lo)
    (hl : Cl w' l c.K.length (fun y => if y = x then .slice A k'.l.length cp else V y))
    (hcp : k'.l.length ≤ cp) (hcm : cp ≤ maxLen) (hia : IAt (fun g => w.heap.size ≤ g) w' A k'.l) (hkp : Keep (fun g => g = l) w w') :
    TMut true w O (.pointer (some ⟨B, 0, none⟩)) (some { c with K := c.K.set x k' }) w' := by
  obtain ⟨n1, n2, n3, n4, n5, n6, n7, n8, n9, n10⟩ := h.ne
  obtain ⟨oB, ot, ol, oi, oj⟩ := h.ob
  have hlow := h.low.of_block (hkp.block j (h.lt j oj) (fun e => n9 e.symm))
  have lB := h.lt B oB
  have ll := h.lt l ol
  have li := h.lt i oi
  have lj := h.lt j oj
  refine h.updJ hk hw hs hb hm hl (hlow.congr fun y _ => ?_) hcp hcm (hia.mono fun g hg h1 => ?_) (hkp.mono fun g _ e => .inl e)
  · by_cases e : y = x
    · subst e; rw [if_pos rfl, hk, ho]; rfl
    · rw [if_neg e]
  · have h1 : w.heap.size ≤ g := h1
    exact ⟨.inr ⟨h1, hg⟩, by omega, by omega, by omega, by omega⟩
end
theorem rev_step {z : List Int} {r : Nat} {a : Int} (h : z[r]? = some a) : (z.drop r).reverse = (z.drop (r + 1)).reverse ++ [a] := by
  have hl := (List.getElem?_eq_some_iff.1 h).1
  rw [List.drop_eq_getElem_cons hl, List.reverse_cons]
  rw [(List.getElem?_eq_some_iff.1 h).2]

set_option maxRecDepth 100000 in
set_option maxHeartbeats 4000000 in
theorem dFill_any {O P : Nat → Prop} {v : Value} {om : Option Tc} {w : World} {x : Int} {A : Option Addr} {c' : Nat} {z : List Int} (h : TOb true w O v om) (hz : IAt P w A z) (_ : ∀ g, P g → ¬ O g) (hzl : z.length ≤ 9223372036854775807) : Calls Try.prog 46 #[v, .int .i64 x, .slice A z.length c'] w (FlP true w O v om x z) := by
  have HH := Lib.hid (dwrong_any x h)
  cases hk : atK om x with
  | none =>
    have HP := Lib.hid (fl_no (z := z) h (Below.refl _ _) hk)
    obtain ⟨er, he, e1, e2, _⟩ := errK_ne om x hk
    rw [he] at HH HP
    generalize z.length = zn at *
    clear h hk he hz
    go_enter Try.func46, Try.ntmps46
    go_wp2_with (go_at_call 69; refine HH.out.mono ?_; rintro e w1 ⟨rfl, rfl⟩)
    go_ret
    exact HP.out
  | some k =>
    cases om with
    | none => cases hk
    | some c =>
      obtain ⟨i0, hi, hz0, hz1, hz2⟩ := info_parts info3
      have HT := Lib.hid h
      obtain ⟨B, t, l, i, j, ct, cl, ci, cj, V, rfl, h⟩ := h
      obtain ⟨h0, _, hK, hkw⟩ := h.wf.at hk
      obtain ⟨n, rfl⟩ : ∃ n : Nat, x = (n : Int) := ⟨x.toNat, by omega⟩
      rw [Int.toNat_natCast] at hK
      rw [show errK (some c) n = 0 from by unfold errK; rw [hk]; rfl] at HH
      have hn := (List.getElem?_eq_some_iff.1 hK).1
      obtain ⟨A1, cp, c4, _, hcp, hcm, hia⟩ := h.listc hK
      have hC2 := h.cells.2.2.1
      obtain ⟨m, hm⟩ : ∃ m, k.l.length = m := ⟨_, rfl⟩
      obtain ⟨zn, hzn⟩ : ∃ zn, z.length = zn := ⟨_, rfl⟩
      have HM := Lib.hid (And.intro hm hzn)
      have hm256 : m ≤ 256 := by rw [← hm]; exact hkw.len
      rw [hm] at c4
      rw [hzn] at hzl ⊢
      by_cases hbig : 256 < m + zn
      · have HP := Lib.hid (show FlP true w O (.pointer (some ⟨B, 0, none⟩)) (some c) n z (.returned (.int .i64 6)) w from by
          have e2 : flE (some c) n z = 6 := by unfold flE; rw [hk]; dsimp only; rw [hm, hzn]; exact if_pos hbig
          have e3 : flD (some c) n z = some c := by unfold flD; rw [hk]; dsimp only; rw [hm, hzn]; exact if_pos hbig
          exact ⟨by rw [e2], by rw [e3]; exact TMut.same HT.out (Below.refl _ _)⟩)
        generalize c.K.length = N at *
        have hn2 : (n : Int) < (N : Int) := by omega
        have hn0 : (0 : Int) ≤ (n : Int) := by omega
        obtain ⟨s, hs⟩ : ∃ s : Int, 256 - (m : Int) = s := ⟨_, rfl⟩
        have d1 : decide (s < (zn : Int)) = true := decide_eq_true (by omega)
        have WE := Lib.hid (w64 s (by omega))
        clear h hk hK h0 hkw hm hzn hbig hcp hcm hia hz
        obtain ⟨we1, we2⟩ := WE.out
        go_enter Try.func46, Try.ntmps46
        go_wp2_with (go_at_call 69; refine HH.out.mono ?_; rintro e w1 ⟨rfl, rfl⟩)
        go_ret
        exact HP.out
      · have HBIG := Lib.hid hbig
        have HINR := Lib.hid (show ∀ a ∈ k.l ++ z.reverse, InR a from fun a ha => by
          rcases List.mem_append.1 ha with h1 | h1
          · exact hia.inr a h1
          · exact hz.inr a (List.mem_reverse.1 h1))
        have HZ := Lib.hid hz
        have HLT := Lib.hid (And.intro (h.lt B h.ob.1) (h.lt l h.ob.2.2.1))
        have HLL := Lib.hid h.ll
        have C2 := Lib.hid hC2
        have C4 := Lib.hid c4
        have HP := Lib.hid (fun (w1 : World) (A9 : Option Addr) (c9 : Nat) (hl : Cl w1 l c.K.length (fun y => if y = n then .slice A9 (m + zn) c9 else V y)) (hcp : m + zn ≤ c9) (hcm : c9 ≤ maxLen) (hia : IAt (fun g => w.heap.size ≤ g) w1 A9 (k.l ++ z.reverse)) (hkp : Keep (fun g => g = l) w w1) => show FlP true w O (.pointer (some ⟨B, 0, none⟩)) (some c) n z (.returned (.int .i64 0)) w1 from by
          have e2 : flE (some c) n z = 0 := by unfold flE; rw [hk]; dsimp only; rw [hm, hzn]; exact if_neg hbig
          have e3 : flD (some c) n z = some { c with K := c.K.set n (addK k z) } := by unfold flD; rw [hk]; dsimp only; rw [hm, hzn, if_neg hbig]; rfl
          have e4 : (addK k z).l.length = m + zn := by show (k.l ++ z.reverse).length = _; rw [List.length_append, List.length_reverse, hm, hzn]
          exact ⟨by rw [e2], by rw [e3]; exact h.updN (A := A9) (cp := c9) hK (addK_wf hkw (by rw [hm, hzn]; omega)) rfl rfl rfl rfl (by rw [e4]; exact hl) (by rw [e4]; exact hcp) hcm hia hkp⟩)
        have hb0 := bnew w (.cells #[] 3)
        obtain ⟨W0, hW0⟩ : ∃ W0, w.alloc (.cells #[] 3) = W0 := ⟨_, rfl⟩
        have hE : W0.ownsRow w.heap.size 3 1 (.slice (some ⟨w.heap.size, 0, none⟩) 0 0) 0 [] := own_empty (Nat.le_refl _) (by rw [← hW0]; exact heap_alloc_new w _)
        rw [hW0] at hb0
        have HIA := Lib.hid (hia.below hb0)
        have a2 := (hb0.cell (p := ⟨B, 2, none⟩) HLT.out.1).trans hC2
        have a4 := (hb0.cell (p := ⟨l, n, none⟩) HLT.out.2).trans c4
        have HB0 := Lib.hid hb0
        have HE := Lib.hid hE
        generalize c.K.length = N at *
        have hn2 : (n : Int) < (N : Int) := by omega
        have hn0 : (0 : Int) ≤ (n : Int) := by omega
        obtain ⟨s, hs⟩ : ∃ s : Int, 256 - (m : Int) = s := ⟨_, rfl⟩
        have d0 : decide (s < (zn : Int)) = false := decide_eq_false (by omega)
        have WE := Lib.hid (w64 s (by omega))
        clear h hk hK h0 hkw hm hzn hcm hia hz hb0 hE hbig
        rcases Nat.eq_zero_or_pos m with hm0 | hm0
        · subst hm0
          obtain rfl : s = 256 := by omega
          have HL := Lib.hid (show k.l = [] from List.length_eq_zero_iff.1 HM.out.1)
          have HROW := Lib.hid (show W0.ownsRow w.heap.size 3 1 (.slice (some ⟨w.heap.size, 0, none⟩) 0 0) 0 (cZ k.l) ∧ Below w.heap.size w W0 from by rw [HL.out]; exact ⟨HE.out, HB0.out⟩)
          obtain ⟨we1, we2⟩ := WE.out
          go_enter Try.func46, Try.ntmps46
          go_wp2_with (first
            | (go_at_call 69; refine HH.out.mono ?_; rintro e w1 ⟨rfl, rfl⟩)
            | (at_builtin; refine Lib.wpList_append_run _ rfl _ _ _ _ rfl _ _ rfl rfl _ _ (run_append_zero W0 33 33 3 i0 undInts hi (some ⟨w.heap.size, 0, none⟩) A1 0 0 cp (Nat.le_refl _)) ?_))
          clear we1 we2 hs hC2 c4 a2 a4 d0
          go_loopw [8, 9] (fun V i wr => ∃ r : Int, i = .int .i64 r ∧ -1 ≤ r ∧ r < zn ∧ wr.ownsRow w.heap.size 3 1 V (k.l ++ (z.drop (r + 1).toNat).reverse).length (cZ (k.l ++ (z.drop (r + 1).toNat).reverse)) ∧ Below w.heap.size w wr) (fun _ i _ => (intOf i + 1).toNat)
          case atStart =>
            refine ⟨(zn : Int) - 1, by go_num, by omega, by omega, ?_, HROW.out.2⟩
            rw [show ((zn : Int) - 1 + 1).toNat = zn from by omega, List.drop_of_length_le (by rw [HM.out.2]; exact Nat.le_refl _), List.reverse_nil, List.append_nil, HM.out.1]
            first | exact HROW.out.1 | (have h9 := HROW.out.1; rw [Nat.zero_add] at h9; exact h9)
          case round =>
            clear HROW
            obtain ⟨r, rfl, hr1, hr2, hrow, hB⟩ := hrel
            have HB := Lib.hid hB
            have HRW := Lib.hid hrow
            obtain ⟨A8, c8, rfl⟩ := owns_form hrow
            obtain ⟨p, hp⟩ : ∃ p, (k.l ++ (z.drop (r + 1).toNat).reverse).length = p := ⟨_, rfl⟩
            have hp2 : p = 0 + (zn - (r + 1).toNat) := by rw [← hp, List.length_append, List.length_reverse, List.length_drop, HM.out.1, HM.out.2]
            have HPE := Lib.hid hp
            rw [hp] at hrow HRW
            rw [hp]
            have hsz := hB.size
            by_cases hr0 : 0 ≤ r
            · obtain ⟨rn, rfl⟩ : ∃ rn : Nat, r = (rn : Int) := ⟨r.toNat, by omega⟩
              obtain ⟨a, ha⟩ : ∃ a, z[rn]? = some a := ⟨_, List.getElem?_eq_getElem (by rw [HM.out.2]; omega)⟩
              obtain ⟨gz, oz, rfl, _, _, g1, _⟩ := (HZ.out.below (hB.mono (Nat.le_refl _))) rn a ha
              have HRS := Lib.hid (rev_step ha)
              have d1 : decide ((0 : Int) ≤ (rn : Int)) = true := decide_eq_true (by omega)
              have hp3 : p ≤ 256 := by have := HBIG.out; omega
              clear ha hrow hB hp hp2
              go_wp2_with (at_builtin; refine wpList_append_own_at _ rfl _ _ 33 rfl w.heap.size 3 i0 (.int .i64 0) 1 8 undInts hi hz0 hz1 hz2 rfl (by decide) (.slice A8 p c8) p (cZ (k.l ++ (z.drop ((rn : Int) + 1).toNat).reverse)) rfl (HRW.out.alloc _) ⟨wr.heap.size, 0, none⟩ 1 1 [.int .i64 a] rfl rfl (fun j u hu => by rw [Addr.add_lit, Nat.zero_add]; exact cell_block (heap_alloc_new wr _) (by simpa using hu)) (by simp [Value.oneCell']) (by unfold maxLen; omega) (by omega) (by simp; omega) ?_; intro v' w9 hown hgr hnil hat; have HR := Lib.hid (And.intro hown hgr); obtain ⟨A9, c9, rfl⟩ := owns_form hown; clear hown hgr hnil hat)
              go_roundw
              case rel =>
                refine ⟨(rn : Int) - 1, by go_num, by omega, by omega, ?_, ?_⟩
                · have e1 : ((rn : Int) - 1 + 1).toNat = rn := by omega
                  have e2 : ((rn : Int) + 1).toNat = rn + 1 := by omega
                  have hr := HR.out.1
                  rw [e2] at hr
                  have hpe := HPE.out
                  rw [e2] at hpe
                  rw [e1, HRS.out, ← List.append_assoc, List.length_append, hpe, cZ_app]
                  exact hr
                · exact ((HB.out.alloc hsz _).grown HR.out.2 (Nat.le_trans hsz (by simp)) (fun j hj => (HRW.out.lt j hj).1))
              case measure => first | (simp [intOf]; done) | (simp [intOf]; omega)
            · obtain rfl : r = -1 := by omega
              have e1 : ((-1 : Int) + 1).toNat = 0 := by decide
              rw [e1, List.drop_zero] at HPE HRW
              have b2 := (HB.out.cell (p := ⟨B, 2, none⟩) HLT.out.1).trans C2.out
              have hfl := HLL.out.of_block (HB.out.block l HLT.out.2)
              have f7 := hfl.free n (by omega)
              have b7 := (HB.out.cell (p := ⟨l, n, none⟩) HLT.out.2).trans C4.out
              have HFL := Lib.hid hfl
              have hfm := HRW.out
              clear hrow hB hp hp2 hfl
              go_wp2_with fail
              go_ret
              have hpz : p = 0 + zn := by rw [← HPE.out, List.length_append, List.length_reverse, HM.out.1, HM.out.2]
              have hr := hfm
              rw [hpz] at hr
              have hof := own_off hr
              obtain ⟨_, _, e9, q1, q2⟩ := hof.1.form
              injection e9 with _ _ e10
              rw [cZ_len, List.length_append, List.length_reverse, HM.out.1, HM.out.2] at q1
              have hkp : Keep (fun g => g = l) w (wr.setCell ⟨l, n, none⟩ (.slice A8 p c8)) := keep_set (F := fun g => g = l) (Keep.of HB.out) rfl _
              refine HP.out _ A8 c8 (by rw [← hpz]; exact HFL.out.set n _) (by omega) (by omega) ?_ hkp
              exact (hof.1.iat hof.2 HINR.out).keep (keep_set (F := fun g => g = l) (Keep.refl _ _) rfl _) (fun g h1 h2 => by have h1 : w.heap.size ≤ g := h1; have h2 : g = l := h2; have := HLT.out.2; omega)
        · obtain ⟨g', o', rfl, _, _, hc⟩ := HIA.out.some (by rw [HM.out.1]; exact hm0)
          have HS := Lib.hid hc
          have HQL := Lib.hid (show (cZ k.l).length = m * 1 from by rw [cZ_len, Nat.mul_one]; exact HM.out.1)
          clear hc
          obtain ⟨we1, we2⟩ := WE.out
          go_enter Try.func46, Try.ntmps46
          go_wp2_with (first
            | (go_at_call 69; refine HH.out.mono ?_; rintro e w1 ⟨rfl, rfl⟩)
            | (at_builtin; refine wpList_append_own _ rfl _ _ 33 rfl w.heap.size 3 i0 (.int .i64 0) 1 8 undInts hi hz0 hz1 hz2 rfl (by decide) _ 0 [] rfl HE.out ⟨g', o', none⟩ m cp (cZ k.l) rfl HQL.out HS.out (cZ_one _) (by unfold maxLen; omega) (by omega) HB0.out.size ?_; intro v' w8 hown hgrow _; have HROW := Lib.hid (show w8.ownsRow w.heap.size 3 1 v' m (cZ k.l) ∧ Below w.heap.size w w8 from ⟨by rw [Nat.zero_add, List.nil_append] at hown; exact hown, HB0.out.grown hgrow HB0.out.size (fun k e => (HE.out.lt k e).1)⟩); obtain ⟨A7, c7, rfl⟩ := owns_form hown; clear hown hgrow))
          clear we1 we2 hs hC2 c4 a2 a4 d0
          go_loopw [8, 9] (fun V i wr => ∃ r : Int, i = .int .i64 r ∧ -1 ≤ r ∧ r < zn ∧ wr.ownsRow w.heap.size 3 1 V (k.l ++ (z.drop (r + 1).toNat).reverse).length (cZ (k.l ++ (z.drop (r + 1).toNat).reverse)) ∧ Below w.heap.size w wr) (fun _ i _ => (intOf i + 1).toNat)
          case atStart =>
            refine ⟨(zn : Int) - 1, by go_num, by omega, by omega, ?_, HROW.out.2⟩
            rw [show ((zn : Int) - 1 + 1).toNat = zn from by omega, List.drop_of_length_le (by rw [HM.out.2]; exact Nat.le_refl _), List.reverse_nil, List.append_nil, HM.out.1]
            first | exact HROW.out.1 | (have h9 := HROW.out.1; rw [Nat.zero_add] at h9; exact h9)
          case round =>
            clear HROW
            obtain ⟨r, rfl, hr1, hr2, hrow, hB⟩ := hrel
            have HB := Lib.hid hB
            have HRW := Lib.hid hrow
            obtain ⟨A8, c8, rfl⟩ := owns_form hrow
            obtain ⟨p, hp⟩ : ∃ p, (k.l ++ (z.drop (r + 1).toNat).reverse).length = p := ⟨_, rfl⟩
            have hp2 : p = m + (zn - (r + 1).toNat) := by rw [← hp, List.length_append, List.length_reverse, List.length_drop, HM.out.1, HM.out.2]
            have HPE := Lib.hid hp
            rw [hp] at hrow HRW
            rw [hp]
            have hsz := hB.size
            by_cases hr0 : 0 ≤ r
            · obtain ⟨rn, rfl⟩ : ∃ rn : Nat, r = (rn : Int) := ⟨r.toNat, by omega⟩
              obtain ⟨a, ha⟩ : ∃ a, z[rn]? = some a := ⟨_, List.getElem?_eq_getElem (by rw [HM.out.2]; omega)⟩
              obtain ⟨gz, oz, rfl, _, _, g1, _⟩ := (HZ.out.below (hB.mono (Nat.le_refl _))) rn a ha
              have HRS := Lib.hid (rev_step ha)
              have d1 : decide ((0 : Int) ≤ (rn : Int)) = true := decide_eq_true (by omega)
              have hp3 : p ≤ 256 := by have := HBIG.out; omega
              clear ha hrow hB hp hp2
              go_wp2_with (at_builtin; refine wpList_append_own_at _ rfl _ _ 33 rfl w.heap.size 3 i0 (.int .i64 0) 1 8 undInts hi hz0 hz1 hz2 rfl (by decide) (.slice A8 p c8) p (cZ (k.l ++ (z.drop ((rn : Int) + 1).toNat).reverse)) rfl (HRW.out.alloc _) ⟨wr.heap.size, 0, none⟩ 1 1 [.int .i64 a] rfl rfl (fun j u hu => by rw [Addr.add_lit, Nat.zero_add]; exact cell_block (heap_alloc_new wr _) (by simpa using hu)) (by simp [Value.oneCell']) (by unfold maxLen; omega) (by omega) (by simp; omega) ?_; intro v' w9 hown hgr hnil hat; have HR := Lib.hid (And.intro hown hgr); obtain ⟨A9, c9, rfl⟩ := owns_form hown; clear hown hgr hnil hat)
              go_roundw
              case rel =>
                refine ⟨(rn : Int) - 1, by go_num, by omega, by omega, ?_, ?_⟩
                · have e1 : ((rn : Int) - 1 + 1).toNat = rn := by omega
                  have e2 : ((rn : Int) + 1).toNat = rn + 1 := by omega
                  have hr := HR.out.1
                  rw [e2] at hr
                  have hpe := HPE.out
                  rw [e2] at hpe
                  rw [e1, HRS.out, ← List.append_assoc, List.length_append, hpe, cZ_app]
                  exact hr
                · exact ((HB.out.alloc hsz _).grown HR.out.2 (Nat.le_trans hsz (by simp)) (fun j hj => (HRW.out.lt j hj).1))
              case measure => first | (simp [intOf]; done) | (simp [intOf]; omega)
            · obtain rfl : r = -1 := by omega
              have e1 : ((-1 : Int) + 1).toNat = 0 := by decide
              rw [e1, List.drop_zero] at HPE HRW
              have b2 := (HB.out.cell (p := ⟨B, 2, none⟩) HLT.out.1).trans C2.out
              have hfl := HLL.out.of_block (HB.out.block l HLT.out.2)
              have f7 := hfl.free n (by omega)
              have b7 := (HB.out.cell (p := ⟨l, n, none⟩) HLT.out.2).trans C4.out
              have HFL := Lib.hid hfl
              have hfm := HRW.out
              clear hrow hB hp hp2 hfl
              go_wp2_with fail
              go_ret
              have hpz : p = m + zn := by rw [← HPE.out, List.length_append, List.length_reverse, HM.out.1, HM.out.2]
              have hr := hfm
              rw [hpz] at hr
              have hof := own_off hr
              obtain ⟨_, _, e9, q1, q2⟩ := hof.1.form
              injection e9 with _ _ e10
              rw [cZ_len, List.length_append, List.length_reverse, HM.out.1, HM.out.2] at q1
              have hkp : Keep (fun g => g = l) w (wr.setCell ⟨l, n, none⟩ (.slice A8 p c8)) := keep_set (F := fun g => g = l) (Keep.of HB.out) rfl _
              refine HP.out _ A8 c8 (by rw [← hpz]; exact HFL.out.set n _) (by omega) (by omega) ?_ hkp
              exact (hof.1.iat hof.2 HINR.out).keep (keep_set (F := fun g => g = l) (Keep.refl _ _) rfl _) (fun g h1 h2 => by have h1 : w.heap.size ≤ g := h1; have h2 : g = l := h2; have := HLT.out.2; omega)
end Go.Proofs.Yticcjelaenhigaa
