/- The document's list: Put. -/
import Derived.Test.YtejfoefhaphacaaGreatDj
import Derived.StillTailTactics
namespace Go.Proofs.YtejfoefhaphacaaGreat
open Go.RowKit Go.Sort Go.Shelf Go.Lib

section
variable {O OT : Nat → Prop} {B BT : Nat} {V VT : Value} {X XT : List Sn} {c : Ce} {L2 : List Mo} {w wr w3 : World}
/-- The list takes over the spans of a trial. -/
theorem put_swap (h : LiA true w O B V X c) (hb : Below w.heap.size w wr) (hT : LiA true wr OT BT VT XT { c with L := L2 }) (hOT : ∀ k, OT k → w.heap.size ≤ k) :
    LiA true (wr.setCell ⟨B, 3, none⟩ VT) (fun k => O k ∨ OT k) B VT XT { c with L := L2 } := by
  have hB := h.lt B h.ob
  have hne : ∀ k, OT k → k ≠ B := fun k hk e => by have := hOT k hk; omega
  have hsz : (wr.setCell ⟨B, 3, none⟩ VT).heap.size = wr.heap.size := World.size_setCell _ _ _
  have s := hb.size
  refine ⟨hT.wf, ?_, owns_block hT.row fun g hg _ => Below.heap_setCell _ _ _ _ (hne g (hT.rowO g hg).1), fun g hg => ⟨.inr (hT.rowO g hg).1, hne g (hT.rowO g hg).1⟩, .inl h.ob, fun i x hx => ?_, fun i x hx k hk => ?_, hT.dj, hT.ms, fun k hk => ?_⟩
  · exact ((h.below hb).hd.set 3 VT).congr fun i hi => by
      have : i = 0 ∨ i = 1 ∨ i = 2 ∨ i = 3 := by omega
      rcases this with rfl | rfl | rfl | rfl <;> rfl
  · have hso := hT.so i x hx
    exact (hT.sp i x hx).blocks (Below.heap_setCell _ _ _ _ (hne _ (hso _ (.inl rfl)).1)) (Below.heap_setCell _ _ _ _ (hne _ (hso _ (.inr rfl)).1)) (by rw [hsz]; exact Nat.le_refl _)
  · have hso := hT.so i x hx k hk
    exact ⟨.inr hso.1, hne k hso.1, hso.2.2⟩
  · rw [hsz]
    rcases hk with hk | hk
    · have := h.lt k hk; omega
    · exact hT.lt k hk
theorem put_fin (h : LiA true w O B V X c) (hb : Below w.heap.size w wr) (hT : LiA true wr OT BT VT XT { c with L := L2 }) (hOT : ∀ k, OT k → w.heap.size ≤ k) {A3 : Option Addr} {c3 : Nat} {SV : List (Nat × Nat)} {SD : Option Ce}
    (f1 : RsAt w3 A3 SV) (f2 : NewA (wr.setCell ⟨B, 3, none⟩ VT) A3) (f3 : LShp true (wr.setCell ⟨B, 3, none⟩ VT) (fun k => O k ∨ OT k) (.pointer (some ⟨B, 0, none⟩)) SD A3 w3) (f4 : LMut true (wr.setCell ⟨B, 3, none⟩ VT) (fun k => O k ∨ OT k) (.pointer (some ⟨B, 0, none⟩)) SD w3) :
    PtP true w O (.pointer (some ⟨B, 0, none⟩)) SV 0 SD (.returned (.tuple #[.slice A3 SV.length c3, .int .i64 0])) w3 := by
  have hsz : (wr.setCell ⟨B, 3, none⟩ VT).heap.size = wr.heap.size := World.size_setCell _ _ _
  have s := hb.size
  have s4 := f4.2.size
  rw [hsz] at s4
  have hK : Keep O w (wr.setCell ⟨B, 3, none⟩ VT) := (Keep.of hb).set (a := ⟨B, 3, none⟩) (.inl h.ob) _
  refine ⟨A3, c3, rfl, f1, ⟨fun x hx => ?_, ?_⟩, f4.1.mono (fun k hk => ?_) (fun k hk => ?_), hK.trans (f4.2.mono fun k hk ho => ?_)⟩
  · have := f2 x hx; rw [hsz] at this; omega
  · obtain ⟨O', h1, h2⟩ := f3
    refine ⟨O', h1, fun k hk => ?_⟩
    rcases h2 k hk with (ho | ho) | ho
    · exact .inl ho
    · refine .inr ⟨hOT k ho, fun x hx e => ?_⟩
      have h3 := f2 x hx
      have h4 := hT.lt k ho
      rw [hsz] at h3
      omega
    · rw [hsz] at ho
      exact .inr ⟨by omega, ho.2⟩
  · rcases hk with (ho | ho) | ho
    · exact .inl ho
    · have h4 := hT.lt k ho; exact .inr ⟨hOT k ho, by omega⟩
    · rw [hsz] at ho; exact .inr ⟨by omega, ho.2⟩
  · rcases hk with ho | ho
    · have := h.lt k ho; omega
    · exact ho.2
  · rcases ho with ho | ho
    · exact .inl ho
    · exact .inr ⟨hOT k ho, by rw [hsz]; exact hT.lt k ho⟩
end
theorem wild_yes {c : Ce} {zs : List Int} {a : Int} (ha : a ∈ zs) (hs : spI c.L a = none) : ptEr (some c) zs = 8 := if_pos (List.any_eq_true.2 ⟨a, ha, by rw [hs]; rfl⟩)
theorem wild_no {c : Ce} {zs : List Int} (h : ∀ a, a ∈ zs → (spI c.L a).isNone = false) : wildB c.L zs = false := by
  unfold wildB
  rw [List.any_eq_false]
  intro a ha
  rw [h a ha]
  decide
theorem bad_put {c : Ce} {zs : List Int} (hw : wildB c.L zs = false) (hg : goodB c zs = false) : ptEr (some c) zs = 9 := by
  rw [ptEr, if_neg (by rw [hw]; decide), hg]
  rfl
theorem good_put {c : Ce} {zs : List Int} (hw : wildB c.L zs = false) (hn : zs.Nodup) (hl : ∀ a, a ∈ zs → liV (some c) a = true) : ptEr (some c) zs = 0 := by
  have hg : goodB c zs = true := by
    unfold goodB
    rw [Bool.and_eq_true, decide_eq_true_eq, List.all_eq_true]
    exact ⟨hn, hl⟩
  rw [ptEr, if_neg (by rw [hw]; decide), hg]
  rfl
/-- Good so far. -/
def GoodTo (c : Ce) (zs : List Int) : Prop := zs.Nodup ∧ ∀ a, a ∈ zs → liV (some c) a = true
theorem GoodTo.snoc {c : Ce} {zs : List Int} {k : Nat} {a : Int} (h : GoodTo c (zs.take k)) (ha : zs[k]? = some a) (hl : liV (some c) a = true) (hn : a ∉ zs.take k) : GoodTo c (zs.take (k + 1)) := by
  rw [List.take_add_one, ha]
  refine ⟨List.nodup_append.2 ⟨h.1, by simp, fun x hx y hy e => ?_⟩, fun x hx => ?_⟩
  · simp at hy
    subst hy
    subst e
    exact hn hx
  · rw [List.mem_append] at hx
    rcases hx with hx | hx
    · exact h.2 x hx
    · simp at hx
      subst hx
      exact hl
theorem bad_at {c : Ce} {zs : List Int} {k : Nat} {a : Int} (ha : zs[k]? = some a) (h : liV (some c) a = false ∨ a ∈ zs.take k) : goodB c zs = false := by
  unfold goodB
  rw [Bool.and_eq_false_iff]
  rcases h with h | h
  · right
    rw [List.all_eq_false]
    exact ⟨a, List.mem_of_getElem? ha, by rw [h]; decide⟩
  · left
    rw [decide_eq_false_iff_not]
    intro hnd
    obtain ⟨j, hj⟩ := List.mem_iff_getElem?.1 h
    have hjk : j < k := by have := (List.getElem?_eq_some_iff.1 hj).1; rw [List.length_take] at this; omega
    rw [List.getElem?_take_of_lt hjk] at hj
    obtain ⟨h1, h2⟩ := List.getElem?_eq_some_iff.1 hj
    obtain ⟨h3, h4⟩ := List.getElem?_eq_some_iff.1 ha
    exact List.pairwise_iff_getElem.1 hnd j k h1 h3 hjk (h2.trans h4.symm)

set_option maxRecDepth 100000 in
set_option maxHeartbeats 8000000 in
theorem dPut_any {O : Nat → Prop} {v : Value} {om : Option Ce} {w : World} (h : LOb true w O v om) (A : Option Addr) (cap : Nat) (zs : List Int) (hz : zs.length ≤ 60) {N0 : Nat} (hN0 : N0 ≤ w.heap.size) (hA : ZAt w N0 A zs) :
    Calls Tryz.prog 27 #[v, .slice A zs.length cap] w (PtP true w O v (ptVr om zs) (ptEr om zs) (ptDr om zs)) := by
  cases om with
  | none =>
    have HH := Lib.hid h
    have HM := Lib.hid (dmade_no h.1)
    clear h
    generalize zs.length = n at *
    go_enter Tryz.func27, Tryz.ntmps27
    go_wp2_with (go_at_call 23; refine HM.out.mono ?_; rintro e w1 ⟨rfl, rfl⟩)
    go_ret2
    exact ⟨none, 0, rfl, fun i a b hi => by simp [ptVr] at hi, ⟨(fun x hx => nomatch hx), LShp.same HH.out (Below.refl _ _)⟩, LMut.same HH.out (Below.refl _ _)⟩
  | some c =>
    obtain ⟨B, V, X, rfl, h⟩ := h
    have HM := Lib.hid (dmade_any h)
    have HH := Lib.hid h
    have HWF := Lib.hid h.wf
    have HA := Lib.hid (fun W (hb : Below w.heap.size w W) => hA.below (hb.mono hN0))
    have HCL := Lib.hid (fun W (hb : Below w.heap.size w W) => dClone_any (h.below hb).lob)
    have HSP := Lib.hid (fun W (hb : Below w.heap.size w W) (a : Int) => dspan_any (h.below hb) a)
    obtain ⟨n, hn⟩ : ∃ n, zs.length = n := ⟨_, rfl⟩
    have HN := Lib.hid hn
    rw [hn] at hz ⊢
    clear h hA hn
    go_enter Tryz.func27, Tryz.ntmps27
    go_wp2_with (go_at_call 23; refine HM.out.mono ?_; rintro e w1 ⟨rfl, rfl⟩)
    go_loopw [6] (fun i wr => ∃ k : Nat, k ≤ n ∧ i = .int .i64 k ∧ Hid (∀ a, a ∈ zs.take k → (spI c.L a).isNone = false) ∧ Below w.heap.size w wr) (fun i _ => n - (intOf i).toNat)
    case atStart => exact ⟨0, by omega, rfl, Lib.hid (fun a ha => by simp at ha), Below.refl _ _⟩
    case round =>
      obtain ⟨k, hk, rfl, HNW, hb⟩ := hrel
      have HB := Lib.hid hb
      by_cases hlt : k < n
      · obtain ⟨a, ha⟩ : ∃ a, zs[k]? = some a := ⟨_, List.getElem?_eq_getElem (by have := HN.out; omega)⟩
        obtain ⟨_, b, o, rfl, _, hc⟩ := (HA.out wr hb) k a ha
        have hsp := HSP.out wr hb a
        have HAK := Lib.hid ha
        cases hs : spI c.L a with
        | none =>
          rw [hs] at hsp
          have HSK := Lib.hid hsp
          have he := wild_yes (List.mem_of_getElem? ha) hs
          obtain ⟨e1, e2⟩ := ptEr_bad (c := c) (zs := zs) (by rw [he]; decide)
          rw [he, e1, e2]
          clear he e1 e2 hs hsp ha hb
          go_wp2_with (go_at_call 63; refine HSK.out.mono ?_; rintro e w3 ⟨rfl, hb3⟩; have HB3 := Lib.hid (btr HB.out hb3 (Nat.le_refl _)); clear hb3)
          go_ret2
          exact ⟨none, 0, rfl, fun i a b hi => by simp at hi, ⟨(fun x hx => nomatch hx), LShp.same HH.out.lob HB3.out⟩, LMut.same HH.out.lob HB3.out⟩
        | some i =>
          rw [hs] at hsp
          have HSK := Lib.hid hsp
          have HNK := Lib.hid (show ∀ a', a' ∈ zs.take (k + 1) → (spI c.L a').isNone = false from fun a' h' => by
            rw [List.take_add_one, ha, List.mem_append] at h'
            rcases h' with h' | h'
            · exact HNW.out a' h'
            · simp at h'
              subst h'
              rw [hs]; rfl)
          have d1 : decide ((i : Int) < 0) = false := decide_eq_false (by omega)
          rw [show spV (some i) = (i : Int) from rfl] at HSK
          clear hs hsp ha hb
          go_wp2_with (go_at_call 63; refine HSK.out.mono ?_; rintro e w3 ⟨rfl, hb3⟩; have HB3 := Lib.hid (btr HB.out hb3 (Nat.le_refl _)); clear hb3)
          go_roundw
          case rel => exact ⟨k + 1, by omega, by go_num, HNK, HB3.out⟩
          case measure => simp [intOf]; omega
      · obtain rfl : n = k := by omega
        have hall : zs.take n = zs := List.take_of_length_le (by have := HN.out; omega)
        rw [hall] at HNW
        have HWI := Lib.hid (wild_no HNW.out)
        clear hall hb
        go_wp2_with (go_at_call 10; refine (HCL.out _ HB.out).mono ?_; rintro e w2 ⟨p, rfl, ⟨BT, VT, XT, e2, hT⟩, _, hb2⟩; injection e2 with e2; subst e2; have HT := Lib.hid hT; have HB2 := Lib.hid (btr HB.out hb2 (Nat.le_refl _)); have HB12 := Lib.hid hb2; clear hT hb2)
        obtain ⟨AT, capT, rfl⟩ := owns_form HT.out.row
        obtain ⟨NT, hNT⟩ : ∃ NT, XT.length = NT := ⟨_, rfl⟩
        rw [hNT] at HT
        have hNT4 : NT ≤ 1024 := by rw [← hNT, HT.out.len]; exact HT.out.wf.len
        have HOT := Lib.hid (show ∀ q, Nw wr w2 q → w.heap.size ≤ q from fun q hq => Nat.le_trans HB.out.size hq.1)
        have HP0 := Lib.hid (PtM.start HT.out)
        have hmx : Tryz.prog.follows .mixedOrders = true := by kernel_rfl
        clear hNT
        generalize hOTe : Nw wr w2 = OT at *
        clear hOTe
        go_loopw [8] (fun i wv => ∃ k : Nat, k ≤ n ∧ i = .int .i64 k ∧ Hid (GoodTo c (zs.take k)) ∧ PtM true w2 wv OT BT (.slice AT NT capT) c (zs.take k)) (fun i _ => n - (intOf i).toNat)
        case atStart => exact ⟨0, by omega, rfl, Lib.hid ⟨by simp, fun a ha => by simp at ha⟩, HP0.out⟩
        case round =>
          obtain ⟨k, hk, rfl, HG, hP⟩ := hrel
          have HP := Lib.hid hP
          have hbw : Below w.heap.size w wr := HB2.out.trans (hP.kp.below HB2.out.size HOT.out)
          have HBW := Lib.hid hbw
          obtain ⟨X', hX'⟩ := hP.st
          have HX' := Lib.hid hX'
          have hXN := owns_len hX'.row
          have c3T : wr.cell? ⟨BT, 3, none⟩ = some (.slice AT NT capT) := hX'.cells.2.2.2
          by_cases hlt : k < n
          · obtain ⟨a, ha⟩ : ∃ a, zs[k]? = some a := ⟨_, List.getElem?_eq_getElem (by have := HN.out; omega)⟩
            obtain ⟨_, b, o, rfl, hbN, hc⟩ := (HA.out wr hbw) k a ha
            have HAK := Lib.hid ha
            have hw0 := HNW.out a (List.mem_of_getElem? ha)
            obtain ⟨i, hs⟩ : ∃ i, spI c.L a = some i := by
              cases e : spI c.L a with
              | none => rw [e] at hw0; cases hw0
              | some i => exact ⟨i, rfl⟩
            obtain ⟨m, hm, hp⟩ := fi_get hs
            obtain ⟨q, hq⟩ := Option.isSome_iff_exists.1 hp
            obtain ⟨hqn, hqa⟩ := obO_get (HWF.out.at hm).wf hq
            have hmo : (offL c.L (zs.take k))[i]? = some (offM (zs.take k) m) := offL_at hm
            obtain ⟨x', hx'⟩ := hX'.get (i := i) (by show i < (offL c.L (zs.take k)).length; exact (List.getElem?_eq_some_iff.1 hmo).1)
            have hxm : x'.m = offM (zs.take k) m := by have := hX'.at hx'; rw [show ({ c with L := offL c.L (zs.take k) } : Ce).L = offL c.L (zs.take k) from rfl, hmo] at this; injection this with this; exact this.symm
            obtain ⟨g, cap2, hV, hcg⟩ := hX'.slot hx'
            obtain ⟨rfl, rfl⟩ : AT = some ⟨g, 0, none⟩ ∧ capT = cap2 := by injection hV; exact ⟨by assumption, by assumption⟩
            have hiN : i < NT := by have := (List.getElem?_eq_some_iff.1 hx').1; omega
            have HSK := Lib.hid (show Calls Tryz.prog 63 #[.pointer (some ⟨BT, 0, none⟩), .int .i64 a] wr fun e w' => e = .returned (.int .i64 (i : Int)) ∧ Below wr.heap.size wr w' from by
              have := dspan_any hX' a
              rw [show ({ c with L := offL c.L (zs.take k) } : Ce).L = offL c.L (zs.take k) from rfl, spI_off, hs] at this
              exact this)
            have hpp := put_pure HWF.out (t := zs.take k) hm hq hqn
            have hgl := World.block_lt_of_cell? _ _ hcg
            have hcl := World.block_lt_of_cell? _ _ hc
            have htl := World.block_lt_of_cell? _ _ c3T
            have HCT := Lib.hid (fun (W : World) (hb : Below wr.heap.size wr W) => show W.cell? ⟨BT, 3, none⟩ = some (.slice (some ⟨g, 0, none⟩) NT capT) ∧ W.cell? ⟨g, i, none⟩ = some (.pointer (some ⟨x'.B, 0, none⟩)) ∧ W.cell? ⟨b, o + k, none⟩ = some (.int .i64 a) from
              ⟨(hb.cell (p := ⟨BT, 3, none⟩) htl).trans c3T, (hb.cell (p := ⟨g, i, none⟩) hgl).trans hcg, (hb.cell (p := ⟨b, o + k, none⟩) hcl).trans hc⟩)
            have HSO := Lib.hid (hX'.so i x' hx')
            by_cases hg : m.f q = true ∧ a ∉ zs.take k
            · rw [if_pos hg] at hpp
              have HPT := Lib.hid (fun W (hb : Below wr.heap.size wr W) => show Calls Tryz.prog 64 #[.pointer (some ⟨x'.B, 0, none⟩), .int .i64 a] W fun e w' => e = .returned (.int .i64 0) ∧ Mut true W x'.own (.pointer (some ⟨x'.B, 0, none⟩)) (some ((offM (zs.take k) m).set q false)) w' from by
                have := rPut_any ((HX'.out.below hb).span hx') a
                rw [hxm, hpp.1, hpp.2 hg.1 hg.2] at this
                exact this)
              have HST := Lib.hid (fun (W w' : World) (hb : Below wr.heap.size wr W) (hM : Mut true W x'.own (.pointer (some ⟨x'.B, 0, none⟩)) (some ((offM (zs.take k) m).set q false)) w') => show PtM true w2 w' OT BT (.slice (some ⟨g, 0, none⟩) NT capT) c (zs.take (k + 1)) from by
                have hwf2 : CWf { c with L := (offL c.L (zs.take k)).set i ((offM (zs.take k) m).set q false) } := by rw [off_step HWF.out hm hq]; exact HWF.out.off _
                obtain ⟨hk2, y, _, _, hst⟩ := (HX'.out.below hb).step hx' hM hwf2
                refine ⟨⟨X'.set i y, ?_⟩, (HP.out.kp.trans (Keep.of hb)).trans (hk2.mono fun _ _ ho => .inl ho)⟩
                have e : ({ c with L := (offL c.L (zs.take k)).set i ((offM (zs.take k) m).set q false) } : Ce) = { c with L := offL c.L (zs.take (k + 1)) } := by
                  rw [off_step HWF.out hm hq, List.take_add_one, ha]; rfl
                rw [← e]
                exact hst)
              have HGN := Lib.hid (HG.out.snoc ha (by rw [hqa, liV_set HWF.out hm hqn]; exact hg.1) hg.2)
              clear ha hw0 hs hm hp hq hqn hqa hmo hX' hx' hxm hV hXN hpp hg hbw hP hgl hcl htl hcg hbN
              generalize x'.B = xb at *
              go_wp2_with (go_at_call 63; refine HSK.out.mono ?_; rintro e w4 ⟨rfl, hb4⟩; have HB4 := Lib.hid (belowN hb4 1); clear hb4)
              obtain ⟨k1, k2, k3⟩ := HCT.out w4 (Below.trans HB4.out ⟨rfl, rfl, rfl, Nat.le_refl _, fun _ _ => rfl⟩)
              go_still_tail 11, hmx
              change wpList _ _ _ _ _ w4.drew
              go_wp2_with (go_at_call 64; refine (HPT.out _ HB4.out).mono ?_; rintro e w5 ⟨rfl, hM⟩; have HP5 := Lib.hid (HST.out _ _ HB4.out hM); clear hM)
              go_roundw
              case rel => exact ⟨k + 1, by omega, by go_num, HGN, HP5.out⟩
              case measure => simp [intOf]; omega
            · rw [if_neg hg] at hpp
              have HPT := Lib.hid (fun W (hb : Below wr.heap.size wr W) => show Calls Tryz.prog 64 #[.pointer (some ⟨x'.B, 0, none⟩), .int .i64 a] W fun e w' => e = .returned (.int .i64 9) ∧ Below w.heap.size w w' from by
                have h1 := rPut_any ((HX'.out.below hb).span hx') a
                rw [hxm, hpp.1] at h1
                exact h1.mono fun e w' h => ⟨h.1, (HBW.out.trans (hb.mono HBW.out.size)).trans (h.2.2.below (Nat.le_trans HBW.out.size hb.size) (fun q hq => HOT.out q (HSO.out q hq).1))⟩)
              have he : ptEr (some c) zs = 9 := bad_put HWI.out (bad_at (k := k) ha (by
                rw [hqa, liV_set HWF.out hm hqn, ← hqa]
                by_cases h1 : m.f q = true
                · exact .inr (Classical.byContradiction fun h2 => hg ⟨h1, h2⟩)
                · exact .inl (by simpa using h1)))
              obtain ⟨e1, e2⟩ := ptEr_bad (c := c) (zs := zs) (by rw [he]; decide)
              have HE := Lib.hid (And.intro he (And.intro e1 e2))
              clear ha hw0 hs hm hp hq hqn hqa hmo hX' hx' hxm hV hXN hpp hg hbw hP hgl hcl htl hcg hbN he e1 e2
              generalize x'.B = xb at *
              go_wp2_with (go_at_call 63; refine HSK.out.mono ?_; rintro e w4 ⟨rfl, hb4⟩; have HB4 := Lib.hid (belowN hb4 1); clear hb4)
              obtain ⟨k1, k2, k3⟩ := HCT.out w4 (Below.trans HB4.out ⟨rfl, rfl, rfl, Nat.le_refl _, fun _ _ => rfl⟩)
              go_still_tail 11, hmx
              change wpList _ _ _ _ _ w4.drew
              go_wp2_with (go_at_call 64; refine (HPT.out _ HB4.out).mono ?_; rintro e w5 ⟨rfl, hb5⟩; have HB5 := Lib.hid hb5; clear hb5)
              go_ret2
              rw [HE.out.1, HE.out.2.1, HE.out.2.2]
              exact ⟨none, 0, rfl, fun i a b hi => by simp at hi, ⟨(fun x hx => nomatch hx), LShp.same HH.out.lob HB5.out⟩, LMut.same HH.out.lob HB5.out⟩
          · obtain rfl : n = k := by omega
            have hall : zs.take n = zs := List.take_of_length_le (by have := HN.out; omega)
            rw [hall] at HG
            rw [hall] at HX'
            obtain ⟨e1, e2⟩ := ptEr_ok (good_put HWI.out HG.out.1 HG.out.2)
            have HE := Lib.hid (And.intro (good_put HWI.out HG.out.1 HG.out.2) (And.intro e1 e2))
            have HSW := Lib.hid (dSweep_any (put_swap HH.out HBW.out HX'.out HOT.out).lob)
            have d3 := (HH.out.below hbw).cells.2.2.2
            have f3 := (HH.out.below hbw).hd.free 3 (by omega)
            clear hbw hP hX' hXN e1 e2 hall
            go_wp2_with (go_at_call 29; refine HSW.out.mono ?_; rintro e w3 ⟨A3, c3, rfl, f1, f2, f3⟩; have HF := Lib.hid (And.intro f1 (And.intro f2 f3)); clear f1 f2 f3)
            go_ret2
            rw [HE.out.1, HE.out.2.1, HE.out.2.2]
            exact put_fin HH.out HBW.out HX'.out HOT.out HF.out.1 HF.out.2.1.1 HF.out.2.1.2 HF.out.2.2
end Go.Proofs.YtejfoefhaphacaaGreat
