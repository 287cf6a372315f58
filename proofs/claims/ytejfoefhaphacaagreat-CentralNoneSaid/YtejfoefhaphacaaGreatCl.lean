/- Package central: checkTaken, Put. -/
import Derived.Test.YtejfoefhaphacaaGreatCk
namespace Go.Proofs.YtejfoefhaphacaaGreat
open Go.RowKit Go.Sort Go.Shelf Go.Lib

theorem liE_wild {c : Ce} {a : Int} (h : spI c.L a = none) : liE (some c) a = 8 := liE_none h
theorem wild_of {c : Ce} {zs : List Int} {k : Nat} {a : Int} (hk : zs[k]? = some a) (h : spI c.L a = none) : ptEr (some c) zs = 8 := by
  have : wildB c.L zs = true := List.any_eq_true.2 ⟨a, List.mem_of_getElem? hk, by rw [h]; rfl⟩
  rw [ptEr, if_pos this]

set_option maxRecDepth 100000 in
set_option maxHeartbeats 4000000 in
theorem checkTaken_any {O : Nat → Prop} {v : Value} {om : Option Ce} {w : World} (h : LOb false w O v om) (A : Option Addr) (cap : Nat) (zs : List Int) (hz : zs.length ≤ 60) (hA : ZAt w w.heap.size A zs) :
    Calls Tryz.prog 48 #[v, .slice A zs.length cap] w fun e w' => e = .returned (.int .i64 (ptEr om zs)) ∧ Below w.heap.size w w' := by
  cases om with
  | none =>
    have HM := Lib.hid (cmade_no h.1)
    clear h
    rw [show ptEr none zs = 5 from rfl]
    go_enter Tryz.func48, Tryz.ntmps48
    go_wp2_with (go_at_call 21; refine HM.out.mono ?_; rintro e w1 ⟨rfl, rfl⟩)
    go_ret
    exact ⟨rfl, Below.refl _ _⟩
  | some c =>
    have HM := Lib.hid (show Calls Tryz.prog 21 #[v] w fun e w' => e = .returned (.bool true) ∧ w = w' from by obtain ⟨B, V, X, rfl, h⟩ := h; exact cmade_any h)
    have HRP := Lib.hid (repeats_any A cap zs w hz hA)
    have HH := Lib.hid (fun W (hb : Below w.heap.size w W) (a : Int) (ha : InR a) => cIsTaken_any (h.below hb) a ha)
    have HA := Lib.hid hA
    obtain ⟨n, hn⟩ : ∃ n, zs.length = n := ⟨_, rfl⟩
    have HN := Lib.hid hn
    rw [hn] at HRP hz ⊢
    obtain ⟨rp, hrp⟩ : ∃ rp, (!decide zs.Nodup) = rp := ⟨_, rfl⟩
    rw [hrp] at HRP
    have HRR := Lib.hid hrp
    clear h hA hn hrp
    go_enter Tryz.func48, Tryz.ntmps48
    go_wp2_with (first
      | (go_at_call 21; refine HM.out.mono ?_; rintro e w1 ⟨rfl, rfl⟩)
      | (go_at_call 85; refine HRP.out.mono ?_; rintro e w2 ⟨rfl, hb⟩; have HB1 := Lib.hid hb; clear hb))
    go_loopw [5, 17] (fun t i wr => ∃ (k : Nat) (tw : Bool), k ≤ n ∧ i = .int .i64 k ∧ t = .bool tw ∧ tw = (rp || (zs.take k).any (fun a => !liV (some c) a)) ∧ Hid (∀ a, a ∈ zs.take k → (spI c.L a).isNone = false) ∧ Below w.heap.size w wr) (fun _ i _ => n - (intOf i).toNat)
    case atStart => exact ⟨0, rp, by omega, rfl, rfl, by simp, (fun a ha => by simp at ha : ∀ a, a ∈ zs.take 0 → (spI c.L a).isNone = false), HB1.out⟩
    case round =>
      obtain ⟨k, tw, hk, rfl, rfl, htw, hno, hb⟩ := hrel
      have HTW := Lib.hid htw
      have HB := Lib.hid hb
      by_cases hlt : k < n
      · obtain ⟨a, ha⟩ : ∃ a, zs[k]? = some a := ⟨_, List.getElem?_eq_getElem (by have := HN.out; omega)⟩
        obtain ⟨hr, b, o, rfl, hbN, hc⟩ := (HA.out.below hb) k a ha
        have HIS := Lib.hid (HH.out wr hb a hr)
        have HAK := Lib.hid ha
        have htk : zs.take (k + 1) = zs.take k ++ [a] := by rw [List.take_add_one, ha]; rfl
        have HTK := Lib.hid htk
        clear htw hb ha hbN htk hr
        cases hs : spI c.L a with
        | none =>
          rw [liE_none hs] at HIS
          generalize liV (some c) a = q at *
          have HW := Lib.hid (wild_of HAK.out hs)
          clear hs
          go_wp2_with (go_at_call 32; refine HIS.out.mono ?_; rintro e w3 ⟨rfl, hb3⟩; have HB3 := Lib.hid (btr HB.out hb3 (Nat.le_refl _)); clear hb3)
          go_ret
          exact ⟨ret_int HW.out.symm, HB3.out⟩
        | some i =>
          rw [liE_some hs] at HIS
          have HNO := Lib.hid (show ∀ a', a' ∈ zs.take (k + 1) → (spI c.L a').isNone = false from fun a' h' => by
            rw [HTK.out, List.mem_append, List.mem_singleton] at h'
            rcases h' with h' | rfl
            · exact hno.out a' h'
            · rw [hs]; rfl)
          obtain ⟨q, hq⟩ : ∃ q, liV (some c) a = q := ⟨_, rfl⟩
          rw [hq] at HIS
          have HQ := Lib.hid hq
          clear hs hq
          cases tw <;> cases q
          all_goals
            go_wp2_with (go_at_call 32; refine HIS.out.mono ?_; rintro e w3 ⟨rfl, hb3⟩; have HB3 := Lib.hid (btr HB.out hb3 (Nat.le_refl _)); clear hb3)
            go_roundw
            case rel => exact ⟨k + 1, _, by omega, by go_num, rfl, by rw [HTK.out, List.any_append, ← Bool.or_assoc, ← HTW.out]; simp [HQ.out], HNO, HB3.out⟩
            case measure => simp [intOf]; omega
      · obtain rfl : k = n := by omega
        have hall : zs.take k = zs := List.take_of_length_le (by have := HN.out; omega)
        rw [hall] at htw hno
        have hwild : wildB c.L zs = false := by
          unfold wildB
          rw [List.any_eq_false]
          intro a ha
          rw [hno.out a ha]
          decide
        have hres : ptEr (some c) zs = if tw = true then 9 else 0 := by
          have hg : goodB c zs = !tw := by
            rw [htw, ← HRR.out]
            unfold goodB
            rw [Bool.not_or, Bool.not_not, List.not_any_eq_all_not]
            simp
          rw [ptEr, if_neg (by rw [hwild]; decide), hg]
          cases tw <;> rfl
        have HRES := Lib.hid hres
        clear htw hb hno hall hwild hres HTW
        cases tw
        · go_wp2_with fail
          go_ret
          exact ⟨ret_int (by rw [HRES.out]; rfl), HB.out⟩
        · go_wp2_with fail
          go_ret
          exact ⟨ret_int (by rw [HRES.out]; rfl), HB.out⟩

/-- What Put returns and leaves. -/
def PtP (r : Bool) (w : World) (O : Nat → Prop) (v : Value) (L : List (Nat × Nat)) (er : Int) (om : Option Ce) (e : Ending) (w' : World) : Prop := ∃ A c, e = .returned (.tuple #[.slice A L.length c, .int .i64 er]) ∧ RsAt w' A L ∧ (NewA w A ∧ LShp r w O v om A w') ∧ LMut r w O v om w'
/-- The list while objects are put back. -/
structure PtM (r : Bool) (w wr : World) (O : Nat → Prop) (B : Nat) (V : Value) (c : Ce) (t : List Int) : Prop where
  st : ∃ X', LiA r wr O B V X' { c with L := offL c.L t }
  kp : Keep O w wr
theorem PtM.start {r : Bool} {w : World} {O : Nat → Prop} {B : Nat} {V : Value} {X : List Sn} {c : Ce} (h : LiA r w O B V X c) : PtM r w w O B V c [] := ⟨⟨X, by rw [offL_nil]; exact h⟩, Keep.refl _ _⟩
theorem PtM.below {r : Bool} {w wr w' : World} {O : Nat → Prop} {B : Nat} {V : Value} {c : Ce} {t : List Int} (h : PtM r w wr O B V c t) (hb : Below wr.heap.size wr w') : PtM r w w' O B V c t := by
  obtain ⟨X', h1⟩ := h.st
  exact ⟨⟨X', h1.below hb⟩, h.kp.trans (Keep.of hb)⟩
/-- An object that is taken is put back: what its span returns and leaves. -/
theorem put_pure {c : Ce} (hwf : CWf c) {t : List Int} {a : Int} {i q : Nat} {m : Mo} (hm : c.L[i]? = some m) (hq : obO m a = some q) (hqn : q < m.n) : ptE (some (offM t m)) a = (if m.f q = true ∧ a ∉ t then 0 else 9) ∧ (m.f q = true → a ∉ t → ptD (some (offM t m)) a = some ((offM t m).set q false)) := by
  have ha : a = adr m q := (obO_get (hwf.at hm).wf hq).2
  have hf : (offM t m).f q = (m.f q && !decide (a ∈ t)) := by
    show (if q < m.n then m.f q && !decide ((adr m q : Int) ∈ t) else m.f q) = _
    rw [if_pos hqn, ha]
  have hq' : obO (offM t m) a = some q := hq
  refine ⟨?_, fun h1 h2 => ?_⟩
  · by_cases h1 : m.f q = true ∧ a ∉ t
    · rw [if_pos h1, ptE_on hq' (by rw [hf]; simp [h1.1, h1.2])]
    · rw [if_neg h1, ptE_off hq' (by rw [hf]; by_cases h2 : m.f q = true <;> by_cases h3 : a ∈ t <;> simp [h2, h3] at h1 ⊢)]
  · exact ptD_on hq' (by rw [hf]; simp [h1, h2])

theorem ZAt.keep2 {w w' : World} {A : Option Addr} {l : List Int} {O : Nat → Prop} (h : ZAt w w.heap.size A l) (hk : Keep O w w') (hd : ∀ x, A = some x → l ≠ [] → ¬ O x.block) : ZAt w' w.heap.size A l := fun k x hx => by
  obtain ⟨hr, b, o, e, hB, h1⟩ := h k x hx
  exact ⟨hr, b, o, e, hB, (World.cell?_of_block (a := ⟨b, _, none⟩) (hk.block b hB (hd _ e (fun h0 => by rw [h0] at hx; simp at hx)))).trans h1⟩

set_option maxRecDepth 100000 in
set_option maxHeartbeats 4000000 in
theorem cPut_gen {O : Nat → Prop} {v : Value} {om : Option Ce} {w : World} (h : LOb false w O v om) (A : Option Addr) (cap : Nat) (zs : List Int) (hz : zs.length ≤ 60) (hd : ∀ x, A = some x → zs ≠ [] → ¬ O x.block) (hA : ZAt w w.heap.size A zs) :
    Calls Tryz.prog 15 #[v, .slice A zs.length cap] w (PtP false w O v (ptVr om zs) (ptEr om zs) (ptDr om zs)) := by
  have HCK := Lib.hid (checkTaken_any h A cap zs hz hA)
  have HLO := Lib.hid h
  by_cases he : ptEr om zs = 0
  · cases om with
    | none => exact absurd (show (5 : Int) = 0 from he) (by decide)
    | some c =>
      obtain ⟨hw, hnd, htk⟩ := ptEr_zero he
      obtain ⟨e1, e2⟩ := ptEr_ok he
      rw [he] at HCK ⊢
      rw [e1, e2]
      obtain ⟨B, V, X, rfl, h⟩ := h
      have HWF := Lib.hid h.wf
      have HOW := Lib.hid h.lt
      have HND := Lib.hid hnd
      have HTK := Lib.hid htk
      have HA := Lib.hid hA
      have HH := Lib.hid h
      have HO := Lib.hid hd
      obtain ⟨n, hn⟩ : ∃ n, zs.length = n := ⟨_, rfl⟩
      have HN := Lib.hid hn
      rw [hn] at HCK hz ⊢
      clear h he hw hnd htk e1 e2 hA hn hd
      go_enter Tryz.func15, Tryz.ntmps15
      go_wp2_with (go_at_call 48; refine HCK.out.mono ?_; rintro e w1 ⟨rfl, hb⟩; have HB1 := Lib.hid hb; clear hb)
      have hb1 := HB1.out
      have HP1 := Lib.hid (show PtM false w w1 O B V c [] from (PtM.start HH.out).below hb1)
      clear hb1
      go_loopw [19] (fun i wr => ∃ k : Nat, k ≤ n ∧ i = .int .i64 k ∧ PtM false w wr O B V c (zs.take k)) (fun i _ => n - (intOf i).toNat)
      case atStart => exact ⟨0, by omega, rfl, HP1.out⟩
      case round =>
        obtain ⟨k, hk, rfl, hP⟩ := hrel
        have HP := Lib.hid hP
        by_cases hlt : k < n
        · obtain ⟨a, ha⟩ : ∃ a, zs[k]? = some a := ⟨_, List.getElem?_eq_getElem (by have := HN.out; omega)⟩
          obtain ⟨hr, b, o, rfl, hbN, hc⟩ := (HA.out.keep2 hP.kp HO.out) k a ha
          obtain ⟨i, m, q, hm, hq, hfq, hqn, haq, hsp⟩ := liV_get HWF.out (HTK.out a (List.mem_of_getElem? ha))
          obtain ⟨X', hX'⟩ := hP.st
          have hmo : (offL c.L (zs.take k))[i]? = some (offM (zs.take k) m) := offL_at hm
          obtain ⟨x', hx'⟩ := hX'.get (i := i) (by show i < (offL c.L (zs.take k)).length; exact (List.getElem?_eq_some_iff.1 hmo).1)
          have hxm : x'.m = offM (zs.take k) m := by have := hX'.at hx'; rw [show ({ c with L := offL c.L (zs.take k) } : Ce).L = offL c.L (zs.take k) from rfl, hmo] at this; injection this with this; exact this.symm
          have hpos : pos (offL c.L (zs.take k)) (a.tdiv 256) = i + 1 := by
            have := hX'.wf.has (show ({ c with L := offL c.L (zs.take k) } : Ce).L[i]? = some (offM (zs.take k) m) from hmo) (obO_id (show obO (offM (zs.take k) m) a = some q from hq))
            exact this.symm
          have HS := Lib.hid (spanOf_at hX' a hr i x' hx' hpos)
          have hnt : a ∉ zs.take k := fun hmem => by
            obtain ⟨j, hj⟩ := List.mem_iff_getElem?.1 hmem
            have hjk : j < k := by have := (List.getElem?_eq_some_iff.1 hj).1; rw [List.length_take] at this; omega
            rw [List.getElem?_take_of_lt hjk] at hj
            obtain ⟨h1, h2⟩ := List.getElem?_eq_some_iff.1 hj
            obtain ⟨h3, h4⟩ := List.getElem?_eq_some_iff.1 ha
            exact List.pairwise_iff_getElem.1 HND.out j k h1 h3 hjk (h2.trans h4.symm)
          have hpp := put_pure HWF.out (t := zs.take k) hm hq hqn
          rw [if_pos ⟨hfq, hnt⟩] at hpp
          have HPT := Lib.hid (fun W (hb : Below wr.heap.size wr W) => show Calls Tryz.prog 50 #[.pointer (some ⟨x'.B, 0, none⟩), .int .i64 a] W fun e w' => e = .returned (.int .i64 0) ∧ Mut false W x'.own (.pointer (some ⟨x'.B, 0, none⟩)) (some ((offM (zs.take k) m).set q false)) w' from by
            have := Put_any ((hX'.below hb).span hx') a hr
            rw [hxm, hpp.1, hpp.2 hfq hnt] at this
            exact this)
          have HST := Lib.hid (fun (W w' : World) (hb : Below wr.heap.size wr W) (hM : Mut false W x'.own (.pointer (some ⟨x'.B, 0, none⟩)) (some ((offM (zs.take k) m).set q false)) w') => show PtM false w w' O B V c (zs.take (k + 1)) from by
            have hwf2 : CWf { c with L := (offL c.L (zs.take k)).set i ((offM (zs.take k) m).set q false) } := by rw [off_step HWF.out hm hq]; exact HWF.out.off _
            obtain ⟨hk2, y, _, _, hst⟩ := (hX'.below hb).step hx' hM hwf2
            refine ⟨⟨X'.set i y, ?_⟩, (HP.out.kp.trans (Keep.of hb)).trans (hk2.mono fun _ _ ho => .inl ho)⟩
            have e : ({ c with L := (offL c.L (zs.take k)).set i ((offM (zs.take k) m).set q false) } : Ce) = { c with L := offL c.L (zs.take (k + 1)) } := by
              rw [off_step HWF.out hm hq, List.take_add_one, ha]; rfl
            rw [← e]
            exact hst)
          clear hP ha hbN hm hq hfq haq hsp hX' hmo hx' hxm hpos hnt hpp hr
          generalize x'.B = xb at *
          go_wp2_with (first
            | (go_at_call 49; refine HS.out.mono ?_; rintro e w2 ⟨rfl, hb⟩; have HB2 := Lib.hid hb; clear hb)
            | (go_at_call 50; refine (HPT.out _ HB2.out).mono ?_; rintro e w3 ⟨rfl, hM⟩; have HP3 := Lib.hid (HST.out _ _ HB2.out hM); clear hM))
          go_roundw
          case rel => exact ⟨k + 1, by omega, by go_num, HP3.out⟩
          case measure => simp [intOf]; omega
        · obtain rfl : k = n := by omega
          have hall : zs.take k = zs := List.take_of_length_le (by have := HN.out; omega)
          rw [hall] at hP
          obtain ⟨X', hX'⟩ := hP.st
          have HSW := Lib.hid (cSweep_any hX'.lob)
          have HKP := Lib.hid hP.kp
          clear hP hall hX'
          go_wp2_with (go_at_call 28; refine HSW.out.mono ?_; rintro e w3 ⟨A3, c3, rfl, f1, f2, f3⟩; have HF := Lib.hid (And.intro f1 (And.intro f2.1 f3)); have HFS := Lib.hid f2.2; clear f1 f2 f3)
          go_ret2
          have hsh : LShp false w O (.pointer (some ⟨B, 0, none⟩)) (some { c with L := live (offL c.L zs) }) A3 w3 := by
            obtain ⟨O', h1, h2⟩ := HFS.out
            exact ⟨O', h1, fun k hk => (h2 k hk).imp id fun h => ⟨Nat.le_trans HKP.out.size h.1, h.2⟩⟩
          refine ⟨A3, c3, rfl, HF.out.1, ⟨(fun x hx => Nat.le_trans HKP.out.size (HF.out.2.1 x hx)), hsh⟩, ?_⟩
          have hM := HF.out.2.2
          have s1 := HKP.out.size
          have s2 := hM.2.size
          exact ⟨hM.1.mono (fun k hk => by
              rcases hk with hk | hk
              · exact .inl hk
              · exact .inr (by omega)) (fun k hk => by
              rcases hk with hk | hk
              · have := HOW.out k hk; omega
              · exact hk.2), HKP.out.trans (hM.2.mono fun _ _ hk => .inl hk)⟩
  · have hbad : ptDr om zs = om ∧ ptVr om zs = [] := by
      cases om with
      | none => exact ⟨rfl, rfl⟩
      | some c => exact ptEr_bad he
    rw [hbad.1, hbad.2]
    have he2 : (ptEr om zs == 0) = false := by simpa using he
    generalize ptEr om zs = er at *
    clear h hbad he hA
    go_enter Tryz.func15, Tryz.ntmps15
    go_wp2_with (go_at_call 48; refine HCK.out.mono ?_; rintro e w1 ⟨rfl, hb⟩; have HB1 := Lib.hid hb; clear hb)
    go_ret2
    exact ⟨none, 0, rfl, fun i a b hi => by simp at hi, ⟨(fun x hx => nomatch hx), LShp.same HLO.out HB1.out⟩, LMut.same HLO.out HB1.out⟩

theorem cPut_any {O : Nat → Prop} {v : Value} {om : Option Ce} {w : World} (h : LOb false w O v om) (A : Option Addr) (cap : Nat) (zs : List Int) (hz : zs.length ≤ 60) {N0 : Nat} (hN0 : N0 ≤ w.heap.size) (hO : ∀ k, O k → N0 ≤ k) (hA : ZAt w N0 A zs) :
    Calls Tryz.prog 15 #[v, .slice A zs.length cap] w (PtP false w O v (ptVr om zs) (ptEr om zs) (ptDr om zs)) := by
  refine cPut_gen h A cap zs hz (fun x hx h0 ho => ?_) (hA.more hN0)
  cases zs with
  | nil => exact h0 rfl
  | cons z t =>
    obtain ⟨_, b, o, e, hb, _⟩ := hA 0 z rfl
    rw [e] at hx
    injection hx with hx
    subst hx
    have := hO _ ho
    simp at this
    omega

end Go.Proofs.YtejfoefhaphacaaGreat
