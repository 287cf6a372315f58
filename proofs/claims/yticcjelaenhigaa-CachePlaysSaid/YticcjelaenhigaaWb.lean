/- The statement: the bytes are the sum of the sizes. -/
import Derived.Test.YticcjelaenhigaaWa
namespace Go.Proofs.Yticcjelaenhigaa
open Go.RowKit Go.Lib

theorem atK_at {c : Tc} {i : Nat} {k : Kl} (h : c.K[i]? = some k) : atK (some c) (i : Int) = some k := by
  unfold atK; dsimp only; rw [if_pos (Int.natCast_nonneg i), Int.toNat_natCast, h]
theorem objT_at {c : Tc} {i : Nat} {k : Kl} (h : c.K[i]? = some k) : objT (some c) (i : Int) = k.l := by unfold objT; rw [atK_at h]
theorem limT_at {c : Tc} {i : Nat} {k : Kl} (h : c.K[i]? = some k) : limT (some c) (i : Int) = k.lim := by unfold limT; rw [atK_at h]
theorem lowT_at {c : Tc} {i : Nat} {k : Kl} (h : c.K[i]? = some k) : lowT (some c) (i : Int) = k.lo := by unfold lowT; rw [atK_at h]
theorem InR.nat {i : Nat} (h : i ≤ 9223372036854775807) : InR (i : Int) := ⟨by omega, by omega⟩
/-- The class of a list. -/
theorem kin_cls {t : List Cs} {g : Int} {c : Tc} (h : okT t = true ∧ okB g = true ∧ Kin ⟨g.toNat, t.map clsK⟩ c) {i : Nat} {q : Cs} (hq : t[i]? = some q) : ∃ k, c.K[i]? = some k ∧ (k.s : Int) = q.s ∧ (k.b : Int) = q.b := by
  have hc := okT_at h.1 hq
  obtain ⟨k, h1, h2, h3⟩ := h.2.2.k i (clsK q) (by show (t.map clsK)[i]? = _; rw [List.getElem?_map, hq]; rfl)
  obtain ⟨s, p, b⟩ := q
  have hb := okC_bd hc
  refine ⟨k, h1, ?_, ?_⟩
  · rw [h2]; show ((s.toNat : Nat) : Int) = s; omega
  · rw [h3]; show ((b.toNat : Nat) : Int) = b; omega
theorem kin_g {t : List Cs} {g : Int} {c : Tc} (h : okT t = true ∧ okB g = true ∧ Kin ⟨g.toNat, t.map clsK⟩ c) : (c.g : Int) = g := by
  have h2 := h.2.2.g
  have h1 := h.2.1
  unfold okB at h1
  rw [decide_eq_true_eq] at h1
  rw [h2]
  show ((g.toNat : Nat) : Int) = g
  omega
theorem two_wraps {a b : Nat} (h : a ≤ 5242880) (h2 : b ≤ 131072) : Value.int .i64 (wrap64 ((a : Int) + wrap64 (b : Int))) = .int .i64 ((a + b : Nat) : Int) := by
  refine congrArg (Value.int .i64) ?_; unfold wrap64; omega
theorem roB {f : FuncId} {args : Array Value} {w : World} {v : Value} (h : Calls Try.prog f args w fun e w' => e = .returned v ∧ w = w') : Calls Try.prog f args w fun e w' => e = .returned v ∧ Below w.heap.size w w' := h.mono fun _ _ ⟨he, hw⟩ => ⟨he, hw ▸ Below.refl _ _⟩
def bytK (K : List Kl) : Nat := (K.map byK).sum
theorem bytK_take {K : List Kl} {i : Nat} {k : Kl} (h : K[i]? = some k) : bytK (K.take (i + 1)) = bytK (K.take i) + k.l.length * k.s := by
  unfold bytK
  rw [List.take_add_one, h]; simp [byK]
theorem bytK_le {K : List Kl} (h : ∀ k ∈ K, KWf k) (hn : K.length ≤ 40) (i : Nat) : bytK (K.take i) ≤ 5242880 := by
  have h1 := sum_le ((K.take i).map byK) 131072 (fun x hx => by
    obtain ⟨k, hk, rfl⟩ := List.mem_map.1 hx
    exact byK_le (h k (List.mem_of_mem_take hk)))
  rw [List.length_map, List.length_take] at h1
  have : min i K.length * 131072 ≤ 40 * 131072 := Nat.mul_le_mul_right _ (by omega)
  unfold bytK
  omega
theorem mul_bd {a b : Nat} (ha : a ≤ 256) (hb : b ≤ 512) : a * b ≤ 131072 := Nat.le_trans (Nat.mul_le_mul ha hb) (by decide)

set_option maxRecDepth 100000 in
set_option maxHeartbeats 8000000 in
theorem bytes_walk (A0 : Option Addr) (c0 : Nat) (t : List Cs) (g : Int) (A : Option Addr) (cp : Nat) (l : List Ak) (w : World) (ht : t.length ≤ 9223372036854775807) (hT : TabAt w w.heap.size A0 t) (hl : l.length ≤ 9223372036854775807) (hA : ActsAt w w.heap.size A l) :
    Calls Try.prog 10 #[.slice A0 t.length c0, .int .i64 g, .slice A l.length cp] w (Yes w) := by
  have HAL := Lib.hid alive_any
  have HT := Lib.hid hT
  have HG := Lib.hid (great_any A cp l w hl hA)
  by_cases hg : grB l = true
  · rw [hg] at HG
    generalize t.length = tn at *
    generalize l.length = ln at *
    clear hT hA hg
    go_enter Try.func10, Try.ntmps10
    go_wp2_with fail
    refine HG.out.mono ?_
    rintro e _ ⟨rfl, rfl⟩
    go_wp2_with fail
    refine (HAL.out _).mono ?_
    rintro e w2 ⟨rfl, hb⟩
    have HF := Lib.hid hb
    clear hb
    go_wp2_with fail
    go_ret
    exact ⟨rfl, HF.out⟩
  have hg' : grB l = false := by simpa using hg
  rw [hg'] at HG
  have HM := Lib.hid (made_law A0 c0 t g A cp l w ht hT (grB_no hg').1 (Nat.le_refl _) hA)
  cases hm : madeO t g l with
  | none =>
    rw [hm] at HM
    generalize t.length = tn at *
    generalize l.length = ln at *
    clear hT hA hg hg' hm
    go_enter Try.func10, Try.ntmps10
    go_wp2_with fail
    refine HG.out.mono ?_
    rintro e _ ⟨rfl, rfl⟩
    go_wp2_with fail
    refine HM.out.mono ?_
    intro e w1 hp
    obtain ⟨rfl, hb1⟩ := hp.no
    have HB1 := Lib.hid hb1
    clear hp hb1
    go_wp2_with fail
    refine (HAL.out _).mono ?_
    rintro e w2 ⟨rfl, hb⟩
    have HF := Lib.hid (btr HB1.out hb (Nat.le_refl _))
    clear hb
    go_wp2_with fail
    go_ret
    exact ⟨rfl, HF.out⟩
  | some c =>
    rw [hm] at HM
    have HKN := Lib.hid (made_kin hm)
    have HLN := Lib.hid HKN.out.2.2.len
    have ht40 := okT_len HKN.out.1
    obtain ⟨tn, htn⟩ : ∃ tn, t.length = tn := ⟨_, rfl⟩
    rw [htn] at HM HLN ht ht40 ⊢
    obtain ⟨ln, hln⟩ : ∃ ln, l.length = ln := ⟨_, rfl⟩
    rw [hln] at HG HM hl ⊢
    have HTN := Lib.hid htn
    clear hT hA hg hg' hm htn hln
    go_enter Try.func10, Try.ntmps10
    go_wp2_with fail
    refine HG.out.mono ?_
    rintro e _ ⟨rfl, rfl⟩
    go_wp2_with fail
    refine HM.out.mono ?_
    intro e w1 hp
    obtain ⟨B, O, rfl, ho⟩ := hp.yes
    have HO := Lib.hid ho
    have HWF := Lib.hid ho.ob.wf
    clear hp ho HM HG
    go_wp2_with fail
    have HGG := Lib.hid (kin_g HKN.out)
    have HTL := Lib.hid (fun i => bytK_le HWF.out.k HWF.out.n40 i)
    have HB1 := Lib.hid HO.out.bel
    go_loopw [8, 9] (fun v i wr => ∃ k : Nat, k ≤ tn ∧ i = .int .i64 k ∧ v = .int .i64 (bytK (c.K.take k) : Nat) ∧ Below w1.heap.size w1 wr) (fun _ i _ => tn - (intOf i).toNat)
    case atStart => exact ⟨0, by omega, rfl, rfl, Below.refl _ _⟩
    case round =>
      obtain ⟨k, hk, rfl, rfl, hB⟩ := hrel
      have HOW := Lib.hid (HO.out.below hB)
      have HB2 := Lib.hid hB
      have hBS := hB.size
      by_cases hlt : k < tn
      · obtain ⟨q, hq⟩ : ∃ q, t[k]? = some q := ⟨_, List.getElem?_eq_getElem (by rw [HTN.out]; exact hlt)⟩
        obtain ⟨kl, hkl, hks, _⟩ := kin_cls HKN.out hq
        have HE := Lib.hid (bytK_take hkl)
        have hb1 := HTL.out k
        have hkw := HWF.out.k kl (List.mem_of_getElem? hkl)
        have hb2 := hkw.len
        have hb3 := hkw.s512
        have hb4 := mul_bd hb2 hb3
        have HCO := Lib.hid (cObjects_any HOW.out.ob (InR.nat (show k ≤ 9223372036854775807 by omega)))
        have HCL := Lib.hid (fun (w' : World) (h : Below wr.heap.size wr w') => cLen_any (HOW.out.below h).ob (InR.nat (show k ≤ 9223372036854775807 by omega)))
        have HTA := Lib.hid (HT.out.below HOW.out.bel)
        rw [objT_at hkl] at HCO
        simp only [lenT_at hkl] at HCL
        obtain ⟨b0, o0, rfl, hbb, s1, _, _⟩ := HTA.out k q hq
        have HS1 := Lib.hid s1
        rw [← hks] at HS1
        unfold ObjP at HCO
        generalize kl.s = ks at *
        generalize kl.l.length = ll at *
        obtain ⟨tt, htt⟩ : ∃ tt, bytK (c.K.take k) = tt := ⟨_, rfl⟩
        rw [htt] at HE hb1 ⊢
        obtain ⟨pp, hpp⟩ : ∃ pp, ll * ks = pp := ⟨_, rfl⟩
        have HPI := Lib.hid (show ((ll : Int) * (ks : Int)) = (pp : Int) from by rw [← hpp, Int.natCast_mul])
        rw [hpp] at HE hb4
        clear htt hkl hks hq hB s1 hkw hpp
        go_wp2_with fail
        refine HCO.out.mono ?_
        rintro e w2 ⟨A2, c2, rfl, _, hb⟩
        have HBB := Lib.hid (btr (show Below wr.heap.size wr wr from Below.refl _ _) hb (Nat.le_refl _))
        clear hb
        go_wp2_with fail
        refine (HCL.out _ HBB.out).mono ?_
        rintro e _ ⟨rfl, rfl⟩
        have G1 := CW.cell (N := wr.heap.size) (a := ⟨b0, _, none⟩) (Nat.lt_of_lt_of_le hbb HOW.out.bel.size) ((HBB.out.cell (p := ⟨b0, _, none⟩) (Nat.lt_of_lt_of_le hbb HOW.out.bel.size)).trans HS1.out)
        have HLX := Lib.hid (fun (nn : CW wr.heap.size w2) => roB (HCL.out nn.wd (HBB.out.trans nn.bel)))
        have hsz := HBB.out.size
        go_wp2_with fail
        refine region_below wr.heap.size (by kernel_rfl) (by kernel_rfl) ?_
        repeat (first | go_big_quiet_step ((go_at_call 28; exact quietB hsz (HLX.out _))) | quiet_step ((go_at_call 28; exact quietB hsz (HLX.out _))))
        refine wpQuiet_nil ?_
        rintro _ ⟨nq, rfl⟩
        have HQ := Lib.hid (HBB.out.trans nq.bel)
        generalize nq.wd = wq at *
        go_wp2_with fail
        go_roundw
        case rel => exact ⟨k + 1, by omega, by go_num, by rw [HE.out, HPI.out]; exact two_wraps hb1 hb4, btr HB2.out HQ.out (Nat.le_refl _)⟩
        case measure => simp [intOf]; omega
      · obtain rfl : k = tn := by omega
        have e : c.K.take k = c.K := List.take_of_length_le (by rw [HLN.out]; exact Nat.le_refl _)
        rw [e]
        have HC := Lib.hid (cBytes_any HOW.out.ob)
        have HV := Lib.hid (fun (w' : World) (h : Below wr.heap.size wr w') => cOver_any (HOW.out.below h).ob)
        have h0 := HTL.out k
        rw [e] at h0
        rw [show byT (some c) = bytK c.K from rfl] at HC
        simp only [show ovT (some c) = decide (c.g < bytK c.K) from rfl] at HV
        have hgg := HGG.out
        subst hgg
        generalize bytK c.K = tt at *
        clear hB e HTL
        by_cases hov : c.g < tt
        · simp only [decide_eq_true hov] at HV
          have d1 : decide ((c.g : Int) < (tt : Int)) = true := decide_eq_true (by omega)
          have d2 : decide (c.g < tt) = true := decide_eq_true hov
          clear hov
          go_wp2_with fail
          refine HC.out.mono ?_
          rintro e w2 ⟨rfl, hb⟩
          have HO2 := Lib.hid (btr (Below.refl wr.heap.size wr) hb (Nat.le_refl _))
          clear hb
          go_wp2_with fail
          refine (HV.out _ HO2.out).mono ?_
          rintro e w3 ⟨rfl, hb⟩
          have HO3 := Lib.hid (HOW.out.below (btr HO2.out hb (Nat.le_refl _)))
          clear hb
          go_wp2_with fail
          refine (HAL.out _).mono ?_
          rintro e w4 ⟨rfl, hb⟩
          have HF := Lib.hid (btr HO3.out.bel hb (Nat.le_refl _))
          clear hb
          go_wp2_with fail
          go_ret
          exact ⟨rfl, HF.out⟩
        · simp only [decide_eq_false hov] at HV
          have d1 : decide ((c.g : Int) < (tt : Int)) = false := decide_eq_false (by omega)
          have d2 : decide (c.g < tt) = false := decide_eq_false hov
          clear hov
          go_wp2_with fail
          refine HC.out.mono ?_
          rintro e w2 ⟨rfl, hb⟩
          have HO2 := Lib.hid (btr (Below.refl wr.heap.size wr) hb (Nat.le_refl _))
          clear hb
          go_wp2_with fail
          refine (HV.out _ HO2.out).mono ?_
          rintro e w3 ⟨rfl, hb⟩
          have HO3 := Lib.hid (HOW.out.below (btr HO2.out hb (Nat.le_refl _)))
          clear hb
          go_wp2_with fail
          refine (HAL.out _).mono ?_
          rintro e w4 ⟨rfl, hb⟩
          have HF := Lib.hid (btr HO3.out.bel hb (Nat.le_refl _))
          clear hb
          go_wp2_with fail
          go_ret
          exact ⟨rfl, HF.out⟩
end Go.Proofs.Yticcjelaenhigaa
