/- The statement: ten calls of Scavenge empty all lists. -/
import Derived.Test.YticcjelaenhigaaFd
namespace Go.Proofs.Yticcjelaenhigaa
open Go.RowKit Go.Lib

/-- All objects. -/
def totK (K : List Kl) : Nat := (K.map fun k => k.l.length).sum
theorem totK_take {K : List Kl} {i : Nat} {k : Kl} (h : K[i]? = some k) : totK (K.take (i + 1)) = totK (K.take i) + k.l.length := by
  unfold totK
  rw [List.take_add_one, h]; simp
theorem totK_le {K : List Kl} (h : ∀ k ∈ K, KWf k) (hn : K.length ≤ 40) (i : Nat) : totK (K.take i) ≤ 10240 := by
  have h1 := sum_le ((K.take i).map fun k => k.l.length) 256 (fun x hx => by
    obtain ⟨k, hk, rfl⟩ := List.mem_map.1 hx
    exact (h k (List.mem_of_mem_take hk)).len)
  rw [List.length_map, List.length_take] at h1
  have : min i K.length * 256 ≤ 40 * 256 := Nat.mul_le_mul_right _ (by omega)
  unfold totK
  omega
theorem flat_batQ (h : Nat → List Int) (Q : List Nat) : ((batQ h Q).flatMap (·.2)).length = (Q.map fun i => (h i).length).sum := by
  induction Q with
  | nil => rfl
  | cons a t ih =>
    rw [List.map_cons, List.sum_cons, ← ih]
    unfold batQ
    rw [List.filterMap_cons]
    by_cases e : h a = []
    · simp [e]
    · simp [e]
theorem flat_batV (f : Kl → List Int) (c : Tc) : ((batV f (some c)).flatMap (·.2)).length = (c.K.map fun k => (f k).length).sum := by
  show ((batQ (hK f c.K) (List.range c.K.length)).flatMap (·.2)).length = _
  rw [flat_batQ]
  congr 1
  refine List.ext_getElem (by simp) fun i h1 h2 => ?_
  simp at h1
  simp [hK, h1]
theorem tot_scav (K : List Kl) (h : ∀ k ∈ K, KWf k) : totK (K.map scavK) + (K.map fun k => (scavV k).length).sum = totK K := by
  induction K with
  | nil => rfl
  | cons a t ih =>
    have h1 := ih (fun k hk => h k (List.mem_cons_of_mem _ hk))
    have h2 := scavV_len (h a List.mem_cons_self)
    have h3 := scavN_le (h a List.mem_cons_self)
    have h4 : (scavK a).l.length = a.l.length - scavN a := List.length_drop
    unfold totK at h1 ⊢
    simp only [List.map_cons, List.sum_cons]
    rw [h2, h4]
    omega
/-- After so many calls. -/
def IdS (j : Nat) (c : Tc) : Prop := ∀ k ∈ c.K, j = 0 ∨ (k.lo = k.l.length ∧ k.l.length * 2 ^ (j - 1) ≤ 256)
theorem IdS.next {j : Nat} {c : Tc} (h : IdS j c) (hw : TWf c) : IdS (j + 1) { c with K := c.K.map scavK } := fun k hk => by
  obtain ⟨k0, hk0, rfl⟩ := List.mem_map.1 hk
  right
  have h4 : (scavK k0).l.length = k0.l.length - scavN k0 := List.length_drop
  have h5 : (scavK k0).lo = k0.l.length - scavN k0 := rfl
  rw [h4, h5]
  refine ⟨rfl, ?_⟩
  have hl := (hw.k k0 hk0).len
  rcases h k0 hk0 with h1 | ⟨h1, h2⟩
  · subst h1
    simp
    omega
  · have h6 : k0.l.length - scavN k0 = k0.l.length / 2 := by unfold scavN; omega
    rw [h6, Nat.add_sub_cancel]
    cases j with
    | zero =>
      simp at h2 ⊢
      omega
    | succ j =>
      rw [Nat.add_sub_cancel] at h2
      rw [Nat.pow_succ, ← Nat.mul_assoc]
      have : k0.l.length / 2 * 2 ≤ k0.l.length := Nat.div_mul_le_self _ _
      have h7 : k0.l.length / 2 * 2 * 2 ^ j ≤ k0.l.length * 2 ^ j := Nat.mul_le_mul_right _ this
      have h8 : k0.l.length / 2 * 2 ^ j * 2 = k0.l.length / 2 * 2 * 2 ^ j := by rw [Nat.mul_assoc, Nat.mul_assoc, Nat.mul_comm (2 ^ j) 2]
      omega
theorem IdS.end {c : Tc} (h : IdS 10 c) : ∀ k ∈ c.K, k.l.length = 0 := fun k hk => by
  rcases h k hk with h1 | ⟨_, h2⟩
  · omega
  · have : (2 : Nat) ^ (10 - 1) = 512 := by decide
    rw [this] at h2
    omega
theorem sum_zero : ∀ (l : List Nat), (∀ x ∈ l, x = 0) → l.sum = 0
  | [], _ => rfl
  | x :: t, h => by
    rw [List.sum_cons, h x List.mem_cons_self, sum_zero t (fun y hy => h y (List.mem_cons_of_mem _ hy))]
theorem idle_end {c : Tc} (h : IdS 10 c) : totK c.K = 0 ∧ byT (some c) = 0 ∧ ovT (some c) = false := by
  have h1 := h.end
  have h2 : byT (some c) = 0 := sum_zero _ fun x hx => by
    obtain ⟨k, hk, rfl⟩ := List.mem_map.1 hx
    unfold byK; rw [h1 k hk, Nat.zero_mul]
  refine ⟨sum_zero _ fun x hx => ?_, h2, ?_⟩
  · obtain ⟨k, hk, rfl⟩ := List.mem_map.1 hx
    exact h1 k hk
  · show decide (c.g < byT (some c)) = false
    rw [h2]; simp
theorem lenT_at {c : Tc} {i : Nat} {k : Kl} (h : c.K[i]? = some k) : lenT (some c) (i : Int) = k.l.length := by unfold lenT atK; dsimp only; rw [if_pos (Int.natCast_nonneg i), Int.toNat_natCast, h]
/-- What the statements have after their calls of made. -/
theorem made_kin {t : List Cs} {g : Int} {l : List Ak} {c : Tc} (h : madeO t g l = some c) : okT t = true ∧ okB g = true ∧ Kin ⟨g.toNat, t.map clsK⟩ c := by
  unfold madeO at h
  by_cases hok : okT t = true ∧ okB g = true
  · rw [show newT t g = some ⟨g.toNat, t.map clsK⟩ from if_pos hok] at h
    obtain ⟨c', h1, h2⟩ := runO_some l ⟨g.toNat, t.map clsK⟩
    rw [h1] at h
    injection h with h
    subst h
    exact ⟨hok.1, hok.2, h2⟩
  · rw [newT_none hok, runO_none] at h
    cases h
theorem Kin.len {t : List Cs} {g : Nat} {c : Tc} (h : Kin ⟨g, t.map clsK⟩ c) : c.K.length = t.length := h.n.trans (List.length_map _)

set_option maxRecDepth 100000 in
set_option maxHeartbeats 8000000 in
theorem idle_walk (A0 : Option Addr) (c0 : Nat) (t : List Cs) (g : Int) (A : Option Addr) (cp : Nat) (l : List Ak) (w : World) (ht : t.length ≤ 9223372036854775807) (hT : TabAt w w.heap.size A0 t) (hl : l.length ≤ 9223372036854775807) (hA : ActsAt w w.heap.size A l) :
    Calls Try.prog 9 #[.slice A0 t.length c0, .int .i64 g, .slice A l.length cp] w (Yes w) := by
  have HAL := Lib.hid alive_any
  have HG := Lib.hid (great_any A cp l w hl hA)
  by_cases hg : grB l = true
  · rw [hg] at HG
    generalize t.length = tn at *
    generalize l.length = ln at *
    clear hT hA hg
    go_enter Try.func9, Try.ntmps9
    go_wp2_with fail
    refine HG.out.mono ?_
    rintro e _ ⟨rfl, rfl⟩
    go_wp2_with fail
    refine (HAL.out _).mono ?_
    rintro e w2 ⟨rfl, hb⟩
    have HF := Lib.hid hb
    clear hb
    go_wp2_with fail
    go_ret
    exact ⟨rfl, HF.out⟩
  · have hg' : grB l = false := by simpa using hg
    rw [hg'] at HG
    have HM := Lib.hid (made_law A0 c0 t g A cp l w ht hT (grB_no hg').1 (Nat.le_refl _) hA)
    cases hm : madeO t g l with
    | none =>
      rw [hm] at HM
      generalize t.length = tn at *
      generalize l.length = ln at *
      clear hT hA hg hg' hm
      go_enter Try.func9, Try.ntmps9
      go_wp2_with fail
      refine HG.out.mono ?_
      rintro e _ ⟨rfl, rfl⟩
      go_wp2_with fail
      refine HM.out.mono ?_
      intro e w1 hp
      obtain ⟨rfl, hb1⟩ := hp.no
      have HB1 := Lib.hid hb1
      clear hp hb1
      go_wp2_with fail
      refine (HAL.out _).mono ?_
      rintro e w2 ⟨rfl, hb⟩
      have HF := Lib.hid (btr HB1.out hb (Nat.le_refl _))
      clear hb
      go_wp2_with fail
      go_ret
      exact ⟨rfl, HF.out⟩
    | some c =>
      rw [hm] at HM
      have hkin := (made_kin hm).2.2
      have HLN := Lib.hid hkin.len
      have ht40 := okT_len (made_kin hm).1
      generalize t.length = tn at *
      generalize l.length = ln at *
      clear hT hA hg hg' hm hkin
      go_enter Try.func9, Try.ntmps9
      go_wp2_with fail
      refine HG.out.mono ?_
      rintro e _ ⟨rfl, rfl⟩
      go_wp2_with fail
      refine HM.out.mono ?_
      intro e w1 hp
      obtain ⟨B, O, rfl, ho⟩ := hp.yes
      have HO := Lib.hid ho
      clear hp ho HM
      go_wp2_with fail
      have HWF := Lib.hid HO.out.ob.wf
      have HTL := Lib.hid (fun i => totK_le HWF.out.k HWF.out.n40 i)
      go_loopw [8, 9] (fun v i wr => ∃ k : Nat, k ≤ tn ∧ i = .int .i64 k ∧ v = .int .i64 (totK (c.K.take k) : Nat) ∧ w1 = wr) (fun _ i _ => tn - (intOf i).toNat)
      case atStart => exact ⟨0, by omega, rfl, rfl, rfl⟩
      case round =>
        obtain ⟨k, hk, rfl, rfl, rfl⟩ := hrel
        by_cases hlt : k < tn
        · obtain ⟨kl, hkl⟩ : ∃ kl, c.K[k]? = some kl := ⟨_, List.getElem?_eq_getElem (by rw [HLN.out]; exact hlt)⟩
          have HC := Lib.hid (cLen_any HO.out.ob (x := (k : Int)) ⟨by omega, by omega⟩)
          rw [lenT_at hkl] at HC
          have HE := Lib.hid (totK_take hkl)
          have hb1 := HTL.out k
          have hb2 := (HWF.out.k kl (List.mem_of_getElem? hkl)).len
          clear hkl
          generalize kl.l.length = ll at *
          obtain ⟨tt, htt⟩ : ∃ tt, totK (c.K.take k) = tt := ⟨_, rfl⟩
          rw [htt] at HE hb1 ⊢
          clear htt
          go_wp2_with fail
          refine HC.out.mono ?_
          rintro e _ ⟨rfl, rfl⟩
          go_wp2_with fail
          go_roundw
          case rel => exact ⟨k + 1, by omega, by go_num, by rw [HE.out]; go_num, trivial⟩
          case measure => simp [intOf]; omega
        · obtain rfl : k = tn := by omega
          have e : c.K.take k = c.K := List.take_of_length_le (by rw [HLN.out]; exact Nat.le_refl _)
          rw [e]
          have HI := Lib.hid (show IdS 0 c from fun k hk => .inl rfl)
          have h0 := HTL.out k
          rw [e] at h0
          clear e HTL
          obtain ⟨tt, htt⟩ : ∃ tt, totK c.K = tt := ⟨_, rfl⟩
          have HTT := Lib.hid htt
          rw [htt] at h0 ⊢
          clear htt
          go_wp2_with fail
          go_loopw [8, 10] (fun v i wr => ∃ (j : Nat) (cc : Tc) (O : Nat → Prop), j ≤ 10 ∧ i = .int .i64 j ∧ v = .int .i64 (totK cc.K : Nat) ∧ IdS j cc ∧ totK cc.K ≤ 10240 ∧ Own false w wr (.pointer (some ⟨B, 0, none⟩)) (some cc) O) (fun _ i _ => 10 - (intOf i).toNat)
          case atStart => exact ⟨0, c, O, by omega, rfl, by rw [HTT.out], HI.out, by rw [HTT.out]; exact h0, HO.out⟩
          case round =>
            clear HI HO HTT HWF h0
            obtain ⟨j, cc, O2, hj, rfl, rfl, hI, h10, hO⟩ := hrel
            have HO := Lib.hid hO
            have HI := Lib.hid hI
            by_cases hlt : j < 10
            · have HC := Lib.hid (cScavenge_any hO.ob)
              unfold RmsP at HC
              have HL := Lib.hid (batV_le hO.ob scavV_le)
              have HN := Lib.hid (hI.next hO.ob.wf)
              have HT := Lib.hid (show totK (cc.K.map scavK) + ((batV scavV (some cc)).flatMap (·.2)).length = totK cc.K from by rw [flat_batV]; exact tot_scav _ hO.ob.wf.k)
              obtain ⟨lf, hlf⟩ : ∃ lf, (batV scavV (some cc)).flatMap (·.2) = lf := ⟨_, rfl⟩
              rw [hlf] at HT
              have HA := Lib.hid (fun (P : Nat → Prop) (A1 : Option Addr) (c1 : Nat) (w1 : World) (hb : BAt P w1 A1 (batV scavV (some cc))) => show Calls Try.prog 32 #[.slice A1 (batV scavV (some cc)).length c1] w1 (ObjP w1 lf) from by
                have h := wall_any A1 c1 (batV scavV (some cc)) w1 HL.out.1 HL.out.2 hb
                rw [hlf] at h
                exact h)
              clear hlf HL hI hO
              generalize batV scavV (some cc) = lb at *
              obtain ⟨t0, ht0⟩ : ∃ t0, totK cc.K = t0 := ⟨_, rfl⟩
              rw [ht0] at HT h10 ⊢
              have ht := HT.out
              clear ht0
              go_wp2_with fail
              refine HC.out.mono ?_
              rintro e w2 ⟨A1, c9, rfl, O', m1, m2, m3, m4⟩
              have HM := Lib.hid (HO.out.turn m1 m2 m3)
              have HM4 := Lib.hid m4
              clear m1 m2 m3 m4
              go_wp2_with fail
              refine (HA.out _ _ _ _ HM4.out).mono ?_
              rintro e w3 ⟨A2, c8, rfl, m5, m6⟩
              have HM2 := Lib.hid (HM.out.below m6)
              clear m5 m6
              generalize lf.length = lz at *
              go_wp2_with fail
              go_roundw
              case rel => exact ⟨j + 1, _, O', by omega, by go_num, by rw [show totK (cc.K.map scavK) = t0 - lz from by omega]; go_num, HN.out, by show totK (cc.K.map scavK) ≤ _; omega, HM2.out⟩
              case measure => simp [intOf]; omega
            · obtain rfl : j = 10 := by omega
              obtain ⟨h1, h2, h3⟩ := idle_end hI
              have HC := Lib.hid (cBytes_any hO.ob)
              have HV := Lib.hid (fun (w' : World) (h : Own false w w' (.pointer (some ⟨B, 0, none⟩)) (some cc) O2) => cOver_any h.ob)
              rw [h2] at HC
              rw [h3] at HV
              rw [h1]
              clear hO hI h1 h2 h3 h10
              go_wp2_with fail
              refine HC.out.mono ?_
              rintro e w2 ⟨rfl, hb⟩
              have HO2 := Lib.hid (HO.out.below hb)
              clear hb
              go_wp2_with fail
              refine (HV.out _ HO2.out).mono ?_
              rintro e w3 ⟨rfl, hb⟩
              have HO3 := Lib.hid (HO2.out.below hb)
              clear hb
              go_wp2_with fail
              refine (HAL.out _).mono ?_
              rintro e w4 ⟨rfl, hb⟩
              have HF := Lib.hid (btr HO3.out.bel hb (Nat.le_refl _))
              clear hb
              go_wp2_with fail
              go_ret
              exact ⟨rfl, HF.out⟩
end Go.Proofs.Yticcjelaenhigaa
