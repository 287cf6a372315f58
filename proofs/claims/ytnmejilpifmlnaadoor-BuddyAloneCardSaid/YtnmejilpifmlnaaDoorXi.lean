/- The statement that only what is free counts: what its call returns. -/
import Derived.Test.YtnmejilpifmlnaaDoorXa
namespace Go.Proofs.YtnmejilpifmlnaaDoor
open Go.RowKit

theorem givD_n (m : Mo) (s k : Int) : (givD m s k).n = m.n := by unfold givD; split <;> rfl
theorem trD_n (m : Mo) (s k : Int) : (trD m s k).n = m.n := by unfold trD; split <;> rfl
theorem tkD_n (m : Mo) (s k : Int) : (tkD m s k).n = m.n := by
  unfold tkD
  split
  · split <;> rfl
  · rfl
theorem doM_n (m : Mo) (x : Ac) : (doM m x).n = m.n := by
  unfold doM
  repeat' split
  all_goals first | exact givD_n _ _ _ | exact tkD_n _ _ _ | exact trD_n _ _ _ | rfl
theorem runM_n (m : Mo) (l : List Ac) : (runM m l).n = m.n := by
  induction l generalizing m with
  | nil => rfl
  | cons x l ih => exact (ih (doM m x)).trans (doM_n m x)

/-- How far from the first page the i-th one lies. -/
def off (n i : Nat) : Nat := if i % 2 = 1 then n - 1 - i / 2 else i / 2
theorem off_lt {n i : Nat} (h : i < n) : off n i < n := by unfold off; split <;> omega
theorem off_inj {n i j : Nat} (hi : i < n) (hj : j < n) (h : off n i = off n j) : i = j := by
  unfold off at h
  split at h <;> split at h <;> omega
theorem off_ex {n d : Nat} (h : d < n) : ∃ j, j < n ∧ off n j = d := by
  by_cases h2 : 2 * d < n
  · refine ⟨2 * d, h2, ?_⟩
    unfold off
    rw [if_neg (by omega)]
    omega
  · refine ⟨2 * (n - 1 - d) + 1, by omega, ?_⟩
    unfold off
    rw [if_pos (by omega)]
    omega
theorem mod_two {x n : Nat} (h : x < 2 * n) : x % n = if x < n then x else x - n := by
  split
  · rename_i h1; exact Nat.mod_eq_of_lt h1
  · rename_i h1
    rw [Nat.mod_eq_sub_mod (by omega)]
    exact Nat.mod_eq_of_lt (by omega)
/-- The i-th page. -/
def pg (n f i : Nat) : Nat := (f + off n i) % n
theorem pg_lt {n f i : Nat} (h : i < n) : pg n f i < n := Nat.mod_lt _ (by omega)
theorem pg_inj {n f i j : Nat} (hf : f < n) (hi : i < n) (hj : j < n) (h : pg n f i = pg n f j) : i = j := by
  unfold pg at h
  have h1 := off_lt hi
  have h2 := off_lt hj
  rw [mod_two (by omega), mod_two (by omega)] at h
  refine off_inj hi hj ?_
  split at h <;> split at h <;> omega
theorem pg_ex {n f p : Nat} (hf : f < n) (hp : p < n) : ∃ j, j < n ∧ pg n f j = p := by
  obtain ⟨j, hj, he⟩ := off_ex (n := n) (d := if f ≤ p then p - f else p + n - f) (by split <;> omega)
  refine ⟨j, hj, ?_⟩
  unfold pg
  rw [he]
  rw [mod_two (by split <;> omega)]
  split <;> split <;> omega
def vis (n f : Nat) : Nat → Nat → Bool
  | 0, _ => false
  | i + 1, p => vis n f i p || decide (pg n f i = p)
theorem vis_iff {n f : Nat} : ∀ {i p : Nat}, vis n f i p = true ↔ ∃ j, j < i ∧ pg n f j = p
  | 0, p => by simp [vis]
  | i + 1, p => by
    unfold vis
    rw [Bool.or_eq_true, vis_iff, decide_eq_true_eq]
    constructor
    · rintro (⟨j, h1, h2⟩ | h)
      · exact ⟨j, by omega, h2⟩
      · exact ⟨i, by omega, h⟩
    · rintro ⟨j, h1, h2⟩
      by_cases e : j = i
      · subst e; exact .inr h2
      · exact .inl ⟨j, by omega, h2⟩
/-- The pages that are free behind i rounds. -/
def gF (F : Nat → Bool) (n f i : Nat) : Nat → Bool := fun p => F p && vis n f i p
theorem gF_zero (F : Nat → Bool) (n f : Nat) : gF F n f 0 = fun _ => false := by
  funext p
  unfold gF vis
  exact Bool.and_false _
theorem gF_no {F : Nat → Bool} {n f i : Nat} (h : F (pg n f i) = false) : gF F n f (i + 1) = gF F n f i := by
  funext p
  unfold gF
  rw [show vis n f (i + 1) p = (vis n f i p || decide (pg n f i = p)) from rfl]
  by_cases e : pg n f i = p
  · subst e; rw [h]; rfl
  · rw [decide_eq_false e, Bool.or_false]
theorem gF_yes {F : Nat → Bool} {n f i : Nat} (h : F (pg n f i) = true) : gF F n f (i + 1) = setF (gF F n f i) (pg n f i) (pg n f i + 1) true := by
  funext p
  by_cases e : pg n f i = p
  · rw [setF_in (by omega) (by omega)]
    unfold gF
    rw [show vis n f (i + 1) p = (vis n f i p || decide (pg n f i = p)) from rfl, decide_eq_true e, ← e, h]
    simp
  · rw [setF_out (by omega)]
    unfold gF
    rw [show vis n f (i + 1) p = (vis n f i p || decide (pg n f i = p)) from rfl, decide_eq_false e, Bool.or_false]
theorem gF_new {F : Nat → Bool} {n f i : Nat} (hf : f < n) (hi : i < n) : gF F n f i (pg n f i) = false := by
  unfold gF
  rw [Bool.and_eq_false_iff]
  refine .inr ?_
  cases hv : vis n f i (pg n f i)
  · rfl
  · obtain ⟨j, h1, h2⟩ := vis_iff.1 hv
    have := pg_inj hf (by omega) hi h2
    omega
theorem gF_all {F : Nat → Bool} {n f : Nat} (hF : ∀ p, F p = true → p < n) (hf : f < n) : gF F n f n = F := by
  funext p
  unfold gF
  cases hp : F p
  · rfl
  · rw [vis_iff.2 (pg_ex hf (hF p hp))]; rfl
theorem giv_one {n p : Nat} {G : Nat → Bool} (hp : p < n) (hg : G p = false) : givE ⟨n, G⟩ p 1 = 0 ∧ givD ⟨n, G⟩ p 1 = ⟨n, setF G p (p + 1) true⟩ := by
  have hE : givE ⟨n, G⟩ p 1 = 0 := by
    unfold givE
    rw [if_pos (show inM ⟨n, G⟩ p 1 = true from decide_eq_true (by dsimp only; omega)), if_pos]
    refine decide_eq_true fun j hj => ?_
    have : j = 0 := by simp at hj; omega
    subst this
    simpa using hg
  refine ⟨hE, ?_⟩
  unfold givD
  rw [if_pos hE]
  simp

theorem frV_nat (m : Mo) (p : Nat) : frV m (p : Int) = m.F p := by
  unfold frV
  cases h : m.F p <;> simp [h]
theorem pg_even {n f i : Nat} (h : i % 2 = 0) : ((f : Int) + (i : Int) / 2) % (n : Int) = (pg n f i : Int) := by
  unfold pg off
  rw [if_neg (by omega), Int.natCast_emod]
  congr 1
theorem pg_odd {n f i : Nat} (hi : i < n) (h : i % 2 = 1) : ((f : Int) + (n : Int) - 1 - (i : Int) / 2) % (n : Int) = (pg n f i : Int) := by
  unfold pg off
  rw [if_pos h, Int.natCast_emod]
  congr 1
  omega

set_option maxRecDepth 100000 in
set_option maxHeartbeats 1000000 in
theorem alone_walk (p : Int) (A : Option Addr) (c : Nat) (l : List Ac) (r : Int) (w : World) (ht : Tab w) (hp0 : 0 ≤ p) (hp1 : p ≤ 65535) (hl : l.length ≤ 9223372036854775807) (hA : ActsAt w w.heap.size A l) (hr0 : 0 ≤ r) (hr1 : r ≤ 65535) :
    Calls Tryd.prog 8 #[.int .u16 p, .slice A l.length c, .int .u16 r] w (Yes w) := by
  have HAL := Lib.hid (Alive w ht)
  obtain ⟨n, hn⟩ : ∃ n : Nat, p % 1024 + 1 = n := ⟨(p % 1024 + 1).toNat, by omega⟩
  have HMD := Lib.hid (Made p A c n l w hn hp0 hp1 hl hA ht)
  have HM0 := Lib.hid (Made p none 0 n [] w hn hp0 hp1 (by simp) (ActsAt.nil _ _) ht)
  have HW1 := Lib.hid ht.lt
  have hn1 : 1 ≤ n := by omega
  have hn2 : n ≤ 1024 := by omega
  obtain ⟨f, hf⟩ : ∃ f : Nat, r % n = f := ⟨(r % n).toNat, by have := Int.emod_nonneg r (show (n : Int) ≠ 0 by omega); omega⟩
  have hfn : f < n := by have := Int.emod_lt_of_pos r (show (0 : Int) < n by omega); omega
  have t1 : p.tmod 1024 = p % 1024 := Int.tmod_eq_emod_of_nonneg hp0
  have t2 : IntKind.i64.wrap (p % 1024) = p % 1024 := IntWalk.i64_in _ (by omega)
  have t3 : IntKind.i64.wrap (p % 1024 + 1) = (n : Int) := by rw [hn]; exact IntWalk.i64_in _ (by omega)
  have t4 : IntKind.i64.wrap p = p := IntWalk.i64_in _ (by omega)
  have r1 : r.tmod (n : Int) = f := by rw [Int.tmod_eq_emod_of_nonneg hr0, hf]
  have r2 : IntKind.i64.wrap r = r := IntWalk.i64_in _ (by omega)
  have r3 : IntKind.i64.wrap (f : Int) = f := IntWalk.i64_in _ (by omega)
  have hne : ¬ n = 0 := by omega
  obtain ⟨L, hL⟩ : ∃ L, L = l.length := ⟨_, rfl⟩
  rw [← hL] at hl HMD ⊢
  have HG := Lib.hid (fun w => great_any A L c w hl)
  have hb0 := Below.refl w.heap.size w
  have HR := Lib.hid (runM_n (newM n) l)
  clear hA hL hn ht hf
  by_cases h40 : 40 < L
  · rw [decide_eq_true h40] at HG
    go_enter Tryd.func8, Tryd.ntmps8
    go_wp2_with fail
    refine (HG.out _).mono ?_
    rintro e _ ⟨rfl, rfl⟩
    go_wp2_with fail
    refine (HAL.out _ hb0).mono ?_
    rintro e w1 ⟨rfl, hb1⟩
    go_wp2_with fail
    go_ret
    exact ⟨rfl, hb1⟩
  · rw [decide_eq_false h40] at HG
    clear h40
    go_enter Tryd.func8, Tryd.ntmps8
    go_wp2_with fail
    refine (HG.out _).mono ?_
    rintro e _ ⟨rfl, rfl⟩
    go_wp2_with fail
    refine (HMD.out _ hb0).mono ?_
    rintro e w1 ⟨B, rfl, hb1, hs1⟩
    go_wp2_with fail
    refine (HM0.out _ hb1).mono ?_
    rintro e w2 ⟨C, rfl, hb2, hs2⟩
    have HBW := Lib.hid (btr hb1 hb2 (Nat.le_refl _))
    have HZ := Lib.hid (And.intro hb1.size hb2.size)
    have HS1 := Lib.hid (hs1.below hb2)
    have HS2 := Lib.hid (show Hp w2 (Nw w1 w2) C (newM n) from hs2)
    have HMN := Lib.hid (show (runM (newM n) l).n = n from HR.out)
    generalize runM (newM n) l = m at HS1 HMN
    clear hb0 hb1 hb2 hs1 hs2
    go_wp2_with fail
    go_loopw [10] (fun i wr => ∃ k : Nat, k ≤ n ∧ i = .int .i64 k ∧ Mut w2 (Nw w1 w2) C ⟨n, gF m.F n f k⟩ wr) (fun i _ => n - (intOf i).toNat)
    case atStart => exact ⟨0, by omega, rfl, by rw [gF_zero]; exact Mut.same HS2.out (Below.refl _ _)⟩
    case round =>
      obtain ⟨k, hk, rfl, hM⟩ := hrel
      have HM := Lib.hid hM
      have HBR := Lib.hid (hM.bel HBW.out (fun k hk => by have := hk.1; have := HZ.out.1; omega))
      have HH := Lib.hid (HS1.out.keep hM.2 (fun k hk hk2 => by have := hk.2; have := hk2.1; omega) (fun hk => by have := hk.1; have := HW1.out; have := HZ.out.1; omega))
      clear hM
      by_cases hlt : k < n
      · have q1 : (k : Int).tdiv 2 = ((k / 2 : Nat) : Int) := by rw [Int.tdiv_eq_ediv_of_nonneg (by omega)]; omega
        have q2 : (k : Int).tmod 2 = ((k % 2 : Nat) : Int) := by rw [Int.tmod_eq_emod_of_nonneg (by omega)]; omega
        have HF := Lib.hid (IsFree_any (pg n f k : Int) HH.out ⟨by omega, by have := pg_lt (f := f) hlt; omega⟩)
        rw [frV_nat] at HF
        have hpl := pg_lt (f := f) hlt
        have HNEW := Lib.hid (gF_new (F := m.F) hfn hlt)
        have HYES := Lib.hid (gF_yes (F := m.F) (n := n) (f := f) (i := k))
        have HNO := Lib.hid (gF_no (F := m.F) (n := n) (f := f) (i := k))
        rcases Nat.mod_two_eq_zero_or_one k with hpar | hpar
        · rw [hpar] at q2
          have e1 := pg_even (n := n) (f := f) hpar
          cases hv : m.F (pg n f k)
          · rw [hv] at HF
            generalize hP : pg n f k = P at HF HNEW HYES HNO hpl hv e1
            go_wp2_with fail
            refine HF.out.mono ?_
            rintro e w3 ⟨rfl, hb3⟩
            go_wp2_with fail
            go_roundw
            case rel => exact ⟨k + 1, by omega, by go_num, by rw [HNO.out hv]; exact HM.out.then hb3⟩
            case measure => simp [intOf]; omega
          · rw [hv] at HF
            generalize hP : pg n f k = P at HF HNEW HYES HNO hpl hv e1
            go_wp2_with fail
            refine HF.out.mono ?_
            rintro e w3 ⟨rfl, hb3⟩
            have hgo := giv_one hpl HNEW.out
            go_wp2_with fail
            refine (Give_any (P : Int) 1 (HM.out.1.below hb3) ⟨by omega, by omega⟩).mono ?_
            rintro e w4 ⟨rfl, hM4⟩
            rw [hgo.2, ← HYES.out hv] at hM4
            have HM4 := Lib.hid hM4
            have HB3 := Lib.hid hb3
            rw [hgo.1]
            clear hM4 hb3 hgo
            go_wp2_with fail
            go_roundw
            case rel => exact ⟨k + 1, by omega, by go_num, (HM.out.then HB3.out).trans HM4.out⟩
            case measure => simp [intOf]; omega
        · rw [hpar] at q2
          have e1 := pg_odd (f := f) hlt hpar
          cases hv : m.F (pg n f k)
          · rw [hv] at HF
            generalize hP : pg n f k = P at HF HNEW HYES HNO hpl hv e1
            go_wp2_with fail
            refine HF.out.mono ?_
            rintro e w3 ⟨rfl, hb3⟩
            go_wp2_with fail
            go_roundw
            case rel => exact ⟨k + 1, by omega, by go_num, by rw [HNO.out hv]; exact HM.out.then hb3⟩
            case measure => simp [intOf]; omega
          · rw [hv] at HF
            generalize hP : pg n f k = P at HF HNEW HYES HNO hpl hv e1
            go_wp2_with fail
            refine HF.out.mono ?_
            rintro e w3 ⟨rfl, hb3⟩
            have hgo := giv_one hpl HNEW.out
            go_wp2_with fail
            refine (Give_any (P : Int) 1 (HM.out.1.below hb3) ⟨by omega, by omega⟩).mono ?_
            rintro e w4 ⟨rfl, hM4⟩
            rw [hgo.2, ← HYES.out hv] at hM4
            have HM4 := Lib.hid hM4
            have HB3 := Lib.hid hb3
            rw [hgo.1]
            clear hM4 hb3 hgo
            go_wp2_with fail
            go_roundw
            case rel => exact ⟨k + 1, by omega, by go_num, (HM.out.then HB3.out).trans HM4.out⟩
            case measure => simp [intOf]; omega
      · obtain rfl : k = n := by omega
        go_wp2_with fail
        have hs := HM.out.1
        rw [gF_all (fun p hp => by have := HH.out.wf.f p hp; have := HMN.out; omega) hfn] at hs
        have hm : (⟨k, m.F⟩ : Mo) = m := by
          cases m
          have := HMN.out
          dsimp only at this ⊢
          rw [this]
        rw [hm] at hs
        refine (alike_any hs HH.out).mono ?_
        rintro e w4 ⟨rfl, hb4⟩
        clear hs
        go_wp2_with fail
        refine (HAL.out _ (btr HBR.out hb4 (Nat.le_refl _))).mono ?_
        rintro e w5 ⟨rfl, hb5⟩
        go_wp2_with fail
        go_ret
        exact ⟨rfl, hb5⟩

end Go.Proofs.YtnmejilpifmlnaaDoor
