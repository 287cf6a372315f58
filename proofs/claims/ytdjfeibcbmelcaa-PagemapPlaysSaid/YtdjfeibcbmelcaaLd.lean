/- Package pagemap: put. -/
import Derived.Test.YtdjfeibcbmelcaaLc
namespace Go.Proofs.Ytdjfeibcbmelcaa
open Go.RowKit

theorem TrA.ti_put {w : World} {O : Nat → Prop} {B R : Nat} {cm0 cl0 cm cl : Nat → Option Nat} {T : Nat → Nat} {M0 M : Nat → Int} (_ : TrA w O B R cm cl T M) (ti : Ti cm0 cl0 M0) {t k : Nat} (hc : ∀ j, j ≠ t → cm j = cm0 j) (hl : ∀ j, j ≠ k → cl j = cl0 j) (hM : ∀ p, p / 8 ≠ k → M p = M0 p) (hk : k / 8 = t)
    (hlk : ∀ b, cl k = some b → ∃ n, n < 8 ∧ M (8 * k + n) ≠ 0) (hmt : ∀ b, cm t = some b → ∃ s, s < 8 ∧ cl (8 * t + s) ≠ none) : Ti cm cl M := by
  refine ⟨fun k' hk' b hb => ?_, fun t' ht' b hb => ?_⟩
  · by_cases e : k' = k
    · subst e; exact hlk b hb
    · rw [hl k' e] at hb
      obtain ⟨n, hn, h⟩ := ti.l k' hk' b hb
      exact ⟨n, hn, by rw [hM _ (by omega)]; exact h⟩
  · by_cases e : t' = t
    · subst e; exact hmt b hb
    · rw [hc t' e] at hb
      obtain ⟨s, hs, h⟩ := ti.m t' ht' b hb
      exact ⟨s, hs, by rw [hl _ (by omega)]; exact h⟩

theorem all_false {q : Nat → Bool} (h : (List.range 8).all q = false) : ∃ n, n < 8 ∧ q n = false := by
  rw [List.all_eq_false] at h
  obtain ⟨n, hn, h⟩ := h
  exact ⟨n, List.mem_range.1 hn, by simpa using h⟩

theorem Keep.setE {O : Nat → Prop} {w w' : World} {a : Addr} (h : Keep O w w') (hb : Ext O w w' a.block) (v : Value) : Keep O w (w'.setCell a v) := h.set (hb.imp id (fun h => h.1)) v
theorem ext_set {O : Nat → Prop} {w w' : World} (a : Addr) (v : Value) : Ext O w (w'.setCell a v) = Ext O w w' := by
  unfold Ext
  rw [World.size_setCell]
/-- A map that is being changed. -/
def Mid (w : World) (O : Nat → Prop) (B R : Nat) (cm cl : Nat → Option Nat) (T : Nat → Nat) (M : Nat → Int) (w' : World) : Prop := TrA w' (Ext O w w') B R cm cl T M ∧ Keep O w w'
section
variable {w w' : World} {O : Nat → Prop} {B R : Nat} {cm cl : Nat → Option Nat} {T : Nat → Nat} {M : Nat → Int}
theorem Mid.store (h : Mid w O B R cm cl T M w') {k n b0 : Nat} (hk : k < 128) (hn : n < 8) (hl : cl k = some b0) {v : Int} (hv : 0 ≤ v ∧ v ≤ 1073741824) : Mid w O B R cm cl T (setP M (8 * k + n) v) (w'.setCell ⟨b0, n, none⟩ (.int .i64 v)) :=
  ⟨by rw [ext_set]; exact h.1.store hk hn hl hv, h.2.setE (h.1.ol k hk b0 hl) _⟩
theorem Mid.dropL (h : Mid w O B R cm cl T M w') {t s b0 : Nat} (ht : t < 16) (hs : s < 8) (hm : cm t = some b0) (hz : ∀ n, n < 8 → M (8 * (8 * t + s) + n) = 0) : Mid w O B R cm (upd cl (8 * t + s) none) T M (w'.setCell ⟨b0, s, none⟩ (.pointer none)) :=
  ⟨by rw [ext_set]; exact h.1.dropL ht hs hm hz, h.2.setE (h.1.om t ht b0 hm) _⟩
theorem Mid.dropM (h : Mid w O B R cm cl T M w') {t : Nat} (hz : ∀ s, s < 8 → cl (8 * t + s) = none) : Mid w O B R (upd cm t none) cl T M (w'.setCell ⟨R, t, none⟩ (.pointer none)) :=
  ⟨by rw [ext_set]; exact h.1.dropM hz, h.2.setE h.1.or _⟩
theorem Mid.mut (h : Mid w O B R cm cl T M w') (ti : Ti cm cl M) : Mut w O B M w' := ⟨⟨R, cm, cl, T, h.1, ti⟩, h.2⟩
theorem Mid.leaf (h : Mid w O B R cm cl T M w') {k b : Nat} (hk : k < 128) (hl : cl k = some b) {F : Nat → Int} (hF : ∀ n, F n = M (8 * k + n)) :
    w'.cell? ⟨b, 0, none⟩ = some (.int .i64 (F 0)) ∧ w'.cell? ⟨b, 1, none⟩ = some (.int .i64 (F 1)) ∧ w'.cell? ⟨b, 2, none⟩ = some (.int .i64 (F 2)) ∧ w'.cell? ⟨b, 3, none⟩ = some (.int .i64 (F 3)) ∧
    w'.cell? ⟨b, 4, none⟩ = some (.int .i64 (F 4)) ∧ w'.cell? ⟨b, 5, none⟩ = some (.int .i64 (F 5)) ∧ w'.cell? ⟨b, 6, none⟩ = some (.int .i64 (F 6)) ∧ w'.cell? ⟨b, 7, none⟩ = some (.int .i64 (F 7)) := by
  have hc := fun n hn => (h.1.l k hk b hl).cell n hn
  simp only [hF]
  exact ⟨hc 0 (by omega), hc 1 (by omega), hc 2 (by omega), hc 3 (by omega), hc 4 (by omega), hc 5 (by omega), hc 6 (by omega), hc 7 (by omega)⟩
theorem Mid.mids (h : Mid w O B R cm cl T M w') {t b : Nat} (ht : t < 16) (hm : cm t = some b) {G : Nat → Option Nat} (hG : ∀ s, G s = cl (8 * t + s)) :
    w'.cell? ⟨b, 0, none⟩ = some (pt (G 0)) ∧ w'.cell? ⟨b, 1, none⟩ = some (pt (G 1)) ∧ w'.cell? ⟨b, 2, none⟩ = some (pt (G 2)) ∧ w'.cell? ⟨b, 3, none⟩ = some (pt (G 3)) ∧
    w'.cell? ⟨b, 4, none⟩ = some (pt (G 4)) ∧ w'.cell? ⟨b, 5, none⟩ = some (pt (G 5)) ∧ w'.cell? ⟨b, 6, none⟩ = some (pt (G 6)) ∧ w'.cell? ⟨b, 7, none⟩ = some (pt (G 7)) := by
  have hc := fun n hn => (h.1.m t ht b hm).cell n hn
  simp only [hG]
  exact ⟨hc 0 (by omega), hc 1 (by omega), hc 2 (by omega), hc 3 (by omega), hc 4 (by omega), hc 5 (by omega), hc 6 (by omega), hc 7 (by omega)⟩
end

set_option maxRecDepth 100000 in
set_option maxHeartbeats 4000000 in
theorem put_any {O : Nat → Prop} {B : Nat} {M : Nat → Int} {w : World} (p : Nat) (v : Int) (h : Tr w O B M) (hp : p < 1024) (hv : 0 ≤ v ∧ v ≤ 1073741824) :
    Calls Try.prog 51 #[.pointer (some ⟨B, 0, none⟩), .int .i64 p, .int .i64 v] w fun e w' => e = .returned (.tuple #[]) ∧ Mut w O B (setP M p v) w' := by
  obtain ⟨R, cm, cl, T, h, ti⟩ := h
  have TI := Lib.hid ti
  obtain ⟨t, ht⟩ : ∃ t, p / 64 = t := ⟨_, rfl⟩
  obtain ⟨s, hs⟩ : ∃ s, p / 8 % 8 = s := ⟨_, rfl⟩
  obtain ⟨n, hn⟩ : ∃ n, p % 8 = n := ⟨_, rfl⟩
  have ht16 : t < 16 := by omega
  have hs8 : s < 8 := by omega
  have hn8 : n < 8 := by omega
  have hpe : p = 8 * (8 * t + s) + n := by omega
  have e1 : (p : Int) / 64 = ((t : Nat) : Int) := by omega
  have e2 : (p : Int) / 8 % 8 = ((s : Nat) : Int) := by omega
  have e3 : (p : Int) % 8 = ((n : Nat) : Int) := by omega
  have e2' : ((p : Int) / 8).tmod 8 = ((s : Nat) : Int) := by rw [Int.tmod_eq_emod_of_nonneg (by omega)]; exact e2
  have e3' : (p : Int).tmod 8 = ((n : Nat) : Int) := by rw [Int.tmod_eq_emod_of_nonneg (by omega)]; exact e3
  have e1' : (p : Int).tdiv 64 = ((t : Nat) : Int) := by rw [Int.tdiv_eq_ediv_of_nonneg (by omega)]; exact e1
  have c0 := h.c0
  have HK := Lib.hid (kidM_any h ht16)
  have HH := Lib.hid h
  have HPE := Lib.hid hpe
  clear h ht hs hn hpe ti
  go_enter Try.func51, Try.ntmps51
  go_wp2_with fail
  refine HK.out.mono ?_
  rintro e w1 ⟨b1, rfl, cm1, T1, q1, q2, h1, k1⟩
  have HL := Lib.hid (kidL_any h1 ht16 hs8 q1)
  have H1 := Lib.hid (And.intro h1 k1)
  have Q1 := Lib.hid (And.intro q1 q2)
  clear h1 k1 q1 q2 c0
  go_wp2_with fail
  refine HL.out.mono ?_
  rintro e w2 ⟨b2, rfl, cl1, T2, q3, q4, h2, k2⟩
  have hk128 : 8 * t + s < 128 := by omega
  have hMid2 : Mid w O B R cm1 cl1 T2 M w2 := ⟨by rw [← ext_ext H1.out.2.size k2.size]; exact h2, H1.out.2.trans k2⟩
  have h3 := hMid2.store hk128 hn8 q3 hv
  have f2 := (h2.l _ hk128 b2 q3).free n hn8
  have c2 := (h2.l _ hk128 b2 q3).cell n hn8
  rw [← HPE.out] at h3
  obtain ⟨w3, hw3⟩ : ∃ w3, w2.setCell ⟨b2, n, none⟩ (.int .i64 v) = w3 := ⟨_, rfl⟩
  rw [hw3] at h3
  have hMs : ∀ q, q / 8 ≠ 8 * t + s → setP M p v q = M q := fun q hq => if_neg (by have := HPE.out; omega)
  obtain ⟨F, hF⟩ : ∃ F : Nat → Int, ∀ i, F i = setP M p v (8 * (8 * t + s) + i) := ⟨_, fun _ => rfl⟩
  obtain ⟨x0, x1, x2, x3, x4, x5, x6, x7⟩ := h3.leaf hk128 q3 hF
  have hq1 := Q1.out.1
  obtain ⟨zb, hzb⟩ : ∃ zb, ((List.range 8).all fun i => F i == 0) = zb := ⟨_, rfl⟩
  have hE := fun w => eql84 F w
  rw [hzb] at hE
  have HMS := Lib.hid hMs
  have HF := Lib.hid hF
  have HZ := Lib.hid hzb
  have H3 := Lib.hid h3
  have Q3 := Lib.hid (And.intro q3 q4)
  clear h2 k2 hMid2 h3 hMs hF hzb q3 q4
  cases zb
  · obtain ⟨i, hi8, hi⟩ := all_false HZ.out
    have hGs : ∃ j, j < 8 ∧ cl1 (8 * t + j) ≠ none := ⟨s, hs8, by rw [Q3.out.1]; exact fun h => nomatch h⟩
    obtain ⟨G, hG⟩ : ∃ G : Nat → Option Nat, ∀ i, G i = cl1 (8 * t + i) := ⟨_, fun _ => rfl⟩
    obtain ⟨y0, y1, y2, y3, y4, y5, y6, y7⟩ := H3.out.mids ht16 hq1 hG
    have hz2 : ((List.range 8).all fun i => (G i).isNone) = false := by
      rw [List.all_eq_false]
      exact ⟨s, List.mem_range.2 hs8, by rw [hG, Q3.out.1]; exact fun h => nomatch h⟩
    have hE2 := fun w => eql82 G w
    rw [hz2] at hE2
    have TI2 := Lib.hid (H3.out.1.ti_put TI.out Q1.out.2 Q3.out.2 HMS.out (by omega) (fun _ _ => ⟨i, hi8, by rw [← HF.out]; simpa using hi⟩) (fun _ _ => hGs))
    clear hi hGs hG hz2 hq1
    go_wp2_with fail
    go_end0
    exact ⟨rfl, H3.out.mut TI2.out⟩
  · have hz := all8.1 HZ.out
    have h4 := H3.out.dropL ht16 hs8 hq1 (fun i hi => by rw [← HF.out]; simpa using hz i hi)
    have c4 := (H3.out.1.m t ht16 b1 hq1).cell s hs8
    have f4 := (H3.out.1.m t ht16 b1 hq1).free s hs8
    obtain ⟨w4, hw4⟩ : ∃ w4, w3.setCell ⟨b1, s, none⟩ (.pointer none) = w4 := ⟨_, rfl⟩
    rw [hw4] at h4
    obtain ⟨G, hG⟩ : ∃ G : Nat → Option Nat, ∀ i, G i = upd cl1 (8 * t + s) none (8 * t + i) := ⟨_, fun _ => rfl⟩
    obtain ⟨y0, y1, y2, y3, y4, y5, y6, y7⟩ := h4.mids ht16 hq1 hG
    have hE2 := fun w => eql82 G w
    obtain ⟨zc, hzc⟩ : ∃ zc, ((List.range 8).all fun i => (G i).isNone) = zc := ⟨_, rfl⟩
    rw [hzc] at hE2
    have hcl : ∀ j, j ≠ 8 * t + s → upd cl1 (8 * t + s) none j = cl j := fun j hj => by rw [upd_ne _ hj]; exact Q3.out.2 j hj
    have c5 := h4.1.c0
    have c6 := h4.1.r.cell t ht16
    have f6 := h4.1.r.free t ht16
    have H4 := Lib.hid h4
    have HG := Lib.hid hG
    have HZC := Lib.hid hzc
    have HCL := Lib.hid hcl
    clear hz h4 hG hzc hcl
    cases zc
    · obtain ⟨i, hi8, hi⟩ := all_false HZC.out
      have hGs : ∃ j, j < 8 ∧ upd cl1 (8 * t + s) none (8 * t + j) ≠ none := ⟨i, hi8, by rw [← HG.out]; intro e; rw [e] at hi; cases hi⟩
      have TI2 := Lib.hid (H4.out.1.ti_put TI.out Q1.out.2 HCL.out HMS.out (by omega) (fun _ h => by rw [upd_at] at h; cases h) (fun _ _ => hGs))
      clear hi hGs hq1
      go_wp2_with fail
      go_end0
      exact ⟨rfl, H4.out.mut TI2.out⟩
    · have hz := all8.1 HZC.out
      have h5 := H4.out.dropM (t := t) (fun i hi => by rw [← HG.out]; have := hz i hi; cases hgi : G i with
        | none => rfl
        | some x => rw [hgi] at this; cases this)
      have TI2 := Lib.hid (h5.1.ti_put TI.out (fun j hj => by rw [upd_ne _ hj]; exact Q1.out.2 j hj) HCL.out HMS.out (by omega) (fun _ h => by rw [upd_at] at h; cases h) (fun _ h => by rw [upd_at] at h; cases h))
      have H5 := Lib.hid h5
      clear hz h5 hq1
      go_wp2_with fail
      go_end0
      exact ⟨rfl, H5.out.mut TI2.out⟩

end Go.Proofs.Ytdjfeibcbmelcaa
