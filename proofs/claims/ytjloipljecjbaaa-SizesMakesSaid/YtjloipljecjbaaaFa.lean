/- What holds of the tables that are made: plain mathematics, and one look at each of the fifteen. -/
import Derived.Test.YtjloipljecjbaaaAl
namespace Go.Proofs.Ytjloipljecjbaaa
open Go.RowKit

def denseB (a b : Cl) : Bool := decide (a.p = b.p → b.p * 256 / b.s < a.p * 256 / a.s)
def tailB (w : Int) (c : Cl) : Bool := decide (c.p = 4 ∨ w * (c.p * 256 - c.p * 256 / c.s * c.s) ≤ c.p * 256)
def chkT (w : Int) (t : List Cl) : Bool :=
  okT t && decide (2 ≤ t.length) && decide ((t.getD 0 default).s = 8) && decide (lastS t = 512) &&
  (List.range (t.length - 1)).all (fun i => decide ((t.getD (i + 1) default).s ≤ 2 * (t.getD i default).s) && denseB (t.getD i default) (t.getD (i + 1) default)) &&
  (List.range t.length).all (fun i => tailB w (t.getD i default))

theorem chk_fin : ∀ i : Fin 15, chkT ((i.val : Int) + 2) (mkT ((i.val : Int) + 2)) = true := by decide +kernel

structure GoodT (w : Int) (t : List Cl) : Prop where
  ok : okT t = true
  two : 2 ≤ t.length
  first : (t.getD 0 default).s = 8
  last : lastS t = 512
  double : ∀ i, i + 1 < t.length → (t.getD (i + 1) default).s ≤ 2 * (t.getD i default).s
  dense : ∀ i, i + 1 < t.length → (t.getD i default).p = (t.getD (i + 1) default).p → (t.getD (i + 1) default).p * 256 / (t.getD (i + 1) default).s < (t.getD i default).p * 256 / (t.getD i default).s
  tails : ∀ i, i < t.length → (t.getD i default).p = 4 ∨ w * ((t.getD i default).p * 256 - (t.getD i default).p * 256 / (t.getD i default).s * (t.getD i default).s) ≤ (t.getD i default).p * 256

theorem made_good (w : Int) (h2 : 2 ≤ w) (h16 : w ≤ 16) : GoodT w (mkT w) := by
  obtain ⟨i, rfl⟩ : ∃ i : Fin 15, w = (i.val : Int) + 2 := ⟨⟨(w - 2).toNat, by omega⟩, by simp; omega⟩
  have h := chk_fin i
  generalize mkT ((i.val : Int) + 2) = t at h
  unfold chkT at h
  simp only [Bool.and_eq_true, decide_eq_true_eq, List.all_eq_true, List.mem_range] at h
  obtain ⟨⟨⟨⟨⟨a, b⟩, c⟩, d⟩, e⟩, f⟩ := h
  refine ⟨a, b, c, d, fun i hi => (e i (by omega)).1, fun i hi => ?_, fun i hi => ?_⟩
  · have := (e i (by omega)).2
    unfold denseB at this
    exact of_decide_eq_true this
  · have := f i hi
    unfold tailB at this
    exact of_decide_eq_true this

theorem last_fit {t : List Cl} {sz al : Int} (hok : okT t = true) (hl : lastS t = 512) (hs : sz ≤ 512) (ha : 512 % al = 0) : (fnd t sz al).isSome = true := by
  cases hf : fnd t sz al with
  | some k => rfl
  | none =>
    exfalso
    unfold fnd at hf
    rw [List.find?_range_eq_none] at hf
    have hlen := okT_len hok
    have := hf (t.length - 1) (by omega)
    unfold fitAt at this
    have e : (t.getD (t.length - 1) default).s = 512 := hl
    rw [e] at this
    simp [ha, hs] at this

theorem no_fit {t : List Cl} {sz al : Int} (hok : okT t = true) (hs : 512 < sz) : (fnd t sz al).isSome = false := by
  rw [fnd_none]
  · rfl
  · intro j hj
    have := okT_pos hok hj
    unfold fitAt
    rw [decide_eq_false (by omega)]
    rfl

theorem good_cls {w : Int} {t : List Cl} (g : GoodT w t) (sz al : Int) (hal : alB al = true) (ha : 512 % al = 0) : clsE t sz al = 0 ↔ 1 ≤ sz ∧ sz ≤ 512 := by
  constructor
  · intro h
    obtain ⟨_, h1, _, k, hk, _, _, hle⟩ := clsE_ok h
    have := okT_pos g.ok hk
    omega
  · rintro ⟨h1, h2⟩
    unfold clsE
    rw [if_pos g.ok, if_pos ⟨h1, hal⟩, if_pos (last_fit g.ok g.last h2 ha)]

theorem good_slack {w : Int} {t : List Cl} (g : GoodT w t) (sz : Int) (h8 : 8 ≤ sz) (h512 : sz ≤ 512) : clsE t sz 1 = 0 ∧ 0 ≤ slkV t sz ∧ slkV t sz < sz := by
  have h0 : clsE t sz 1 = 0 := (good_cls g sz 1 rfl rfl).2 ⟨by omega, h512⟩
  obtain ⟨hok, _, _, k, hk, hf, hv, hle⟩ := clsE_ok h0
  refine ⟨h0, (slkV_bd h0).1, ?_⟩
  unfold slkV
  rw [if_pos h0, hv, Int.toNat_natCast]
  obtain ⟨_, _, hn⟩ := fnd_fit hf
  cases k with
  | zero => have := g.first; omega
  | succ k =>
    have hd := g.double k hk
    have hnf := hn k (by omega)
    unfold fitAt at hnf
    have : ¬ sz ≤ (t.getD k default).s := by
      intro hc
      rw [decide_eq_true hc, Bool.true_and, decide_eq_false_iff_not, Int.emod_one] at hnf
      exact hnf rfl
    omega

end Go.Proofs.Ytjloipljecjbaaa
