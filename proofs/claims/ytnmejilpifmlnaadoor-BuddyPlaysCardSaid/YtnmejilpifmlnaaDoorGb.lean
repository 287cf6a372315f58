/- The document's own heap: set, Give, TakeRun, IsFree. -/
import Derived.Test.YtnmejilpifmlnaaDoorGa
namespace Go.Proofs.YtnmejilpifmlnaaDoor
open Go.RowKit

theorem RfA.put {w : World} {O : Nat → Prop} {B A cap q : Nat} {m : Mo} (h : RfA w O B A cap m) (v : Bool) (hq : q < m.n) : RfA (w.setCell ⟨A, q, none⟩ (.bool v)) O B A cap ⟨m.n, setF m.F q (q + 1) v⟩ := by
  refine ⟨⟨h.wf.n1, h.wf.n2, fun p hp => ?_⟩, h.b.other (fun e => h.ne e.symm) _, (h.a.set q _).congr fun p _ => ?_, h.ne, h.ob, h.oa, fun k hk => by rw [World.size_setCell]; exact h.lt k hk⟩
  · by_cases e : q ≤ p ∧ p < q + 1
    · show p < m.n
      omega
    · rw [show (⟨m.n, setF m.F q (q + 1) v⟩ : Mo).F p = setF m.F q (q + 1) v p from rfl, setF_out e] at hp
      exact h.wf.f p hp
  · by_cases e : p = q
    · subst e
      rw [if_pos rfl]
      show Value.bool v = .bool (setF m.F p (p + 1) v p)
      rw [setF_in (by omega) (by omega)]
    · rw [if_neg e]
      show Value.bool (m.F p) = .bool (setF m.F q (q + 1) v p)
      rw [setF_out (by omega)]
theorem keep_cell {O : Nat → Prop} (w : World) (A q : Nat) (v : Value) (h : O A) : Keep O w (w.setCell ⟨A, q, none⟩ v) :=
  ⟨rfl, rfl, rfl, by rw [World.size_setCell]; exact Nat.le_refl _, fun k _ hk => Below.heap_setCell _ _ _ _ (fun e => hk (by rw [e]; exact h))⟩

set_option maxHeartbeats 1000000 in
theorem rset_any {O : Nat → Prop} {B : Nat} {m : Mo} {w : World} (s k : Nat) (v : Bool) (h : Rf w O B m) (hk : s + k ≤ m.n) : Calls Tryd.prog 59 #[.pointer (some ⟨B, 0, none⟩), .int .i64 s, .int .i64 k, .bool v] w fun e w' => e = .returned (.tuple #[]) ∧ RMut w O B ⟨m.n, setF m.F s (s + k) v⟩ w' := by
  obtain ⟨A, cap, h⟩ := h
  have HA := Lib.hid h
  have hn2 := h.wf.n2
  obtain ⟨n, hn⟩ : ∃ n, m.n = n := ⟨_, rfl⟩
  rw [hn] at hk hn2
  have HN := Lib.hid hn
  have hw : IntKind.i64.wrap ((s : Int) + (k : Int)) = (s : Int) + (k : Int) := IntWalk.i64_in _ (by omega)
  clear h hn
  go_enter Tryd.func59, Tryd.ntmps59
  go_wp2
  go_loopw [8] (fun i wr => ∃ q : Nat, s ≤ q ∧ q ≤ s + k ∧ i = .int .i64 q ∧ RfA wr O B A cap ⟨m.n, setF m.F s q v⟩ ∧ Keep O w wr) (fun i _ => s + k - (intOf i).toNat)
  case atStart => exact ⟨s, Nat.le_refl _, by omega, rfl, by rw [setF_none (Nat.le_refl _)]; exact HA.out, Keep.refl _ _⟩
  case round =>
    obtain ⟨q, hq1, hq2, rfl, hR, hK⟩ := hrel
    have c0 := hR.b.cell 0 (by omega)
    have hqn' : q < s + k → q < n := fun h => by omega
    have HRR := Lib.hid hR
    have HK := Lib.hid hK
    rw [show (⟨m.n, setF m.F s q v⟩ : Mo).n = n from HN.out] at c0
    clear hK
    by_cases hlt : q < s + k
    · have ca := hR.a.cell q (by have := HN.out; exact this ▸ hqn' hlt)
      have cf := hR.a.free q (by have := HN.out; exact this ▸ hqn' hlt)
      have hqn : q < n := hqn' hlt
      have hql : (q : Int) < (s : Int) + (k : Int) := by omega
      generalize (⟨m.n, setF m.F s q v⟩ : Mo).F q = f at ca
      have HP := Lib.hid (HRR.out.put v (by show q < m.n; have := HN.out; omega))
      clear hR hqn'
      go_wp2_with fail
      go_roundw
      case rel => exact ⟨q + 1, by omega, by omega, by go_num, by
        have := HP.out
        rw [show setF (⟨m.n, setF m.F s q v⟩ : Mo).F q (q + 1) v = setF m.F s (q + 1) v from setF_join hq1 (by omega)] at this
        exact this, HK.out.trans (keep_cell _ _ _ _ HA.out.oa)⟩
      case measure => simp [intOf]; omega
    · obtain rfl : q = s + k := by omega
      clear hR hqn'
      have hql : ¬ (s : Int) + (k : Int) < (s : Int) + (k : Int) := by omega
      go_wp2_with fail
      go_end0
      exact ⟨rfl, ⟨_, _, HRR.out⟩, HK.out⟩

end Go.Proofs.YtnmejilpifmlnaaDoor
