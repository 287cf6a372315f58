/- Package span: Bits. -/
import Derived.Test.YtgklkjccfnbcdaaLk
import Derived.Laws.IdiomStrings
namespace Go.Proofs.Ytgklkjccfnbcdaa
open Go.RowKit Go.Shelf

/-- Bits, as a string. -/
def bitsS (om : Option Mo) : ByteArray := ⟨(bts om).toArray⟩
def bitI (b : Bool) : Int := if b then 49 else 48
/-- The bytes that Bits has written. -/
def wF (f : Nat → Bool) (k : Nat) : Nat → Value := fun i => .int .u8 (if i < k then bitI (f i) else 0)
theorem info5 : (Try.prog.info? 5).map (fun i => (i.zero, i.size, i.bytes)) = some (some (.int .u8 0), 1, 1) := by kernel_rfl
theorem bits_conv {w : World} {g cap : Nat} {m : Mo} (h : Cl w g m.n (wF m.f m.n)) : (convert 79 9 (.slice (some ⟨g, 0, none⟩) m.n cap)).run Try.prog w = .ok (.string (bitsS (some m))) w := by
  have hl : (bts (some m)).length = m.n := by unfold bts; simp
  have := run_convert_bytes_back (P := Try.prog) w 79 9 5 ⟨g, 0, none⟩ cap (bts (some m)) Try.underlying79 Try.underlying5 Try.underlying9 (fun j hj => by
    have hj' : j < m.n := by rw [← hl]; exact hj
    have e1 : (⟨g, 0, none⟩ : Addr).add j = ⟨g, j, none⟩ := by simp [Addr.add]; omega
    rw [e1, h.cell j hj']
    unfold wF
    rw [if_pos hj']
    have : (bts (some m))[j] = bit (m.f j) := by
      have h2 : (bts (some m))[j]? = some (bit (m.f j)) := by show ((List.range m.n).map (fun k => bit (m.f k)))[j]? = _; rw [List.getElem?_map, List.getElem?_range hj']; rfl
      exact (List.getElem?_eq_some_iff.1 h2).2
    rw [this]
    unfold bit bitI
    cases m.f j <;> rfl)
  rw [hl] at this
  exact this

set_option maxRecDepth 100000 in
set_option maxHeartbeats 1000000 in
theorem Bits_any {O : Nat → Prop} {v : Value} {om : Option Mo} {w : World} (h : Ob false w O v om) :
    Calls Try.prog 24 #[v] w fun e w' => e = .returned (.string (bitsS om)) ∧ Below w.heap.size w w' := by
  cases om with
  | none =>
    have HM := Lib.hid (made_no h.1)
    clear h
    go_enter Try.func24, Try.ntmps24
    go_wp2_with (go_at_call 34; refine HM.out.mono ?_; rintro e w1 ⟨rfl, rfl⟩)
    go_ret
    exact ⟨rfl, Below.refl _ _⟩
  | some m =>
    obtain ⟨B, A, c, rfl, h⟩ := h
    have HM := Lib.hid (made_any h)
    have hn1 := h.wf.n1
    have hn2 := h.wf.n2
    have c4 : w.cell? ⟨B, 4, none⟩ = some (.slice (some ⟨A, 0, none⟩) m.n c) := h.cells.2.2.2.2
    obtain ⟨i, hi, hz0, hz1, hz2⟩ := info_parts info5
    have hmk := fun w => run_make (P := Try.prog) w 79 5 i (.int .u8 0) Try.underlying79 hi hz0 .i64 .i64 m.n m.n (by omega) (Int.le_refl _) (by rw [hz2]; omega) (by omega)
    rw [hz1] at hmk
    simp only [Int.toNat_natCast, Value.cells, Nat.mul_one] at hmk
    obtain ⟨W0, hW⟩ : ∃ W0, w.alloc (.cells (madeCells #[.int .u8 0] m.n) 5) = W0 := ⟨_, rfl⟩
    have hb0 : Below w.heap.size w W0 := by rw [← hW]; exact bnew _ _
    have k0 : Cl W0 w.heap.size m.n (wF m.f 0) := by
      rw [← hW]
      refine Cl.new w (by decide) fun i hi => ?_
      rw [madeCells_get _ _ _ hi]
      simp [Nat.mod_one, wF]
    have hS0 := h.below hb0
    have d4 : W0.cell? ⟨B, 4, none⟩ = some (.slice (some ⟨A, 0, none⟩) m.n c) := hS0.cells.2.2.2.2
    have HA := Lib.hid (fun (wr : World) (hb : Below w.heap.size w wr) (k : Nat) (hk : k < m.n) => (h.below hb).a.cell k hk)
    have HCV := Lib.hid (fun (wr : World) (hc : Cl wr w.heap.size m.n (wF m.f m.n)) => bits_conv (cap := m.n) hc)
    have K0 := Lib.hid k0
    have HB0 := Lib.hid hb0
    generalize bitsS (some m) = S at *
    obtain ⟨f, hf⟩ : ∃ f, m.f = f := ⟨_, rfl⟩
    rw [hf] at HA HCV K0
    generalize m.n = n at *
    clear h hS0 k0 hb0 hi hz0 hz1 hz2 hf
    go_enter Try.func24, Try.ntmps24
    go_wp2_with (go_at_call 34; refine HM.out.mono ?_; rintro e w1 ⟨rfl, rfl⟩)
    clear hmk
    go_loopw [20] (fun i wr => ∃ k : Nat, k ≤ n ∧ i = .int .i64 k ∧ Cl wr w.heap.size n (wF f k) ∧ Below w.heap.size w wr) (fun i _ => n - (intOf i).toNat)
    case atStart => exact ⟨0, by omega, rfl, K0.out, HB0.out⟩
    case round =>
      obtain ⟨k, hk, rfl, hc, hb⟩ := hrel
      have HB := Lib.hid hb
      by_cases hlt : k < n
      · have cy := HA.out wr hb k hlt
        have cw := hc.cell k hlt
        have cf := hc.free k hlt
        have hst := (hc.set k (.int .u8 (bitI (f k)))).congr (g := wF f (k + 1)) (fun i hi => by
          unfold wF
          by_cases e : i = k
          · rw [if_pos e, if_pos (by omega), e]
          · rw [if_neg e]
            by_cases h1 : i < k
            · rw [if_pos h1, if_pos (by omega)]
            · rw [if_neg h1, if_neg (by omega)])
        have HST := Lib.hid hst
        have HKS := Lib.hid (hb.setCell (p := ⟨w.heap.size, k, none⟩) (Nat.le_refl _) (.int .u8 (bitI (f k))))
        generalize wF f k k = V at cw
        clear hc hb hst
        cases hfk : f k with
        | true =>
          rw [hfk] at cy HST HKS
          replace cy : wr.cell? ⟨A, k, none⟩ = some (.int .u8 1) := cy
          rw [show bitI true = 49 from rfl] at HST HKS
          clear hfk
          go_wp2_with fail
          go_roundw
          case rel => exact ⟨k + 1, by omega, by go_num, HST.out, HKS.out⟩
          case measure => simp [intOf]; omega
        | false =>
          rw [hfk] at cy HST HKS
          replace cy : wr.cell? ⟨A, k, none⟩ = some (.int .u8 0) := cy
          rw [show bitI false = 48 from rfl] at HST HKS
          clear hfk
          go_wp2_with fail
          go_roundw
          case rel => exact ⟨k + 1, by omega, by go_num, HST.out, HKS.out⟩
          case measure => simp [intOf]; omega
      · obtain rfl : k = n := by omega
        have hcv := HCV.out wr hc
        clear hc hb
        go_wp2_with fail
        go_ret
        exact ⟨rfl, HB.out⟩

end Go.Proofs.Ytgklkjccfnbcdaa
