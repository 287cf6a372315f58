/- The document's span: Bits, List, Taken; lists compared. -/
import Derived.Test.YtejfoefhaphacaaGreatRa
namespace Go.Proofs.YtejfoefhaphacaaGreat
open Go.RowKit Go.Shelf

theorem hl_snoc {f : Nat → Bool} {k : Nat} : hl f 0 (k + 1) = hl f 0 k ++ (if f k = true then [k] else []) := by
  rw [hl_split (c := f) (k := 0) (m := k) (n := k + 1) (by omega) (by omega)]
  congr 1
  by_cases h : f k = true
  · rw [hl_hit (by omega) h, hl_end (by omega), if_pos h]
  · rw [hl_miss (by omega) (by simpa using h), hl_end (by omega), if_neg h]

set_option maxRecDepth 100000 in
set_option maxHeartbeats 1000000 in
theorem rList_any {O : Nat → Prop} {v : Value} {om : Option Mo} {w : World} (h : Ob true w O v om) :
    Calls Tryz.prog 91 #[v] w (LstP w (lst om)) := by
  cases om with
  | none =>
    have HM := Lib.hid (rmade_no h.1)
    clear h
    go_enter Tryz.func91, Tryz.ntmps91
    go_wp2_with (go_at_call 58; refine HM.out.mono ?_; rintro e w1 ⟨rfl, rfl⟩)
    go_ret
    exact ⟨none, 0, rfl, fun i x hi => by simp [lst] at hi, Below.refl _ _⟩
  | some m =>
    obtain ⟨i0, hi, hz0, hzs, hz2⟩ := info_parts info3
    obtain ⟨B, A, c, rfl, h⟩ := h
    have HM := Lib.hid (rmade_any h)
    have hn2 := h.wf.n2
    have HC := Lib.hid (fun (W : World) (hb : Below w.heap.size w W) => show W.cell? ⟨B, 4, none⟩ = some (.slice (some ⟨A, 0, none⟩) m.n c) from (h.below hb).cells.2.2.2.2)
    have HA := Lib.hid (fun (W : World) (hb : Below w.heap.size w W) (k : Nat) (hk : k < m.n) => (show W.cell? ⟨A, k, none⟩ = some (.bool (m.f k)) from (h.below hb).a.cell k hk))
    have HD := Lib.hid (fun (W : World) (hb : Below w.heap.size w W) (k : Nat) (hk : k ≤ m.n) => (at_any (h.below hb) k hk).mono (R' := fun e w' => e = .returned (.int .i64 (adr m k)) ∧ Below W.heap.size W w') (fun e w' hq => by obtain ⟨rfl, j, rfl⟩ := hq; exact ⟨rfl, belowN (Below.refl _ _) _⟩))
    have HE := Lib.hid (show lst (some m) = (hl m.f 0 m.n).map (adr m) from rfl)
    clear h
    generalize lst (some m) = LL at *
    generalize hDD : adr m = D at *
    clear hDD
    obtain ⟨f, hf⟩ : ∃ f, m.f = f := ⟨_, rfl⟩
    rw [hf] at HA HE
    generalize m.n = n at *
    clear hf
    have c4' := HC.out w (Below.refl _ _)
    go_enter Tryz.func91, Tryz.ntmps91
    go_wp2_with (go_at_call 58; refine HM.out.mono ?_; rintro e w1 ⟨rfl, rfl⟩)
    clear c4'
    go_loopw [3, 4] (fun t i wr => ∃ k : Nat, k ≤ n ∧ i = .int .i64 k ∧ wr.ownsRow w.heap.size 3 1 t ((hl f 0 k).map D).length (cellsI ((hl f 0 k).map D)) ∧ Below w.heap.size w wr) (fun _ i _ => n - (intOf i).toNat)
    case atStart => exact ⟨0, by omega, rfl, World.ownsRow_nil _ _ _ _, Below.refl _ _⟩
    case round =>
      obtain ⟨k, hk, rfl, hrow, hb⟩ := hrel
      have c4 := HC.out _ hb
      obtain ⟨A', c', rfl⟩ := owns_form hrow
      have HR := Lib.hid hrow
      have HB := Lib.hid hb
      have hll : ((hl f 0 k).map D).length ≤ 128 := by rw [List.length_map]; have := hl_len f 0 k; omega
      by_cases hlt : k < n
      · have cy := HA.out _ hb k hlt
        have hs := hl_snoc (f := f) (k := k)
        have HDk := Lib.hid (HD.out _ hb k (by omega))
        cases hfk : f k with
        | true =>
          rw [hfk] at cy
          rw [if_pos hfk] at hs
          have hs2 : (hl f 0 (k + 1)).map D = (hl f 0 k).map D ++ [D k] := by rw [hs, List.map_append]; rfl
          have HS := Lib.hid hs2
          clear hfk hs hs2 hrow hb
          generalize (hl f 0 k).map D = L at *
          go_wp2_with (first
            | (go_at_call 69; refine HDk.out.mono ?_; rintro e w2 ⟨rfl, hbq⟩; have hB2 := HB.out.trans (hbq.mono HB.out.size); have hr2 := HR.out.kept (grown_of hbq none) (by cases A' <;> simp [Value.ownBlock]); clear hbq; have HB2 := Lib.hid hB2; have HR2 := Lib.hid hr2; clear hr2 hB2)
            | (at_builtin; refine wpList_append_own _ rfl _ _ 34 rfl w.heap.size 3 i0 (.int .i64 0) 1 8 Tryz.underlying34 hi hz0 hzs hz2 rfl (by decide) _ _ _ rfl (HR2.out.alloc _) ⟨w2.heap.size, 0, none⟩ 1 1 [.int .i64 (D k : Int)] rfl rfl (cells1_new w2 _ _) (by simp [Value.oneCell']) (by unfold maxLen; omega) (by omega) (by have := HB2.out.size; simp; omega) ?_; intro v' w3 hown' hgrow _; have HB3 := Lib.hid ((HB2.out.alloc HB2.out.size _).grown hgrow (by have := HB2.out.size; simp; omega) (fun k e => (HR2.out.lt k e).1)); have HO3 := Lib.hid hown'; clear hown' hgrow))
          go_roundw
          case rel => exact ⟨k + 1, by omega, by go_num, by rw [HS.out, cellsI_snoc, List.length_append]; exact HO3.out, HB3.out⟩
          case measure => simp [intOf]; omega
        | false =>
          rw [hfk] at cy
          rw [if_neg (by rw [hfk]; decide), List.append_nil] at hs
          have HS := Lib.hid hs
          clear hfk hs hrow hb
          go_wp2_with fail
          go_roundw
          case rel => exact ⟨k + 1, by omega, by go_num, by rw [HS.out]; exact HR.out, HB.out⟩
          case measure => simp [intOf]; omega
      · obtain rfl : k = n := by omega
        obtain ⟨A2, c2, hv, hcs⟩ := owns_cells hrow
        have hv' : A' = A2 ∧ c' = c2 := by injection hv; exact ⟨by assumption, by assumption⟩
        obtain ⟨rfl, rfl⟩ := hv'
        have HCS := Lib.hid hcs
        clear hv hcs hrow hb
        rw [← HE.out]
        go_wp2_with fail
        go_ret
        refine ⟨A', c', rfl, fun i x hi => ?_, HB.out⟩
        obtain ⟨g, e, h1, h2⟩ := HCS.out i x (by rw [← HE.out]; exact hi)
        exact ⟨g, e, h1, World.block_lt_of_cell? _ _ h2, h2⟩

set_option maxHeartbeats 1000000 in
theorem rTaken_any {O : Nat → Prop} {v : Value} {om : Option Mo} {w : World} (h : Ob true w O v om) :
    Calls Tryz.prog 60 #[v] w fun e w' => e = .returned (.int .i64 (tkO om).length) ∧ Below w.heap.size w w' := by
  have HL := Lib.hid (rList_any h)
  have HN := Lib.hid (show (lst om).length = (tkO om).length by
    cases om with
    | none => rfl
    | some m => exact List.length_map ..)
  clear h
  rw [HN.out.symm]
  go_enter Tryz.func60, Tryz.ntmps60
  go_wp2_with (go_at_call 91; refine HL.out.mono ?_; rintro e w1 ⟨A, c, rfl, _, hb⟩; have HB := Lib.hid hb; clear hb)
  go_ret
  exact ⟨rfl, HB.out⟩

end Go.Proofs.YtejfoefhaphacaaGreat
