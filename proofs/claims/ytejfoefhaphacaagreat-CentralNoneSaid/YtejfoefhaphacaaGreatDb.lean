/- The document's list: Taken, Room. -/
import Derived.Test.YtejfoefhaphacaaGreatDa
namespace Go.Proofs.YtejfoefhaphacaaGreat
open Go.RowKit Go.Shelf

theorem sumL_bd {f : Mo → Nat} {L : List Mo} {k : Nat} (hf : ∀ m, m ∈ L → f m ≤ 128) (hl : L.length ≤ 1024) : sumL f (L.take k) ≤ 131072 := by
  have h1 := sumL_le (f := f) (b := 128) (L.take k) (fun m hm => hf m (List.mem_of_mem_take hm))
  have h2 : (L.take k).length ≤ 1024 := by rw [List.length_take]; omega
  have h3 := Nat.mul_le_mul_right 128 h2
  omega
set_option maxRecDepth 100000 in
set_option maxHeartbeats 2000000 in
theorem dTaken_any {O : Nat → Prop} {v : Value} {om : Option Ce} {w : World} (h : LOb true w O v om) : Calls Tryz.prog 37 #[v] w fun e w' => e = .returned (.int .i64 (tkC om : Nat)) ∧ Below w.heap.size w w' := by
  cases om with
  | none =>
    have HM := Lib.hid (dmade_no h.1)
    clear h
    go_enter Tryz.func37, Tryz.ntmps37
    go_wp2_with (go_at_call 23; refine HM.out.mono ?_; rintro e w1 ⟨rfl, rfl⟩)
    go_ret
    exact ⟨rfl, Below.refl _ _⟩
  | some c =>
    obtain ⟨B, V, X, rfl, h⟩ := h
    have HM := Lib.hid (dmade_any h)
    have HH := Lib.hid h
    have hlen := h.len
    have hmax := h.wf.len
    have HWF := Lib.hid h.wf
    obtain ⟨A, cap, rfl⟩ := owns_form h.row
    obtain ⟨N, hN⟩ : ∃ N, X.length = N := ⟨_, rfl⟩
    have HN := Lib.hid hN
    have HL := Lib.hid (show c.L.length = N from by rw [← hlen]; exact hN)
    have hN4 : N ≤ 1024 := by omega
    have HS := Lib.hid (fun k => sumL_bd (f := tc) (L := c.L) (k := k) (fun m hm => by have := tc_le m; have := (h.wf.sp m hm).wf.n2; omega) h.wf.len)
    clear h hlen hmax hN
    go_enter Tryz.func37, Tryz.ntmps37
    go_wp2_with (go_at_call 23; refine HM.out.mono ?_; rintro e w1 ⟨rfl, rfl⟩)
    go_loopw [3, 4] (fun t i wr => ∃ k : Nat, k ≤ N ∧ i = .int .i64 k ∧ t = .int .i64 (sumL tc (c.L.take k) : Nat) ∧ Below w.heap.size w wr) (fun _ i _ => N - (intOf i).toNat)
    case atStart => exact ⟨0, by omega, rfl, rfl, Below.refl _ _⟩
    case round =>
      obtain ⟨k, hk, rfl, rfl, hb⟩ := hrel
      have c3 := (HH.out.below hb).cells.2.2.2
      rw [HN.out] at c3
      have HB := Lib.hid hb
      have hsb := HS.out k
      by_cases hlt : k < N
      · obtain ⟨x, hx⟩ : ∃ x, X[k]? = some x := ⟨_, List.getElem?_eq_getElem (by have := HN.out; omega)⟩
        obtain ⟨g, cap2, hV, hc⟩ := (HH.out.below hb).slot hx
        obtain ⟨rfl, rfl⟩ : A = some ⟨g, 0, none⟩ ∧ cap = cap2 := by injection hV; exact ⟨by assumption, by assumption⟩
        have HD := Lib.hid (rTaken_any ((HH.out.below hb).span hx))
        have HT := Lib.hid (sumL_take (f := tc) (HH.out.at hx))
        have hs2 := HS.out (k + 1)
        rw [HT.out] at hs2
        rw [show (tkO (some x.m)).length = tc x.m from rfl] at HD
        clear hV hx hb
        generalize sumL tc (c.L.take k) = S at *
        generalize tc x.m = tm at *
        go_wp2_with (first
          | (go_at_call 60; refine HD.out.mono ?_; rintro e w2 ⟨rfl, hbq⟩; have HB2 := Lib.hid (btr HB.out hbq (Nat.le_refl _)); clear hbq))
        go_roundw
        case rel => exact ⟨k + 1, by omega, by go_num, by rw [HT.out]; go_num, HB2.out⟩
        case measure => simp [intOf]; omega
      · obtain rfl : k = N := by omega
        have e : c.L.take k = c.L := List.take_of_length_le (by rw [HL.out]; exact Nat.le_refl _)
        have HE := Lib.hid (show tkC (some c) = sumL tc (c.L.take k) from by rw [e]; rfl)
        clear hb e
        generalize sumL tc (c.L.take k) = S at *
        go_wp2_with fail
        go_ret
        rw [HE.out]
        exact ⟨rfl, HB.out⟩

set_option maxRecDepth 100000 in
set_option maxHeartbeats 2000000 in
theorem dRoom_any {O : Nat → Prop} {v : Value} {om : Option Ce} {w : World} (h : LOb true w O v om) : Calls Tryz.prog 35 #[v] w fun e w' => e = .returned (.int .i64 (rmC om : Nat)) ∧ Below w.heap.size w w' := by
  cases om with
  | none =>
    have HM := Lib.hid (dmade_no h.1)
    clear h
    go_enter Tryz.func35, Tryz.ntmps35
    go_wp2_with (go_at_call 23; refine HM.out.mono ?_; rintro e w1 ⟨rfl, rfl⟩)
    go_ret
    exact ⟨rfl, Below.refl _ _⟩
  | some c =>
    obtain ⟨B, V, X, rfl, h⟩ := h
    have HM := Lib.hid (dmade_any h)
    have HH := Lib.hid h
    have hlen := h.len
    have hmax := h.wf.len
    have HWF := Lib.hid h.wf
    obtain ⟨A, cap, rfl⟩ := owns_form h.row
    obtain ⟨N, hN⟩ : ∃ N, X.length = N := ⟨_, rfl⟩
    have HN := Lib.hid hN
    have HL := Lib.hid (show c.L.length = N from by rw [← hlen]; exact hN)
    have hN4 : N ≤ 1024 := by omega
    have HS := Lib.hid (fun k => sumL_bd (f := fun m => m.n - tc m) (L := c.L) (k := k) (fun m hm => by have := (h.wf.sp m hm).wf.n2; show m.n - tc m ≤ 128; omega) h.wf.len)
    clear h hlen hmax hN
    go_enter Tryz.func35, Tryz.ntmps35
    go_wp2_with (go_at_call 23; refine HM.out.mono ?_; rintro e w1 ⟨rfl, rfl⟩)
    go_loopw [3, 4] (fun t i wr => ∃ k : Nat, k ≤ N ∧ i = .int .i64 k ∧ t = .int .i64 (sumL (fun m => m.n - tc m) (c.L.take k) : Nat) ∧ Below w.heap.size w wr) (fun _ i _ => N - (intOf i).toNat)
    case atStart => exact ⟨0, by omega, rfl, rfl, Below.refl _ _⟩
    case round =>
      obtain ⟨k, hk, rfl, rfl, hb⟩ := hrel
      have c3 := (HH.out.below hb).cells.2.2.2
      rw [HN.out] at c3
      have HB := Lib.hid hb
      have hsb := HS.out k
      by_cases hlt : k < N
      · obtain ⟨x, hx⟩ : ∃ x, X[k]? = some x := ⟨_, List.getElem?_eq_getElem (by have := HN.out; omega)⟩
        obtain ⟨g, cap2, hV, hc⟩ := (HH.out.below hb).slot hx
        obtain ⟨rfl, rfl⟩ : A = some ⟨g, 0, none⟩ ∧ cap = cap2 := by injection hV; exact ⟨by assumption, by assumption⟩
        have HD := Lib.hid (fun W (hb2 : Below wr.heap.size wr W) => show Calls Tryz.prog 60 #[.pointer (some ⟨x.B, 0, none⟩)] W fun e w' => e = .returned (.int .i64 (tc x.m : Nat)) ∧ Below W.heap.size W w' from rTaken_any (((HH.out.below hb).below hb2).span hx))
        have HO := Lib.hid (fun W (hb2 : Below wr.heap.size wr W) => show Calls Tryz.prog 61 #[.pointer (some ⟨x.B, 0, none⟩)] W fun e w' => e = .returned (.int .i64 (x.m.n : Nat)) ∧ Below W.heap.size W w' from (rObjects_any (((HH.out.below hb).below hb2).span hx)).mono fun _ _ h => ⟨h.1, by rw [← h.2]; exact Below.refl _ _⟩)
        have G1 := CW.cell (N := wr.heap.size) (a := ⟨B, 3, none⟩) (World.block_lt_of_cell? _ _ c3) c3
        have G2 := CW.cell (N := wr.heap.size) (a := ⟨g, k, none⟩) (World.block_lt_of_cell? _ _ hc) hc
        have htl := tc_le x.m
        have hn2 := (HWF.out.at (HH.out.at hx)).wf.n2
        have HT := Lib.hid (sumL_take (f := fun m => m.n - tc m) (HH.out.at hx))
        have hs2 := HS.out (k + 1)
        rw [HT.out] at hs2
        clear hV hx hb
        generalize sumL (fun m => m.n - tc m) (c.L.take k) = S at *
        generalize tc x.m = tm at *
        generalize x.m.n = xn at *
        generalize x.B = xb at *
        go_wp2_with fail
        refine region_below wr.heap.size (by kernel_rfl) (by kernel_rfl) ?_
        repeat (first | go_big_quiet_step ((first | (go_at_call 61; exact quietB (Nat.le_refl _) (HO.out _ (CW.bel _))) | (go_at_call 60; exact quietB (Nat.le_refl _) (HD.out _ (CW.bel _))))) | quiet_step ((first | (go_at_call 61; exact quietB (Nat.le_refl _) (HO.out _ (CW.bel _))) | (go_at_call 60; exact quietB (Nat.le_refl _) (HD.out _ (CW.bel _))))))
        refine wpQuiet_nil ?_
        rintro _ ⟨nq, rfl⟩
        have HB2 := Lib.hid (btr HB.out nq.bel (Nat.le_refl _))
        generalize nq.wd = wq at *
        go_wp2_with fail
        go_roundw
        case rel => exact ⟨k + 1, by omega, by go_num, by rw [HT.out]; go_num, HB2.out⟩
        case measure => simp [intOf]; omega
      · obtain rfl : k = N := by omega
        have e : c.L.take k = c.L := List.take_of_length_le (by rw [HL.out]; exact Nat.le_refl _)
        have HE := Lib.hid (show rmC (some c) = sumL (fun m => m.n - tc m) (c.L.take k) from by rw [e]; rfl)
        clear hb e
        generalize sumL (fun m => m.n - tc m) (c.L.take k) = S at *
        go_wp2_with fail
        go_ret
        rw [HE.out]
        exact ⟨rfl, HB.out⟩

end Go.Proofs.YtejfoefhaphacaaGreat
