/- The other map: its numbers in a slice. New, made, put, Set, Clear. -/
import Derived.Test.YtdjfeibcbmelcaaXa
namespace Go.Proofs.Ytdjfeibcbmelcaa
open Go.RowKit

structure RfA (w : World) (O : Nat → Prop) (P A c : Nat) (M : Nat → Int) : Prop where
  wf : WM M
  p : Cl w P 1 (fun _ => .slice (some ⟨A, 0, none⟩) 1024 c)
  a : Cl w A 1024 (fun i => .int .i64 (M i))
  op : O P
  oa : O A
  ne : P ≠ A
  lt : ∀ k, O k → k < w.heap.size
def Rf (w : World) (O : Nat → Prop) (P : Nat) (M : Nat → Int) : Prop := ∃ A c, RfA w O P A c M
/-- What a call that changes the other map leaves: it makes nothing. -/
def Rut (w : World) (O : Nat → Prop) (P : Nat) (M : Nat → Int) (w' : World) : Prop := Rf w' O P M ∧ Keep O w w'
section
variable {w w' : World} {O O1 O' : Nat → Prop} {P A c : Nat} {M : Nat → Int}
theorem RfA.blocks (h : RfA w O P A c M) (hb : ∀ k, O k → w'.heap[k]? = w.heap[k]?) (hs : w.heap.size ≤ w'.heap.size) : RfA w' O P A c M :=
  ⟨h.wf, h.p.of_block (hb _ h.op), h.a.of_block (hb _ h.oa), h.op, h.oa, h.ne, fun k hk => Nat.lt_of_lt_of_le (h.lt k hk) hs⟩
theorem Rf.keep (h : Rf w O P M) (hk : Keep O1 w w') (hd : ∀ k, O k → O1 k → False) : Rf w' O P M := by
  obtain ⟨A, c, h⟩ := h
  exact ⟨A, c, h.blocks (fun k ho => hk.block k (h.lt k ho) (fun hx => hd k ho hx)) hk.size⟩
theorem Rf.below (h : Rf w O P M) (hb : Below w.heap.size w w') : Rf w' O P M := h.keep (Keep.of (O := fun _ => False) hb) (fun _ _ h => h)
theorem Rf.mono (h : Rf w O P M) (ho : ∀ k, O k → O' k) (hl : ∀ k, O' k → k < w.heap.size) : Rf w O' P M := by
  obtain ⟨A, c, h⟩ := h
  exact ⟨A, c, h.wf, h.p, h.a, ho _ h.op, ho _ h.oa, h.ne, hl⟩
theorem Rf.lt (h : Rf w O P M) : ∀ k, O k → k < w.heap.size := by obtain ⟨A, c, h⟩ := h; exact h.lt
theorem Rf.wf (h : Rf w O P M) : WM M := by obtain ⟨A, c, h⟩ := h; exact h.wf
theorem Rut.same (h : Rf w O P M) : Rut w O P M w := ⟨h, Keep.refl _ _⟩
end
theorem Rut.trans {w w1 w2 : World} {O : Nat → Prop} {P : Nat} {M1 M2 : Nat → Int} (h : Rut w O P M1 w1) (k : Rut w1 O P M2 w2) : Rut w O P M2 w2 :=
  ⟨k.1, h.2.trans (k.2.mono fun _ _ hk => .inl hk)⟩
/-- One number. -/
theorem RfA.set {w : World} {O : Nat → Prop} {P A c : Nat} {M : Nat → Int} (h : RfA w O P A c M) (p : Nat) {v : Int} (hv : 0 ≤ v ∧ v ≤ 1073741824) : RfA (w.setCell ⟨A, p, none⟩ (.int .i64 v)) O P A c (setP M p v) :=
  ⟨h.wf.setP hv p, h.p.other h.ne _, (h.a.set p (.int .i64 v)).congr fun i _ => by
    unfold setP
    split <;> rfl, h.op, h.oa, h.ne, fun k hk => by rw [World.size_setCell]; exact h.lt k hk⟩

theorem info3r : (Try.prog.info? 3).map (fun i => (i.zero, i.size, i.bytes)) = some (some (.int .i64 0), 1, 8) := by kernel_rfl
def rows (w : World) : World := w.alloc (.cells (madeCells #[.int .i64 0] 1024) 3)
theorem rows_eq (w : World) : rows w = w.alloc (.cells (madeCells #[.int .i64 0] 1024) 3) := rfl
theorem rows_below (w : World) : Below w.heap.size w (rows w) := bnew w _
theorem rows_size (w : World) : (rows w).heap.size = w.heap.size + 1 := by rw [rows_eq]; simp
theorem madeCells_get (z : Array Value) (n j : Nat) (hj : j < n) : (madeCells z n)[j]? = some z[j % z.size]! := by simp [madeCells, hj]
theorem rows_cl (w : World) : Cl (rows w) w.heap.size 1024 (fun i => .int .i64 (noM i)) := by
  rw [rows_eq]
  have hA : (w.alloc (.cells (madeCells #[.int .i64 0] 1024) 3)).heap[w.heap.size]? = some (.cells (madeCells #[.int .i64 0] 1024) 3) := by
    show (w.heap.push _)[w.heap.size]? = _
    rw [Array.getElem?_push, if_pos rfl]
  generalize w.alloc (.cells (madeCells #[.int .i64 0] 1024) 3) = W at hA ⊢
  refine ⟨fun i hi => ?_, fun i _ => by simp [World.frozen?, hA], _, _, _, hA, by decide⟩
  have e : W.cell? ⟨w.heap.size, i, none⟩ = (madeCells #[.int .i64 0] 1024)[i]? := by simp [World.cell?, hA]
  rw [e, madeCells_get _ _ _ hi]
  simp [Nat.mod_one, noM]

set_option maxRecDepth 100000 in
set_option maxHeartbeats 1000000 in
theorem rnew_any (w : World) : Calls Try.prog 15 #[] w fun e w' => ∃ P, e = .returned (.pointer (some ⟨P, 0, none⟩)) ∧ Below w.heap.size w w' ∧ Rf w' (Nw w w') P noM := by
  obtain ⟨i3, hi3, hz0, hz1, hz2⟩ := info_parts info3r
  have hmk := fun w => run_make (P := Try.prog) w 61 3 i3 (.int .i64 0) Try.underlying61 hi3 hz0 .i64 .i64 1024 1024 (by omega) (Int.le_refl _) (by rw [hz2]; omega) (by omega)
  rw [hz1] at hmk
  simp only [Value.cells, Nat.mul_one] at hmk
  have e1024 : (1024 : Int).toNat = 1024 := rfl
  rw [e1024] at hmk
  clear e1024 hi3 hz0 hz1 hz2
  simp only [← rows_eq] at hmk
  have hsz := rows_size w
  have HB := Lib.hid (rows_below w)
  have HC := Lib.hid (rows_cl w)
  have HS := Lib.hid hsz
  clear hsz
  go_enter Try.func15, Try.ntmps15
  go_wp2_with fail
  go_ret
  obtain ⟨W, hW⟩ : ∃ W, rows w = W := ⟨_, rfl⟩
  have hs := HS.out
  have hb := HB.out
  have hc := HC.out
  rw [hW] at hs hb hc ⊢
  refine ⟨W.heap.size, rfl, hb.alloc hb.size _, w.heap.size, 1024, noM_wf, ?_, hc.alloc _, ⟨by omega, by simp⟩, ⟨Nat.le_refl _, by simp; omega⟩, by omega, fun k hk => hk.2⟩
  exact Cl.new (cs := #[.slice (some ⟨w.heap.size, 0, none⟩) 1024 1024]) (t := 63) (n := 1) (f := fun _ => .slice (some ⟨w.heap.size, 0, none⟩) 1024 1024) W (by decide) (fun i hi => by cases (show i = 0 by omega); rfl)

set_option maxHeartbeats 400000 in
theorem rmade_any {O : Nat → Prop} {P : Nat} {M : Nat → Int} {w : World} (h : Rf w O P M) : Calls Try.prog 36 #[.pointer (some ⟨P, 0, none⟩)] w fun e w' => e = .returned (.bool true) ∧ w = w' := by
  obtain ⟨A, c, h⟩ := h
  have c0 := h.p.cell 0 (by omega)
  clear h
  go_enter Try.func36, Try.ntmps36
  go_wp2
  go_ret
  exact ⟨rfl, rfl⟩

def putD (M : Nat → Int) (s n v : Int) : Nat → Int := if insB s n = true then setR M s.toNat n.toNat v else M
set_option maxRecDepth 100000 in
set_option maxHeartbeats 1000000 in
theorem rput_any {O : Nat → Prop} {P : Nat} {M : Nat → Int} {w : World} (s n v : Int) (h : Rf w O P M) (hv : 0 ≤ v ∧ v ≤ 1073741824) :
    Calls Try.prog 47 #[.pointer (some ⟨P, 0, none⟩), .int .i64 s, .int .i64 n, .int .i64 v] w fun e w' => e = .returned (.int .i64 (clrE s n)) ∧ Rut w O P (putD M s n v) w' := by
  by_cases hi : insB s n = true
  · obtain ⟨h1, h2, h3⟩ := (insB_iff _ _).1 hi
    have HE := Lib.hid (show clrE s n = 0 from if_pos hi)
    have HD := Lib.hid (show putD M s n v = setR M s.toNat n.toNat v from if_pos hi)
    obtain ⟨s, rfl⟩ : ∃ q : Nat, s = (q : Int) := ⟨s.toNat, by omega⟩
    obtain ⟨n, rfl⟩ : ∃ q : Nat, n = (q : Int) := ⟨n.toNat, by omega⟩
    rw [Int.toNat_natCast, Int.toNat_natCast] at HD
    obtain ⟨A, c, hA⟩ := h
    have hA0 : RfA w O P A c (setR M s 0 v) := by rw [setR_zero]; exact hA
    have HA0 := Lib.hid hA0
    have hsn : s + n ≤ 1024 := by omega
    have E1 := Lib.hid (w64 (1024 - (s : Int)) (by omega))
    have E2 := Lib.hid (w64 ((s : Int) + (n : Int)) (by omega))
    have HV := Lib.hid hv
    clear hi hA hA0 hv
    obtain ⟨q1, q2⟩ := E1.out
    obtain ⟨q3, q4⟩ := E2.out
    go_enter Try.func47, Try.ntmps47
    go_wp2_with fail
    clear q1 q2 h1 h2 h3
    go_loopw [9] (fun i wr => ∃ k : Nat, k ≤ n ∧ i = .int .i64 ((s + k : Nat) : Int) ∧ RfA wr O P A c (setR M s k v) ∧ Keep O w wr) (fun i _ => s + n - (intOf i).toNat)
    case atStart => exact ⟨0, by omega, rfl, HA0.out, Keep.refl _ _⟩
    case round =>
      obtain ⟨k, hk, rfl, hR, hK⟩ := hrel
      have HR := Lib.hid hR
      have HK := Lib.hid hK
      by_cases hlt : k < n
      · have c0 := hR.p.cell 0 (by omega)
        have c1 := hR.a.cell (s + k) (by omega)
        have c2 := hR.a.free (s + k) (by omega)
        have hst := hR.set (s + k) HV.out
        rw [setP_setR] at hst
        have HST := Lib.hid hst
        have HKS := Lib.hid (hK.set (a := ⟨A, s + k, none⟩) (.inl hR.oa) (.int .i64 v))
        have hb : ((s + k : Nat) : Int) < 1024 := by omega
        clear hR hK hst
        go_wp2_with fail
        go_roundw
        case rel => exact ⟨k + 1, by omega, by go_num, HST.out, HKS.out⟩
        case measure => simp [intOf]; omega
      · obtain rfl : k = n := by omega
        clear hR hK
        go_wp2_with fail
        go_ret
        exact ⟨ret_int HE.out.symm, ⟨A, c, by rw [HD.out]; exact HR.out⟩, HK.out⟩
  · have HE := Lib.hid (show clrE s n = 1 from if_neg hi)
    have HD := Lib.hid (show putD M s n v = M from if_neg hi)
    have HS := Lib.hid (Rut.same h)
    have hn : s < 0 ∨ ¬ s < 0 ∧ n < 1 ∨ ¬ s < 0 ∧ ¬ n < 1 ∧ 1024 ≤ s ∨ ¬ s < 0 ∧ ¬ n < 1 ∧ ¬ 1024 ≤ s ∧ 1024 - s < n := by
      have := mt (insB_iff s n).2 hi
      omega
    have fin : ∀ W, W = w → (Ending.returned (.int .i64 1) = .returned (.int .i64 (clrE s n)) ∧ Rut w O P (putD M s n v) W) := fun W e => ⟨ret_int HE.out.symm, by rw [e, HD.out]; exact HS.out⟩
    have FIN := Lib.hid fin
    clear hi h fin
    rcases hn with a | ⟨a, b⟩ | ⟨a, b, c⟩ | ⟨a, b, c, d⟩
    · go_enter Try.func47, Try.ntmps47
      go_wp2_with fail
      go_ret
      exact FIN.out _ rfl
    · go_enter Try.func47, Try.ntmps47
      go_wp2_with fail
      go_ret
      exact FIN.out _ rfl
    · go_enter Try.func47, Try.ntmps47
      go_wp2_with fail
      go_ret
      exact FIN.out _ rfl
    · have E1 := Lib.hid (w64 (1024 - s) (by omega))
      obtain ⟨q1, q2⟩ := E1.out
      go_enter Try.func47, Try.ntmps47
      go_wp2_with fail
      go_ret
      exact FIN.out _ rfl

set_option maxHeartbeats 1000000 in
theorem rset_any {O : Nat → Prop} {P : Nat} {M : Nat → Int} {w : World} (s n v : Int) (h : Rf w O P M) :
    Calls Try.prog 37 #[.pointer (some ⟨P, 0, none⟩), .int .i64 s, .int .i64 n, .int .i64 v] w fun e w' => e = .returned (.int .i64 (setE s n v)) ∧ Rut w O P (setD M s n v) w' := by
  have HM := Lib.hid (rmade_any h)
  by_cases hv : noB v = true
  · obtain ⟨v1, v2⟩ := (noB_iff v).1 hv
    have HP := Lib.hid (rput_any s n v h (by omega))
    have HE := Lib.hid (show setE s n v = clrE s n by unfold setE clrE; rw [hv]; simp)
    have HD := Lib.hid (show setD M s n v = putD M s n v by unfold setD putD; rw [hv]; simp)
    clear hv h
    go_enter Try.func37, Try.ntmps37
    go_wp2_with (first | (go_at_call 36; refine HM.out.mono ?_; rintro e w1 ⟨rfl, rfl⟩) | (go_at_call 47; refine HP.out.mono ?_; rintro e w1 ⟨rfl, hM1⟩; have HM1 := Lib.hid hM1; clear hM1))
    go_ret
    exact ⟨ret_int HE.out.symm, by rw [HD.out]; exact HM1.out⟩
  · have HE := Lib.hid (show setE s n v = 1 from if_neg (fun h => hv h.2))
    have HD := Lib.hid (show setD M s n v = M from if_neg (fun h => hv h.2))
    have HS := Lib.hid (Rut.same h)
    have hn : v < 1 ∨ ¬ v < 1 ∧ 1073741824 < v := by
      have := mt (noB_iff v).2 hv
      omega
    clear hv h
    rcases hn with a | ⟨a, b⟩
    · go_enter Try.func37, Try.ntmps37
      go_wp2_with (go_at_call 36; refine HM.out.mono ?_; rintro e w1 ⟨rfl, rfl⟩)
      go_ret
      exact ⟨ret_int HE.out.symm, by rw [HD.out]; exact HS.out⟩
    · go_enter Try.func37, Try.ntmps37
      go_wp2_with (go_at_call 36; refine HM.out.mono ?_; rintro e w1 ⟨rfl, rfl⟩)
      go_ret
      exact ⟨ret_int HE.out.symm, by rw [HD.out]; exact HS.out⟩

set_option maxHeartbeats 1000000 in
theorem rclear_any {O : Nat → Prop} {P : Nat} {M : Nat → Int} {w : World} (s n : Int) (h : Rf w O P M) :
    Calls Try.prog 38 #[.pointer (some ⟨P, 0, none⟩), .int .i64 s, .int .i64 n] w fun e w' => e = .returned (.int .i64 (clrE s n)) ∧ Rut w O P (clrD M s n) w' := by
  have HM := Lib.hid (rmade_any h)
  have HP := Lib.hid (rput_any s n 0 h (by omega))
  clear h
  go_enter Try.func38, Try.ntmps38
  go_wp2_with (first | (go_at_call 36; refine HM.out.mono ?_; rintro e w1 ⟨rfl, rfl⟩) | (go_at_call 47; refine HP.out.mono ?_; rintro e w1 ⟨rfl, hM1⟩; have HM1 := Lib.hid hM1; clear hM1))
  go_ret
  exact ⟨rfl, HM1.out⟩

end Go.Proofs.Ytdjfeibcbmelcaa
