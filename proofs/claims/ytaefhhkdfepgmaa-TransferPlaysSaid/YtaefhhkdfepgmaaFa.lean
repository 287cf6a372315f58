/- The statements' helpers: lists compared; calls in memory; great. -/
import Derived.Test.YtaefhhkdfepgmaaRc
namespace Go.Proofs.Ytaefhhkdfepgmaa
open Go.RowKit Go.Lib

def Yes (w : World) (e : Ending) (w' : World) : Prop := e = .returned (.bool true) ∧ Below w.heap.size w w'
set_option maxRecDepth 100000 in
set_option maxHeartbeats 1000000 in
theorem Ints_any {P P' : Nat → Prop} (A A' : Option Addr) (c c' : Nat) (L : List Int) (w : World) (hl : L.length ≤ 32768) (hT : IAt P w A L) (hT' : IAt P' w A' L) :
    Calls Try.prog 21 #[.slice A L.length c, .slice A' L.length c'] w (Yes w) := by
  have HT := Lib.hid hT
  have HT' := Lib.hid hT'
  obtain ⟨n, hn⟩ : ∃ n, L.length = n := ⟨_, rfl⟩
  have HN := Lib.hid hn
  rw [hn] at hl ⊢
  clear hT hT' hn
  go_enter Try.func21, Try.ntmps21
  go_wp2
  go_loopw [5] (fun i wr => ∃ k : Nat, k ≤ n ∧ i = .int .i64 k ∧ Below w.heap.size w wr) (fun i _ => n - (intOf i).toNat)
  case atStart => exact ⟨0, by omega, rfl, Below.refl _ _⟩
  case round =>
    obtain ⟨k, hk, rfl, hB⟩ := hrel
    by_cases hlt : k < n
    · obtain ⟨x, hx⟩ : ∃ x, L[k]? = some x := ⟨_, List.getElem?_eq_getElem (by rw [HN.out]; exact hlt)⟩
      obtain ⟨g, o, rfl, _, _, g1, _⟩ := (HT.out.below hB) k x hx
      obtain ⟨g', o', rfl, _, _, f1, _⟩ := (HT'.out.below hB) k x hx
      clear hx
      go_wp2_with fail
      go_quiet (fail)
      go_wp2_with fail
      go_roundw
      case rel => exact ⟨k + 1, by omega, by go_num, belowN hB _⟩
      case measure => simp [intOf]; omega
    · go_wp2_with fail
      go_ret
      exact ⟨rfl, hB⟩

set_option maxRecDepth 100000 in
set_option maxHeartbeats 4000000 in
theorem rSame_any {P P' : Nat → Prop} (A A' : Option Addr) (c c' : Nat) (L : List (List Int)) (w : World) (hl : L.length ≤ 8) (h60 : ∀ x ∈ L, x.length ≤ 60) (hT : LAt P w A L) (hT' : LAt P' w A' L) :
    Calls Try.prog 24 #[.slice A L.length c, .slice A' L.length c'] w (Yes w) := by
  have HT := Lib.hid hT
  have HT' := Lib.hid hT'
  have H60 := Lib.hid h60
  obtain ⟨n, hn⟩ : ∃ n, L.length = n := ⟨_, rfl⟩
  have HN := Lib.hid hn
  rw [hn] at hl ⊢
  clear hT hT' hn h60
  go_enter Try.func24, Try.ntmps24
  go_wp2
  go_loopw [5] (fun i wr => ∃ k : Nat, k ≤ n ∧ i = .int .i64 k ∧ Below w.heap.size w wr) (fun i _ => n - (intOf i).toNat)
  case atStart => exact ⟨0, by omega, rfl, Below.refl _ _⟩
  case round =>
    obtain ⟨k, hk, rfl, hB⟩ := hrel
    by_cases hlt : k < n
    · obtain ⟨x, hx⟩ : ∃ x, L[k]? = some x := ⟨_, List.getElem?_eq_getElem (by rw [HN.out]; exact hlt)⟩
      obtain ⟨g, o, A1, c1, rfl, _, _, g1, i1⟩ := HT.out k x hx
      obtain ⟨g', o', A2, c2, rfl, _, _, f1, i2⟩ := HT'.out k x hx
      have hxl := H60.out x (List.mem_of_getElem? hx)
      have HC := Lib.hid (fun W (hb : Below w.heap.size w W) => And.intro ((hb.cell (p := ⟨g, _, none⟩) (World.block_lt_of_cell? _ _ g1)).trans g1) ((hb.cell (p := ⟨g', _, none⟩) (World.block_lt_of_cell? _ _ f1)).trans f1))
      have HI1 := Lib.hid i1
      have HI2 := Lib.hid i2
      obtain ⟨m, hm⟩ : ∃ m, x.length = m := ⟨_, rfl⟩
      have HM := Lib.hid hm
      rw [hm] at HC hxl
      clear hx g1 f1 i1 i2 hm
      obtain ⟨d1, d2⟩ := HC.out _ hB
      go_wp2_with fail
      go_quiet (fail)
      have HB := Lib.hid (belowN hB nq)
      clear d1 d2
      go_wp2_with fail
      go_loopw [6] (fun i wr => ∃ j : Nat, j ≤ m ∧ i = .int .i64 j ∧ Below w.heap.size w wr) (fun i _ => m - (intOf i).toNat)
      case atStart => exact ⟨0, by omega, rfl, HB.out⟩
      case round =>
        obtain ⟨j, hj, rfl, hB2⟩ := hrel
        obtain ⟨d1, d2⟩ := HC.out _ hB2
        by_cases hlt2 : j < m
        · obtain ⟨y, hy⟩ : ∃ y, x[j]? = some y := ⟨_, List.getElem?_eq_getElem (by rw [HM.out]; exact hlt2)⟩
          obtain ⟨g3, o3, rfl, _, _, k1, _⟩ := (HI1.out.below hB2) j y hy
          obtain ⟨g4, o4, rfl, _, _, k2, _⟩ := (HI2.out.below hB2) j y hy
          clear hy
          go_wp2_with fail
          go_quiet (fail)
          go_wp2_with fail
          go_roundw
          case rel => exact ⟨j + 1, by omega, by go_num, belowN hB2 _⟩
          case measure => simp [intOf]; omega
        · go_wp2_with fail
          go_roundw
          case rel => exact ⟨k + 1, by omega, by go_num, hB2⟩
          case measure => simp [intOf]; omega
    · go_wp2_with fail
      go_ret
      exact ⟨rfl, hB⟩

/-- A call of the statements, as a value whose list lies below N. -/
structure AkV (w : World) (N : Nat) (x : Ak) (u : Value) : Prop where
  k : InR x.k
  n : x.l.length ≤ 9223372036854775807
  v : ∃ (A : Option Addr) (c : Nat), u = .slice A x.l.length c ∧ IAt (fun k => k < N) w A x.l
theorem IAt.low {w w' : World} {N : Nat} {A : Option Addr} {l : List Int} (h : IAt (fun k => k < N) w A l) (hb : Below N w w') : IAt (fun k => k < N) w' A l := fun i a hi => by
  obtain ⟨g, o, e, h1, h2, h3, h4⟩ := h i a hi
  exact ⟨g, o, e, Nat.lt_of_lt_of_le h1 hb.size, h2, (hb.cell (p := ⟨g, _, none⟩) h2).trans h3, h4⟩
theorem AkV.below {w w' : World} {N : Nat} {x : Ak} {u : Value} (h : AkV w N x u) (hb : Below N w w') : AkV w' N x u := by
  obtain ⟨A, c, e, hz⟩ := h.v
  exact ⟨h.k, h.n, A, c, e, hz.low hb⟩
/-- The slice's cells hold the calls, in blocks below N. -/
def ActsAt (w : World) (N : Nat) (A : Option Addr) (l : List Ak) : Prop :=
  ∀ (k : Nat) (x : Ak), l[k]? = some x → ∃ (b o : Nat) (u : Value), A = some ⟨b, o, none⟩ ∧ b < N ∧ w.cell? ⟨b, o + k * 2, none⟩ = some (.int .i64 x.k) ∧ w.cell? ⟨b, o + k * 2 + 1, none⟩ = some u ∧ AkV w N x u
theorem ActsAt.below {w w' : World} {N : Nat} {A : Option Addr} {l : List Ak} (h : ActsAt w N A l) (hb : Below N w w') : ActsAt w' N A l := fun k x hk => by
  obtain ⟨b, o, u, e, hB, h1, h2, h4⟩ := h k x hk
  exact ⟨b, o, u, e, hB, (hb.cell (p := ⟨b, _, none⟩) hB).trans h1, (hb.cell (p := ⟨b, _, none⟩) hB).trans h2, h4.below hb⟩
theorem ActsAt.nil (w : World) (N : Nat) (A : Option Addr) : ActsAt w N A [] := fun k x hk => by simp at hk

def grB (l : List Ak) : Bool := l.any (fun x => decide (60 < x.l.length)) || decide (60 < l.length)
theorem grB_no {l : List Ak} (h : grB l = false) : l.length ≤ 60 ∧ ∀ (k : Nat) (x : Ak), l[k]? = some x → x.l.length ≤ 60 := by
  unfold grB at h
  rw [Bool.or_eq_false_iff, List.any_eq_false, decide_eq_false_iff_not] at h
  refine ⟨by omega, fun k x hk => ?_⟩
  have := h.1 x (List.mem_of_getElem? hk)
  simp only [decide_eq_true_eq] at this
  omega
set_option maxRecDepth 100000 in
set_option maxHeartbeats 1000000 in
theorem great_any {N : Nat} (A : Option Addr) (c : Nat) (l : List Ak) (w : World) (hl : l.length ≤ 9223372036854775807) (hA : ActsAt w N A l) : Calls Try.prog 9 #[.slice A l.length c] w fun e w' => e = .returned (.bool (grB l)) ∧ w = w' := by
  obtain ⟨n, hn⟩ : ∃ n, l.length = n := ⟨_, rfl⟩
  have HN := Lib.hid hn
  have HA := Lib.hid hA
  rw [hn] at hl ⊢
  clear hA hn
  go_enter Try.func9, Try.ntmps9
  go_wp2
  go_loopw [3] (fun i wr => ∃ k : Nat, k ≤ n ∧ i = .int .i64 k ∧ w = wr ∧ (l.take k).any (fun x => decide (60 < x.l.length)) = false) (fun i _ => n - (intOf i).toNat)
  case atStart => exact ⟨0, by omega, rfl, rfl, rfl⟩
  case round =>
    obtain ⟨k, hk, rfl, rfl, hno⟩ := hrel
    have HNO := Lib.hid hno
    by_cases hlt : k < n
    · obtain ⟨x, hx⟩ : ∃ x, l[k]? = some x := ⟨_, List.getElem?_eq_getElem (by have := HN.out; omega)⟩
      obtain ⟨b, o, u, rfl, _, _, h3, hv⟩ := HA.out k x hx
      obtain ⟨B, cb, rfl, _⟩ := hv.v
      have hxn := hv.n
      have HX := Lib.hid hx
      clear hv hno hx
      by_cases h60 : 60 < x.l.length
      · have HR := Lib.hid (show grB l = true from by
          unfold grB
          rw [Bool.or_eq_true]
          exact .inl (List.any_eq_true.2 ⟨x, List.mem_of_getElem? HX.out, by simpa using h60⟩))
        generalize x.l.length = xn at *
        have d1 : decide (60 < (xn : Int)) = true := decide_eq_true (by omega)
        clear h60
        go_wp2_with fail
        go_ret
        exact ⟨ret_bool HR.out.symm, rfl⟩
      · have HT := Lib.hid (show (l.take (k + 1)).any (fun x => decide (60 < x.l.length)) = false from by
          rw [List.take_add_one, HX.out, List.any_append, HNO.out]; simp; omega)
        generalize x.l.length = xn at *
        have d1 : decide (60 < (xn : Int)) = false := decide_eq_false (by omega)
        clear h60
        go_wp2_with fail
        go_roundw
        case rel => exact ⟨k + 1, by omega, by go_num, trivial, HT.out⟩
        case measure => simp [intOf]; omega
    · obtain rfl : k = n := by omega
      have HR := Lib.hid (show grB l = decide (60 < k) from by
        unfold grB
        rw [List.take_of_length_le (by rw [HN.out]; exact Nat.le_refl _)] at hno
        rw [hno, Bool.false_or, HN.out])
      clear hno
      go_wp2_with fail
      go_ret
      refine ⟨ret_bool ?_, rfl⟩
      rw [HR.out]
      simp
      omega
end Go.Proofs.Ytaefhhkdfepgmaa
