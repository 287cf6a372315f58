/- Package span: mark, the library's Index, Take, Put. -/
import Derived.Test.YtejfoefhaphacaaGreatLc
namespace Go.Proofs.YtejfoefhaphacaaGreat
open Go.RowKit

/-- Several objects are given a state. -/
def setL (m : Mo) (L : List Nat) (x : Bool) : Mo := L.foldl (fun m k => m.set k x) m
theorem setL_snoc (m : Mo) (L : List Nat) (k : Nat) (x : Bool) : setL m (L ++ [k]) x = (setL m L x).set k x := by unfold setL; rw [List.foldl_append]; rfl
theorem setL_n (L : List Nat) (x : Bool) : ∀ m : Mo, (setL m L x).n = m.n := by
  induction L with
  | nil => intro m; rfl
  | cons k t ih => intro m; exact (ih (m.set k x)).trans rfl
theorem setL_take {m : Mo} {L : List Nat} {k y : Nat} {x : Bool} (h : L[k]? = some y) : setL m (L.take (k + 1)) x = (setL m (L.take k) x).set y x := by
  rw [List.take_add_one, h]
  exact setL_snoc _ _ _ _
def u8 (x : Bool) : Int := if x then 1 else 0

set_option maxRecDepth 100000 in
set_option maxHeartbeats 1000000 in
theorem mark_any {O : Nat → Prop} {B A c : Nat} {m : Mo} {w : World} (h : SpA false w O B A c m) (x : Bool) (sl : Option Addr) (cap : Nat) (L : List Nat) (hlen : L.length ≤ 1000000)
    (hL : ∀ i y : Nat, L[i]? = some y → y < m.n ∧ ∃ g, sl = some ⟨g, 0, none⟩ ∧ g ≠ A ∧ g < w.heap.size ∧ w.cell? ⟨g, i, none⟩ = some (.int .i64 y)) :
    Calls Tryz.prog 55 #[.pointer (some ⟨B, 0, none⟩), .int .u8 (u8 x), .slice sl L.length cap] w fun e w' => (∃ v, e = .returned v) ∧ SpA false w' O B A c (setL m L x) ∧ Keep (fun k => k = A) w w' := by
  have HL := Lib.hid hL
  have H0 := Lib.hid h
  have hn2 := h.wf.n2
  have HZ := Lib.hid (show aF false x = .int .u8 (u8 x) from rfl)
  obtain ⟨n, hn⟩ : ∃ n, L.length = n := ⟨_, rfl⟩
  have HN := Lib.hid hn
  rw [hn] at hlen ⊢
  clear h hL hn
  go_enter Tryz.func55, Tryz.ntmps55
  go_wp2_with fail
  go_loopw [10] (fun i wr => ∃ k : Nat, k ≤ n ∧ i = .int .i64 k ∧ SpA false wr O B A c (setL m (L.take k) x) ∧ Keep (fun k => k = A) w wr) (fun i _ => n - (intOf i).toNat)
  case atStart => exact ⟨0, by omega, rfl, H0.out, Keep.refl _ _⟩
  case round =>
    obtain ⟨k, hk, rfl, hS, hK⟩ := hrel
    by_cases hlt : k < n
    · obtain ⟨y, hy⟩ : ∃ y, L[k]? = some y := ⟨_, List.getElem?_eq_getElem (by rw [HN.out]; exact hlt)⟩
      obtain ⟨hyn, g, rfl, hgA, hgw, hgc⟩ := HL.out k y hy
      have hcg : wr.cell? ⟨g, k, none⟩ = some (.int .i64 y) := (World.cell?_of_block (a := ⟨g, k, none⟩) (hK.block g hgw hgA)).trans hgc
      have c4 : wr.cell? ⟨B, 4, none⟩ = some (.slice (some ⟨A, 0, none⟩) m.n c) := by
        have := hS.cells.2.2.2.2
        rw [this]
        show some (Value.slice (some ⟨A, 0, none⟩) (setL m (L.take k) x).n c) = _
        rw [setL_n]
      have cy := hS.a.cell y (by rw [setL_n]; exact hyn)
      have cf := hS.a.free y (by rw [setL_n]; exact hyn)
      have hst := hS.set y x
      rw [← setL_take hy] at hst
      have HST := Lib.hid hst
      have HKS := Lib.hid (hK.set (a := ⟨A, y, none⟩) (.inl rfl) (aF false x))
      rw [HZ.out] at HST HKS
      generalize aF false ((setL m (L.take k) x).f y) = V at cy
      generalize u8 x = X at *
      generalize m.n = mn at *
      clear hS hK hst hy hgc HL HN
      go_wp2_with fail
      go_roundw
      case rel => exact ⟨k + 1, by omega, by go_num, HST.out, HKS.out⟩
      case measure => simp [intOf]; omega
    · obtain rfl : k = n := by omega
      have e : L.take k = L := List.take_of_length_le (by rw [HN.out]; exact Nat.le_refl _)
      rw [e] at hS
      have HS := Lib.hid hS
      have HK := Lib.hid hK
      clear hS hK e
      go_wp2_with fail
      go_end0
      exact ⟨⟨_, rfl⟩, HS.out, HK.out⟩

def ffI (m : Mo) : Int := match ff m with
  | some k => k
  | none => -1
theorem ffI_some {m : Mo} {k : Nat} (h : ff m = some k) : ffI m = k := by simp only [ffI, h]
theorem ffI_none {m : Mo} (h : ff m = none) : ffI m = -1 := by simp only [ffI, h]
set_option maxRecDepth 100000 in
set_option maxHeartbeats 1000000 in
theorem index_any {O : Nat → Prop} {B A c : Nat} {m : Mo} {w : World} (h : SpA false w O B A c m) :
    Calls Tryz.prog 83 #[.slice (some ⟨A, 0, none⟩) m.n c, .int .u8 0] w fun e w' => e = .returned (.int .i64 (ffI m)) ∧ w = w' := by
  have hn2 := h.wf.n2
  have HA := Lib.hid h.a
  clear h
  obtain ⟨n, hn⟩ : ∃ n, m.n = n := ⟨_, rfl⟩
  have HN := Lib.hid hn
  rw [hn] at hn2 HA ⊢
  clear hn
  go_enter Tryz.func83, Tryz.ntmps83
  go_wp2_with fail
  go_loopw [8] (fun i wr => ∃ k : Nat, k ≤ n ∧ i = .int .i64 k ∧ wr = w ∧ ∀ j, j < k → m.f j = true) (fun i _ => n - (intOf i).toNat)
  case atStart => exact ⟨0, by omega, rfl, rfl, fun j hj => by omega⟩
  case round =>
    obtain ⟨k, hk, rfl, rfl, hon⟩ := hrel
    by_cases hlt : k < n
    · have cy := HA.out.cell k hlt
      cases hf : m.f k with
      | true =>
        rw [hf] at cy
        replace cy : wr.cell? ⟨A, k, none⟩ = some (.int .u8 1) := cy
        have HON := Lib.hid hon
        have HF := Lib.hid hf
        clear hon hf
        go_wp2_with fail
        go_roundw
        case rel => exact ⟨k + 1, by omega, by go_num, trivial, fun j hj => by
          by_cases e : j = k
          · rw [e]; exact HF.out
          · exact HON.out j (by omega)⟩
        case measure => simp [intOf]; omega
      | false =>
        rw [hf] at cy
        replace cy : wr.cell? ⟨A, k, none⟩ = some (.int .u8 0) := cy
        have HE := Lib.hid (ffI_some (ff_some (m := m) (k := k) (by rw [HN.out]; exact hlt) hf hon))
        clear hon hf
        go_wp2_with fail
        go_ret
        exact ⟨by rw [HE.out]; rfl, rfl⟩
    · have HE := Lib.hid (ffI_none (ff_none (m := m) (fun j hj => hon j (by have := HN.out; omega))))
      clear hon
      go_wp2_with fail
      go_ret
      exact ⟨by rw [HE.out]; rfl, rfl⟩

section
variable {m : Mo} {a : Int} {k : Nat}
theorem tkV_some (h : ff m = some k) : tkV (some m) = adr m k := by simp only [tkV, h]
theorem tkE_some (h : ff m = some k) : tkE (some m) = 0 := by simp only [tkE, h]
theorem tkD_some (h : ff m = some k) : tkD (some m) = some (m.set k true) := by simp only [tkD, h]
theorem tkV_none (h : ff m = none) : tkV (some m) = 0 := by simp only [tkV, h]
theorem tkE_none (h : ff m = none) : tkE (some m) = 6 := by simp only [tkE, h]
theorem tkD_none (h : ff m = none) : tkD (some m) = some m := by simp only [tkD, h]
theorem ptE_none (h : obO m a = none) : ptE (some m) a = 8 := by simp only [ptE, h]
theorem ptD_none (h : obO m a = none) : ptD (some m) a = some m := by simp only [ptD, h]
theorem ptE_on (h : obO m a = some k) (hf : m.f k = true) : ptE (some m) a = 0 := by simp only [ptE, h, hf, if_true]
theorem ptD_on (h : obO m a = some k) (hf : m.f k = true) : ptD (some m) a = some (m.set k false) := by simp only [ptD, h, hf, if_true]
theorem ptE_off (h : obO m a = some k) (hf : m.f k = false) : ptE (some m) a = 9 := by simp [ptE, h, hf]
theorem ptD_off (h : obO m a = some k) (hf : m.f k = false) : ptD (some m) a = some m := by simp [ptD, h, hf]
end

/-- One object in a list of its own. -/
theorem one_int (w : World) (k : Nat) (n : Nat) (A : Nat) (hk : k < n) (hA : A < w.heap.size) : ∀ i y : Nat, [k][i]? = some y → y < n ∧ ∃ g, (some ⟨w.heap.size, 0, none⟩ : Option Addr) = some ⟨g, 0, none⟩ ∧ g ≠ A ∧ g < (w.alloc (.cells #[.int .i64 k] 3)).heap.size ∧ (w.alloc (.cells #[.int .i64 k] 3)).cell? ⟨g, i, none⟩ = some (.int .i64 y) := by
  intro i y h
  have hi : i = 0 := by
    have := (List.getElem?_eq_some_iff.1 h).1
    simpa using this
  subst hi
  cases h
  exact ⟨hk, _, rfl, by omega, by simp, by go_simp⟩

set_option maxRecDepth 100000 in
set_option maxHeartbeats 1000000 in
theorem Take_any {O : Nat → Prop} {v : Value} {om : Option Mo} {w : World} (h : Ob false w O v om) :
    Calls Tryz.prog 47 #[v] w fun e w' => e = .returned (.tuple #[.int .i64 (tkV om), .int .i64 (tkE om)]) ∧ Mut false w O v (tkD om) w' := by
  cases om with
  | none =>
    have HM := Lib.hid (made_no h.1)
    have H := Lib.hid h
    clear h
    go_enter Tryz.func47, Tryz.ntmps47
    go_wp2_with (go_at_call 54; refine HM.out.mono ?_; rintro e w1 ⟨rfl, rfl⟩)
    go_ret2
    exact ⟨rfl, H.out, Keep.refl _ _⟩
  | some m =>
    obtain ⟨B, A, c, rfl, h⟩ := h
    have HM := Lib.hid (made_any h)
    have HI := index_any h
    have c4 : w.cell? ⟨B, 4, none⟩ = some (.slice (some ⟨A, 0, none⟩) m.n c) := h.cells.2.2.2.2
    have H := Lib.hid h
    have hAw := h.lt A h.oa
    cases e : ff m with
    | none =>
      rw [tkV_none e, tkE_none e, tkD_none e]
      rw [ffI_none e] at HI
      have HI := Lib.hid HI
      clear h e
      go_enter Tryz.func47, Tryz.ntmps47
      go_wp2_with (first | (go_at_call 54; refine HM.out.mono ?_; rintro e w1 ⟨rfl, rfl⟩) | (go_at_call 83; refine HI.out.mono ?_; rintro e w1 ⟨rfl, rfl⟩))
      go_ret2
      exact ⟨rfl, H.out.ob', Keep.refl _ _⟩
    | some k =>
      rw [tkV_some e, tkE_some e, tkD_some e]
      rw [ffI_some e] at HI
      obtain ⟨hk, _, _⟩ := ff_get e
      have hkn := h.wf.n2
      have HK := Lib.hid (mark_any (h.below (bnew w (.cells #[.int .i64 k] 3))) true (some ⟨w.heap.size, 0, none⟩) 1 [k] (by simp) (one_int w k m.n A hk hAw))
      have HA := Lib.hid (fun (w1 : World) (hS : SpA false w1 O B A c (m.set k true)) => addr_any hS k (by show k ≤ m.n; omega))
      have HI := Lib.hid HI
      clear h e
      rw [show u8 true = 1 from rfl, show ([k] : List Nat).length = 1 from rfl] at HK
      go_enter Tryz.func47, Tryz.ntmps47
      go_wp2_with (first | (go_at_call 54; refine HM.out.mono ?_; rintro e w1 ⟨rfl, rfl⟩) | (go_at_call 83; refine HI.out.mono ?_; rintro e w1 ⟨rfl, rfl⟩) | (go_at_call 55; refine HK.out.mono ?_; rintro e w1 ⟨⟨v, rfl⟩, hS1, hK1⟩; have HS1 := Lib.hid hS1; have HK1 := Lib.hid hK1; clear hS1 hK1) | (go_at_call 84; refine (HA.out _ HS1.out).mono ?_; rintro e w2 ⟨rfl, nq, rfl⟩))
      go_ret2
      refine ⟨rfl, ?_, ?_⟩
      · exact (HS1.out.below (belowN (Below.refl _ _) _)).ob'
      · have hk := (Keep.of (O := O) (bnew w (.cells #[.int .i64 k] 3))).trans (HK1.out.mono fun _ _ hx => .inl (by rw [hx]; exact H.out.oa))
        exact hk.trans (Keep.of (belowN (Below.refl _ _) _))

set_option maxRecDepth 100000 in
set_option maxHeartbeats 1000000 in
theorem Put_any {O : Nat → Prop} {v : Value} {om : Option Mo} {w : World} (h : Ob false w O v om) (a : Int) (ha : InR a) :
    Calls Tryz.prog 50 #[v, .int .i64 a] w fun e w' => e = .returned (.int .i64 (ptE om a)) ∧ Mut false w O v (ptD om a) w' := by
  have HI := Lib.hid (objectAt_any h a ha)
  have H := Lib.hid h
  cases om with
  | none =>
    rw [show isE none a = 5 from rfl] at HI
    clear h
    go_enter Tryz.func50, Tryz.ntmps50
    go_wp2_with (go_at_call 86; refine HI.out.mono ?_; rintro e w1 ⟨rfl, hb1⟩; have HB1 := Lib.hid hb1; clear hb1)
    go_ret
    exact ⟨rfl, Mut.same H.out HB1.out⟩
  | some m =>
    obtain ⟨B, A, c, rfl, h⟩ := h
    have hwf := h.wf
    cases e : obO m a with
    | none =>
      rw [obV_none e, isE_none e] at HI
      rw [ptE_none e, ptD_none e]
      clear h hwf e ha
      go_enter Tryz.func50, Tryz.ntmps50
      go_wp2_with (go_at_call 86; refine HI.out.mono ?_; rintro e w1 ⟨rfl, hb1⟩; have HB1 := Lib.hid hb1; clear hb1)
      go_ret
      exact ⟨rfl, Mut.same H.out HB1.out⟩
    | some k =>
      rw [obV_some e, isE_some e] at HI
      obtain ⟨hk, h1⟩ := obO_get hwf e
      have HC4 := Lib.hid fun (w1 : World) (hb : Below w.heap.size w w1) => (show w1.cell? ⟨B, 4, none⟩ = some (.slice (some ⟨A, 0, none⟩) m.n c) from (h.below hb).cells.2.2.2.2)
      have HCK := Lib.hid fun (w1 : World) (hb : Below w.heap.size w w1) => (h.below hb).a.cell k hk
      have hkn := hwf.n2
      have hAw := h.lt A h.oa
      have HS := Lib.hid h
      cases hf : m.f k with
      | true =>
        rw [ptE_on e hf, ptD_on e hf]
        rw [hf] at HCK
        have HU := Lib.hid fun w1 hb => (show w1.cell? ⟨A, k, none⟩ = some (.int .u8 1) from HCK.out w1 hb)
        have HK := Lib.hid (fun (w1 : World) (hb : Below w.heap.size w w1) => mark_any ((h.below hb).below (bnew w1 (.cells #[.int .i64 k] 3))) false (some ⟨w1.heap.size, 0, none⟩) 1 [k] (by simp) (one_int w1 k m.n A hk (Nat.lt_of_lt_of_le hAw hb.size)))
        rw [show u8 false = 0 from rfl, show ([k] : List Nat).length = 1 from rfl] at HK
        clear h hwf e ha h1 hf HCK
        go_enter Tryz.func50, Tryz.ntmps50
        go_wp2_with (first | (go_at_call 86; refine HI.out.mono ?_; rintro e w1 ⟨rfl, hb1⟩; have HB1 := Lib.hid hb1; have c4 := HC4.out _ hb1; have ck := HU.out _ hb1; clear hb1) | (go_at_call 55; refine (HK.out _ HB1.out).mono ?_; rintro e w2 ⟨⟨v, rfl⟩, hS1, hK1⟩; have HS1 := Lib.hid hS1; have HK1 := Lib.hid hK1; clear hS1 hK1))
        go_ret
        exact ⟨rfl, HS1.out.ob', ((Keep.of HB1.out).trans (Keep.of (bnew _ _))).trans (HK1.out.mono fun _ _ hx => .inl (by rw [hx]; exact HS.out.oa))⟩
      | false =>
        rw [ptE_off e hf, ptD_off e hf]
        rw [hf] at HCK
        have HU := Lib.hid fun w1 hb => (show w1.cell? ⟨A, k, none⟩ = some (.int .u8 0) from HCK.out w1 hb)
        clear h hwf e ha h1 hf HCK
        go_enter Tryz.func50, Tryz.ntmps50
        go_wp2_with (go_at_call 86; refine HI.out.mono ?_; rintro e w1 ⟨rfl, hb1⟩; have HB1 := Lib.hid hb1; have c4 := HC4.out _ hb1; have ck := HU.out _ hb1; clear hb1)
        go_ret
        exact ⟨rfl, Mut.same H.out HB1.out⟩

end Go.Proofs.YtejfoefhaphacaaGreat
