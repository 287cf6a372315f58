/- The library's slices.Grow and slices.Concat; Objects. -/
import Derived.Test.YtaefhhkdfepgmaaLe
import Derived.Lib.AppendZeros
namespace Go.Proofs.Ytaefhhkdfepgmaa
open Go.RowKit Go.Lib

/-- What Grow of a nil slice leaves. -/
def GrP (w : World) (e : Ending) (w' : World) : Prop := ∃ v, e = .returned v ∧ w'.ownsRow w.heap.size 3 1 v 0 [] ∧ Below w.heap.size w w'
set_option maxRecDepth 100000 in
set_option maxHeartbeats 2000000 in
theorem slGrow_any (n : Nat) (w : World) (hn : n ≤ 1024) : Calls Try.prog 44 #[.slice none 0 0, .int .i64 n] w (GrP w) := by
  rcases Nat.eq_zero_or_pos n with rfl | h0
  · go_enter Try.func44, Try.ntmps44
    go_wp2
    go_ret
    exact ⟨_, rfl, World.ownsRow_nil _ _ _ _, Below.refl _ _⟩
  · obtain ⟨i0, hi, hz0, hz1, hz2⟩ := info_parts info3
    have hr := fun ty => Lib.run_append_nil_zeros w 32 3 ty 3 i0 (.int .i64 0) .i64 .i64 undInts Try.underlying3 hi hz0 n h0 (by omega) (by omega) (by rw [hz2]; omega)
    obtain ⟨f1, f2⟩ := w64 (n : Int) (by omega)
    have hsl : ∀ (c : Nat) (w : World), (Instr.slice 32 (.slice (some ⟨w.heap.size, 0, none⟩) n c) none (some (.int .i64 0)) none).run Try.prog w = .ok (.slice (some ⟨w.heap.size, 0, none⟩) 0 c) w := fun c w => by
      have hu := run_underlying (P := Try.prog) (w := w) Try.underlying32
      have hz := Try.sizeOf3
      simp [Instr.slice, hu, Instr.sliceBounds, Instr.sliceBound, go_sem, hz]
    have hF : GrP w (.returned (.slice (some ⟨w.heap.size, 0, none⟩) 0 (grownCap w n 0 3))) (w.drew.alloc (.cells (Builtin.zeroCells (Value.int .i64 0).cells n ++ Builtin.zeroCells (Value.int .i64 0).cells (grownCap w n 0 3 - n)) 3)) := by
      have hge := grownCap_ge w n 0 3
      refine ⟨_, rfl, World.ownsRow_made w.drew _ _ (Nat.le_refl _) (grownCap_le_maxLen w n 0 3 (by unfold maxLen; omega)) ?_, (belowN (Below.refl _ _) 1).alloc (Nat.le_refl _) _⟩
      simp [size_zeroCells]
      show n * 1 + (grownCap w n 0 3 - n) * 1 = _
      omega
    have HF := Lib.hid hF
    clear hF
    go_enter Try.func44, Try.ntmps44
    go_wp2_with (at_builtin; refine Lib.wpList_append_run _ rfl _ _ _ _ rfl _ _ rfl rfl _ _ (hr _) ?_)
    go_ret
    exact HF.out

/-- The objects of a list of batches, in memory of the call's own. -/
def ObjP (w : World) (l : List Int) (e : Ending) (w' : World) : Prop := ∃ A c', e = .returned (.slice A l.length c') ∧ IAt (fun k => w.heap.size ≤ k) w' A l ∧ Below w.heap.size w w'
theorem owns_below {w w' : World} {B e size n : Nat} {v : Value} {xs : List Value} (h : w.ownsRow B e size v n xs) (hb : Below w.heap.size w w') : w'.ownsRow B e size v n xs := by
  obtain ⟨h1, h2⟩ := h
  refine ⟨h1, ?_⟩
  rcases h2 with h0 | ⟨g, cap, cur, rfl, b, hg, c⟩
  · exact .inl h0
  · exact .inr ⟨g, cap, cur, rfl, b, by rw [hb.block _ (Array.getElem?_eq_some_iff.1 hg).1]; exact hg, c⟩
theorem owns_form {w : World} {B e size n : Nat} {v : Value} {xs : List Value} (h : w.ownsRow B e size v n xs) : ∃ A c, v = .slice A n c := by
  rcases h.2 with ⟨rfl, rfl⟩ | ⟨g, cap, cur, rfl, _⟩
  · exact ⟨none, 0, rfl⟩
  · exact ⟨_, _, rfl⟩
theorem iat_of {w : World} {base n c : Nat} {A : Option Addr} {l : List Int} (h : w.ownsRow base 3 1 (.slice A n c) n (cZ l)) (hr : ∀ a ∈ l, InR a) : IAt (fun k => base ≤ k) w A l := fun i a hi => by
  rcases h.2 with ⟨h1, h0⟩ | ⟨g, cap, cur, h1, hb, hg, h4⟩
  · have := h.1
    subst h0
    rw [cZ_len] at this
    have hn : l = [] := List.length_eq_zero_iff.1 (by omega)
    rw [hn] at hi
    simp at hi
  · injection h1 with h1 h2 h3
    subst h1
    have hc := h.cells (g := g) rfl i _ (cZ_at hi)
    rw [Addr.add_lit, Nat.zero_add] at hc
    exact ⟨g, 0, rfl, (Array.getElem?_eq_some_iff.1 hg).1, hb, by rw [Nat.zero_add]; exact hc, hr a (List.mem_of_getElem? hi)⟩
theorem objp_of {w w' : World} {n c : Nat} {A : Option Addr} {l : List Int} (h : w'.ownsRow w.heap.size 3 1 (.slice A n c) n (cZ l)) (hr : ∀ a ∈ l, InR a) (hb : Below w.heap.size w w') : ObjP w l (.returned (.slice A n c)) w' := by
  have e : n = l.length := by have := h.1; rw [cZ_len] at this; omega
  exact ⟨A, c, by rw [e], iat_of h hr, hb⟩
theorem flat_take {L : List (List Int)} {k : Nat} {l : List Int} (h : L[k]? = some l) : (L.take (k + 1)).flatten = (L.take k).flatten ++ l := by
  rw [List.take_add_one, h]; simp
theorem flat_le {L : List (List Int)} (h8 : L.length ≤ 8) (h60 : ∀ x ∈ L, x.length ≤ 60) (k : Nat) : (L.take k).flatten.length ≤ 480 := by
  have : ∀ M : List (List Int), (∀ x ∈ M, x.length ≤ 60) → M.flatten.length ≤ M.length * 60 := by
    intro M
    induction M with
    | nil => intro _; simp
    | cons a t ih =>
      intro h
      rw [List.flatten_cons, List.length_append, List.length_cons]
      have := ih (fun x hx => h x (List.mem_cons_of_mem _ hx))
      have := h a List.mem_cons_self
      omega
  have h1 := this (L.take k) (fun x hx => h60 x (List.mem_of_mem_take hx))
  rw [List.length_take] at h1
  have : min k L.length * 60 ≤ 8 * 60 := Nat.mul_le_mul_right _ (by omega)
  omega
/-- One batch of a list, as a source. -/
theorem LAt.src {P : Nat → Prop} {w : World} {A : Option Addr} {L : List (List Int)} (h : LAt P w A L) {k : Nat} {l : List Int} (hk : L[k]? = some l) (hl : 0 < l.length) : ∃ g o g' o' c', A = some ⟨g, o, none⟩ ∧ w.cell? ⟨g, o + k, none⟩ = some (.slice (some ⟨g', o', none⟩) l.length c') ∧ g' < w.heap.size ∧ P g' ∧ (∀ j u, (cZ l)[j]? = some u → w.cell? ((⟨g', o', none⟩ : Addr).add j) = some u) ∧ ∀ a ∈ l, InR a := by
  obtain ⟨g, o, A', c', e, _, _, h1, h2⟩ := h k l hk
  obtain ⟨g', o', rfl, h3, h4, h5, h6⟩ := h2.some hl
  exact ⟨g, o, g', o', c', e, h1, h3, h4, h5, h6⟩

set_option maxRecDepth 100000 in
set_option maxHeartbeats 4000000 in
theorem slConcat_any {P : Nat → Prop} (A : Option Addr) (cap : Nat) (L : List (List Int)) (w : World) (h8 : L.length ≤ 8) (hb : ∀ x ∈ L, 0 < x.length ∧ x.length ≤ 60) (hA : LAt P w A L) : Calls Try.prog 40 #[.slice A L.length cap] w (ObjP w L.flatten) := by
  obtain ⟨i0, hi, hz0, hz1, hz2⟩ := info_parts info3
  obtain ⟨N, hN⟩ : ∃ N, L.length = N := ⟨_, rfl⟩
  have HN := Lib.hid hN
  have HA := Lib.hid hA
  have HBB := Lib.hid hb
  have HFL := Lib.hid (fun k => flat_le h8 (fun x hx => (hb x hx).2) k)
  rw [hN] at h8 ⊢
  clear hA hb hN
  go_enter Try.func40, Try.ntmps40
  go_wp2
  go_loopw [3, 11] (fun s i wr => ∃ k : Nat, k ≤ N ∧ i = .int .i64 k ∧ s = .int .i64 ((L.take k).flatten.length : Nat) ∧ w = wr) (fun _ i _ => N - (intOf i).toNat)
  case atStart => exact ⟨0, by omega, rfl, rfl, rfl⟩
  case round =>
    obtain ⟨k, hk, rfl, rfl, rfl⟩ := hrel
    by_cases hlt : k < N
    · obtain ⟨l, hl⟩ : ∃ l, L[k]? = some l := ⟨_, List.getElem?_eq_getElem (by have := HN.out; omega)⟩
      obtain ⟨h1, h2⟩ := HBB.out l (List.mem_of_getElem? hl)
      obtain ⟨g, o, g', o', c', rfl, hc, _⟩ := HA.out.src hl h1
      have HT := Lib.hid (flat_take hl)
      have hle := HFL.out k
      generalize hS : (L.take k).flatten.length = S at *
      have HS := Lib.hid hS
      obtain ⟨ln, hln⟩ : ∃ ln, l.length = ln := ⟨_, rfl⟩
      have HLN := Lib.hid hln
      rw [hln] at hc h1 h2
      obtain ⟨f1, f2⟩ := w64 ((S : Int) + (ln : Int)) (by omega)
      clear hl hS hln
      go_wp2_with fail
      clear f1 f2
      all_goals go_roundw
      case rel => exact ⟨k + 1, by omega, by go_num, by rw [HT.out, List.length_append, HS.out, HLN.out]; go_num, trivial⟩
      case measure => simp [intOf]; omega
    · obtain rfl : k = N := by omega
      have e : L.take k = L := List.take_of_length_le (by rw [HN.out]; exact Nat.le_refl _)
      have hle := HFL.out k
      rw [e] at hle ⊢
      have HG := Lib.hid (slGrow_any L.flatten.length w (by omega))
      generalize L.flatten.length = S at *
      clear e
      go_wp2_with (go_at_call 44; refine HG.out.mono ?_; rintro e w1 ⟨v, rfl, hrow, hbl⟩; have HR := Lib.hid (And.intro hrow hbl); obtain ⟨A1, c1, rfl⟩ := owns_form hrow; clear hrow hbl)
      go_loopw [6, 27] (fun s i wr => ∃ q : Nat, q ≤ k ∧ i = .int .i64 q ∧ wr.ownsRow w.heap.size 3 1 s (L.take q).flatten.length (cZ (L.take q).flatten) ∧ Below w.heap.size w wr) (fun _ i _ => k - (intOf i).toNat)
      case atStart => exact ⟨0, by omega, rfl, HR.out.1, HR.out.2⟩
      case round =>
        obtain ⟨q, hq, rfl, hrow, hb⟩ := hrel
        obtain ⟨A5, c5, rfl⟩ := owns_form hrow
        have HR5 := Lib.hid hrow
        have HB := Lib.hid hb
        by_cases hlt : q < k
        · obtain ⟨l, hl⟩ : ∃ l, L[q]? = some l := ⟨_, List.getElem?_eq_getElem (by have := HN.out; omega)⟩
          obtain ⟨h1, h2⟩ := HBB.out l (List.mem_of_getElem? hl)
          obtain ⟨g, o, g', o', c', rfl, hc, _, _, hcc, hin⟩ := (HA.out.below hb).src hl h1
          have HCC := Lib.hid hcc
          have HT := Lib.hid (flat_take hl)
          have hle := HFL.out q
          obtain ⟨S5, hS5⟩ : ∃ S5, (L.take q).flatten.length = S5 := ⟨_, rfl⟩
          have HS5 := Lib.hid hS5
          rw [hS5] at hle HR5
          obtain ⟨ln, hln⟩ : ∃ ln, l.length = ln := ⟨_, rfl⟩
          have HLN := Lib.hid (show (cZ l).length = ln * 1 by rw [cZ_len, Nat.mul_one]; exact hln)
          have HLM := Lib.hid hln
          rw [hln] at hc h1 h2
          rw [hS5]
          clear hl hS5 hln hrow hb hcc hin
          go_wp2_with (at_builtin; refine wpList_append_own _ rfl _ _ 32 rfl w.heap.size 3 i0 (.int .i64 0) 1 8 undInts hi hz0 hz1 hz2 rfl (by decide) _ _ _ rfl HR5.out ⟨g', o', none⟩ ln c' (cZ l) rfl HLN.out HCC.out (cZ_one l) (by unfold maxLen; omega) (by omega) HB.out.size ?_; intro v' w3 hown' hgrow _; have HO := Lib.hid hown'; have HB3 := Lib.hid (HB.out.grown hgrow HB.out.size (fun k hk => (HR5.out.lt k hk).1)); clear hown' hgrow)
          go_roundw
          case rel => exact ⟨q + 1, by omega, by go_num, by rw [HT.out, List.length_append, HS5.out, HLM.out, cZ_app]; exact HO.out, HB3.out⟩
          case measure => simp [intOf]; omega
        · obtain rfl : q = k := by omega
          have e : L.take q = L := List.take_of_length_le (by rw [HN.out]; exact Nat.le_refl _)
          rw [e] at HR5
          have HIN := Lib.hid (show ∀ a ∈ L.flatten, InR a from fun a ha => by
            obtain ⟨l, h1, h2⟩ := List.mem_flatten.1 ha
            obtain ⟨i, hi⟩ := List.mem_iff_getElem?.1 h1
            obtain ⟨_, _, _, _, _, _, _, _, _, _, h3⟩ := HA.out.src hi (HBB.out l h1).1
            exact h3 a h2)
          rw [e]
          clear hrow hb e
          go_wp2_with fail
          go_ret
          exact objp_of HR5.out HIN.out HB.out

set_option maxHeartbeats 1000000 in
theorem cObjects_any {O : Nat → Prop} {v : Value} {om : Option Tc} {w : World} (h : TOb false w O v om) : Calls Try.prog 28 #[v] w (ObjP w (objT om)) := by
  cases om with
  | none =>
    have HM := Lib.hid (cmade_no h.1)
    clear h
    go_enter Try.func28, Try.ntmps28
    go_wp2_with (go_at_call 29; refine HM.out.mono ?_; rintro e w1 ⟨rfl, rfl⟩)
    go_ret
    exact ⟨none, 0, rfl, IAt.nil _ _ _, Below.refl _ _⟩
  | some c =>
    obtain ⟨B, V, X, rfl, h⟩ := h
    have HM := Lib.hid (cmade_any h)
    obtain ⟨A, cap, rfl, h1, h2⟩ := h.form
    have c3 := h.pc.2
    have HC := Lib.hid (show Calls Try.prog 40 #[.slice A X.length cap] w (ObjP w (objT (some c))) from by
      have hl := lat_of (P := O) (g := 0) (o := 0) h.row (fun x hx => by subst hx; exact (h.rowO _ rfl).1) (fun x hx => ⟨h.bt x hx, (h.bo x hx).1⟩)
      rw [h.ms] at hl
      have hb := h.wf.b1
      have hb2 := h.wf.b2
      rw [h.len]
      exact slConcat_any A cap c.L w (by rw [← h.len]; exact h.n8) (fun x hx => by rw [h.wf.sz x hx]; omega) hl)
    generalize X.length = N at *
    clear h h1 h2
    go_enter Try.func28, Try.ntmps28
    go_wp2_with (first
      | (go_at_call 29; refine HM.out.mono ?_; rintro e w1 ⟨rfl, rfl⟩)
      | (go_at_call 40; refine HC.out.mono ?_; rintro e w1 ⟨A1, c1, rfl, h1, h2⟩; have HP := Lib.hid (And.intro h1 h2); clear h1 h2))
    go_ret
    exact ⟨A1, c1, rfl, HP.out.1, HP.out.2⟩
end Go.Proofs.Ytaefhhkdfepgmaa
