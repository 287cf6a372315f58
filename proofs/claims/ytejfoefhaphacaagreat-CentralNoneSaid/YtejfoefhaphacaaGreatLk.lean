/- Package span: Collect, Clone. -/
import Derived.Test.YtejfoefhaphacaaGreatLi
namespace Go.Proofs.YtejfoefhaphacaaGreat
open Go.RowKit Go.Shelf

set_option maxHeartbeats 1000000 in
theorem Collect_any {O : Nat → Prop} {b1 : Nat} {v : Option Addr} {om : Option Mo} {w : World} (h : Ob false w O (.pointer v) om) (hx : Boxed w b1 63 (.pointer v)) :
    Calls Tryz.prog 56 #[.func (.func 89) #[] #[.pointer (some ⟨b1, 0, none⟩)]] w (LstP w (tkO om)) := by
  have HA := Lib.hid (AppendSeq_any h hx)
  clear h hx
  go_enter Tryz.func56, Tryz.ntmps56
  go_wp2_with (go_at_call 88; refine HA.out.mono ?_; rintro e w1 ⟨A, c, rfl, hL, hb⟩; have HL := Lib.hid (And.intro hL hb); clear hL hb)
  go_ret
  exact ⟨A, c, rfl, HL.out⟩

theorem setL_f (L : List Nat) (x : Bool) : ∀ (m : Mo) (i : Nat), (setL m L x).f i = if i ∈ L then x else m.f i := by
  induction L with
  | nil => intro m i; rfl
  | cons k t ih =>
    intro m i
    show (setL (m.set k x) t x).f i = _
    rw [ih]
    by_cases h1 : i ∈ t
    · rw [if_pos h1, if_pos (List.mem_cons_of_mem _ h1)]
    · rw [if_neg h1]
      by_cases h2 : i = k
      · rw [if_pos (by rw [h2]; exact List.mem_cons_self ..)]
        exact if_pos h2
      · rw [if_neg (fun h => by rcases List.mem_cons.1 h with h | h; exact h2 h; exact h1 h)]
        exact if_neg h2
theorem setL_eq (L : List Nat) (x : Bool) : ∀ m : Mo, setL m L x = { m with f := (setL m L x).f } := by
  induction L with
  | nil => intro m; rfl
  | cons k t ih =>
    intro m
    have := ih (m.set k x)
    show setL (m.set k x) t x = _
    rw [this]
    rfl
theorem SpA.congr {r : Bool} {w : World} {O : Nat → Prop} {B A c : Nat} {m : Mo} (h : SpA r w O B A c m) (f : Nat → Bool) (hf : ∀ i, i < m.n → m.f i = f i) : SpA r w O B A c { m with f := f } :=
  ⟨⟨h.wf.s1, h.wf.z1, h.wf.z2, h.wf.g1, h.wf.g2, h.wf.t1, h.wf.t2, h.wf.nn, h.wf.n1, h.wf.n2, h.wf.nz⟩, h.b.congr fun i _ => rfl, h.a.congr fun i hi => by rw [hf i hi], h.ob, h.oa, h.ne, h.lt, h.cp⟩

/-- A clone. -/
def ClnP (r : Bool) (w : World) (om : Option Mo) (e : Ending) (w' : World) : Prop := ∃ v, e = .returned (.pointer v) ∧ Ob r w' (Nw w w') (.pointer v) om ∧ (om = none → v = none) ∧ (om ≠ none → v ≠ none) ∧ Below w.heap.size w w'

/-- The clone's objects are marked. -/
theorem clone_end {w W3 W5 W6 : World} {B A n : Nat} {m : Mo} (h3 : Below w.heap.size w W3) (h5 : Below W3.heap.size W3 W5) (hk : Keep (fun k => k = A) W5 W6) (hA : w.heap.size ≤ A)
    (hS : SpA false W6 (Nw w W3) B A n (setL { m with f := fun _ => false } (tkn m) true)) : ClnP false w (some m) (.returned (.pointer (some ⟨B, 0, none⟩))) W6 := by
  have s3 := h3.size
  have s5 := h5.size
  have s6 := hk.size
  refine ⟨_, rfl, ⟨B, A, n, rfl, ?_⟩, (fun h => nomatch h), (fun _ h => nomatch h), (h3.trans (h5.mono s3)).trans (hk.below (by omega) (fun k e => by omega))⟩
  have hn' : (setL { m with f := fun _ => false } (tkn m) true).n = m.n := setL_n _ _ _
  have hc := hS.congr m.f (fun i hi => by
    rw [hn'] at hi
    rw [setL_f]
    show (if i ∈ tkn m then true else false) = m.f i
    have hm : i ∈ tkn m ↔ m.f i = true := by
      unfold tkn
      rw [hl_mem]
      exact ⟨fun h => h.2, fun h => ⟨⟨by omega, hi⟩, h⟩⟩
    cases e : m.f i with
    | true => exact if_pos (hm.2 e)
    | false => exact if_neg (fun h => by rw [hm.1 h] at e; cases e))
  rw [setL_eq] at hc
  exact ⟨hc.wf, hc.b, hc.a, ⟨hc.ob.1, by have := hc.ob.2; omega⟩, ⟨hc.oa.1, by have := hc.oa.2; omega⟩, hc.ne, fun k hk => hk.2, hc.cp⟩

set_option maxRecDepth 100000 in
set_option maxHeartbeats 2000000 in
theorem Clone_any {O : Nat → Prop} {v : Option Addr} {om : Option Mo} {w : World} (h : Ob false w O (.pointer v) om) :
    Calls Tryz.prog 22 #[.pointer v] w (ClnP false w om) := by
  cases om with
  | none =>
    have HM := Lib.hid (made_no h.1)
    clear h
    go_enter Tryz.func22, Tryz.ntmps22
    go_wp2_with (go_at_call 54; refine HM.out.mono ?_; rintro e w1 ⟨rfl, rfl⟩)
    go_ret
    exact ⟨none, rfl, ⟨.inl rfl, fun _ hk => hk.2⟩, (fun _ => rfl), (fun h => absurd rfl h), Below.refl _ _⟩
  | some m =>
    obtain ⟨B, A, c, e, h⟩ := h
    have he : v = some ⟨B, 0, none⟩ := by injection e
    subst he
    have HM := Lib.hid (made_any h)
    have HH := Lib.hid h
    have hn1 := h.wf.n1
    have hn2 := h.wf.n2
    have c0 : w.cell? ⟨B, 0, none⟩ = some (.int .i64 m.s) := h.cells.1
    have c1 : w.cell? ⟨B, 1, none⟩ = some (.int .i64 m.z) := h.cells.2.1
    have c2 : w.cell? ⟨B, 2, none⟩ = some (.int .i64 m.g) := h.cells.2.2.1
    have c3 : w.cell? ⟨B, 3, none⟩ = some (.int .i64 m.t) := h.cells.2.2.2.1
    have c4 : w.cell? ⟨B, 4, none⟩ = some (.slice (some ⟨A, 0, none⟩) m.n c) := h.cells.2.2.2.2
    have HC := fun o => (h.below (bnew w o)).cells
    have d0 := fun o => (show (w.alloc o).cell? ⟨B, 0, none⟩ = some (.int .i64 m.s) from (HC o).1)
    have d1 := fun o => (show (w.alloc o).cell? ⟨B, 1, none⟩ = some (.int .i64 m.z) from (HC o).2.1)
    have d2 := fun o => (show (w.alloc o).cell? ⟨B, 2, none⟩ = some (.int .i64 m.g) from (HC o).2.2.1)
    have d3 := fun o => (show (w.alloc o).cell? ⟨B, 3, none⟩ = some (.int .i64 m.t) from (HC o).2.2.2.1)
    have hwf : WF { m with f := fun _ => false } := ⟨h.wf.s1, h.wf.z1, h.wf.z2, h.wf.g1, h.wf.g2, h.wf.t1, h.wf.t2, h.wf.nn, h.wf.n1, h.wf.n2, h.wf.nz⟩
    obtain ⟨i, hi, hz0, hz1, hz2⟩ := info_parts info72
    have hmk := fun w => run_make (P := Tryz.prog) w 88 92 i (.int .u8 0) Tryz.underlying88 hi hz0 .i64 .i64 m.n m.n (by omega) (Int.le_refl _) (by rw [hz2]; omega) (by omega)
    rw [hz1] at hmk
    simp only [Int.toNat_natCast, Value.cells, Nat.mul_one] at hmk
    have HN := Lib.hid (fun W0 W hb hW => new_sp false w W0 W { m with f := fun _ => false } 92 90 (by decide) (by decide) hb hwf (fun _ => rfl) hW)
    have HT := Lib.hid (takenObjects_any (some ⟨B, 0, none⟩))
    clear h hwf hi hz0 hz1 hz2 HC
    go_enter Tryz.func22, Tryz.ntmps22
    go_wp2_with (go_at_call 54; refine HM.out.mono ?_; rintro e w1 ⟨rfl, rfl⟩)
    go_region
    obtain ⟨X, hX⟩ : ∃ X, (w.alloc (.cells (madeCells #[.int .u8 0] m.n) 92)).alloc (.cells #[.int .i64 m.s, .int .i64 m.z, .int .i64 m.g, .int .i64 m.t, .slice (some ⟨w.heap.size, 0, none⟩) m.n m.n] 90) = X := ⟨_, rfl⟩
    rw [hX]
    have hsp := HN.out w X (Below.refl _ w) hX.symm
    have hS3 : SpA false X.drew (Nw w X.drew) (w.heap.size + 1) w.heap.size m.n { m with f := fun _ => false } := hsp.1.below (Below.refl _ X).drew
    have hb3 : Below w.heap.size w X.drew := hsp.2.drew
    have HS3 := Lib.hid hS3
    have HB3 := Lib.hid hb3
    clear hsp hS3 hb3 hX
    generalize X.drew = W3 at *
    have HCL := Lib.hid (fun W4 (hW4 : W3.alloc (.cells #[.pointer (some ⟨B, 0, none⟩)] 63) = W4) => Collect_any (b1 := W3.heap.size) (w := W4) ((HH.out.below (HB3.out.trans (by rw [← hW4]; exact (bnew W3 _).mono HB3.out.size))).ob') (by rw [← hW4]; exact Boxed.new W3 63 _))
    have HMK := Lib.hid (fun (W5 : World) (hb5 : Below W3.heap.size W3 W5) sl cap hL => mark_any (w := W5) (HS3.out.below hb5) true sl cap (tkn m) (Nat.le_trans (hl_len _ _ _) (by omega)) hL)
    have HLT := Lib.hid (fun x (hx : x ∈ tkn m) => show x < m.n from (hl_mem.1 hx).1.2)
    clear d0 d1 d2 d3 c0 c1 c2 c3 c4 hmk HN HH HM
    go_wp2_with (first
      | (go_at_call 57; refine (HT.out _).mono ?_; rintro e W4 ⟨rfl, hW4⟩; have HC4 := Lib.hid (HCL.out W4 hW4); have HB4 := Lib.hid (show Below W3.heap.size W3 W4 by rw [← hW4]; exact bnew _ _); clear hW4)
      | (go_at_call 56; refine HC4.out.mono ?_; rintro e W5 ⟨A5, c5, rfl, hL, hb5⟩; have HB5 := Lib.hid (HB4.out.trans (hb5.mono HB4.out.size)); have HK5 := Lib.hid (HMK.out W5 HB5.out A5 c5 (fun i y hi => by obtain ⟨g, e, g1, g2, g3⟩ := hL i y hi; exact ⟨HLT.out y (List.mem_of_getElem? hi), g, e, by have := HB4.out.size; have := HB3.out.size; have := HS3.out.oa.2; omega, g2, g3⟩)); clear hL hb5)
      | (go_at_call 55; refine HK5.out.mono ?_; rintro e W6 ⟨⟨v, rfl⟩, hS6, hK6⟩; have HE := Lib.hid (clone_end HB3.out HB5.out hK6 (Nat.le_refl _) hS6); clear hS6 hK6))
    go_ret
    exact HE.out

end Go.Proofs.YtejfoefhaphacaaGreat
