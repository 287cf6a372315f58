/- The statements' helpers: lists compared; calls in memory; great; all. -/
import Derived.Test.YticcjelaenhigaaSb
namespace Go.Proofs.Yticcjelaenhigaa
open Go.RowKit Go.Lib

def Yes (w : World) (e : Ending) (w' : World) : Prop := e = .returned (.bool true) ∧ Below w.heap.size w w'
set_option maxRecDepth 100000 in
set_option maxHeartbeats 1000000 in
theorem Ints_any {P P' : Nat → Prop} (A A' : Option Addr) (c c' : Nat) (L : List Int) (w : World) (hl : L.length ≤ 32768) (hT : IAt P w A L) (hT' : IAt P' w A' L) :
    Calls Try.prog 25 #[.slice A L.length c, .slice A' L.length c'] w (Yes w) := by
  have HT := Lib.hid hT
  have HT' := Lib.hid hT'
  obtain ⟨n, hn⟩ : ∃ n, L.length = n := ⟨_, rfl⟩
  have HN := Lib.hid hn
  rw [hn] at hl ⊢
  clear hT hT' hn
  go_enter Try.func25, Try.ntmps25
  go_wp2
  go_loopw [5] (fun i wr => ∃ k : Nat, k ≤ n ∧ i = .int .i64 k ∧ Below w.heap.size w wr) (fun i _ => n - (intOf i).toNat)
  case atStart => exact ⟨0, by omega, rfl, Below.refl _ _⟩
  case round =>
    obtain ⟨k, hk, rfl, hB⟩ := hrel
    by_cases hlt : k < n
    · obtain ⟨x, hx⟩ : ∃ x, L[k]? = some x := ⟨_, List.getElem?_eq_getElem (by rw [HN.out]; exact hlt)⟩
      obtain ⟨g, o, rfl, _, _, g1, _⟩ := (HT.out.below hB) k x hx
      obtain ⟨g', o', rfl, _, _, f1, _⟩ := (HT'.out.below hB) k x hx
      clear hx
      go_wp2_with fail
      go_quiet (fail)
      go_wp2_with fail
      go_roundw
      case rel => exact ⟨k + 1, by omega, by go_num, belowN hB _⟩
      case measure => simp [intOf]; omega
    · go_wp2_with fail
      go_ret
      exact ⟨rfl, hB⟩


set_option maxRecDepth 100000 in
set_option maxHeartbeats 4000000 in
theorem rSame_any {P P' : Nat → Prop} (A A' : Option Addr) (c c' : Nat) (L : List (Nat × List Int)) (w : World) (hl : L.length ≤ 40) (h256 : ∀ x ∈ L, x.2.length ≤ 256) (hT : BAt P w A L) (hT' : BAt P' w A' L) :
    Calls Try.prog 36 #[.slice A L.length c, .slice A' L.length c'] w (Yes w) := by
  have HT := Lib.hid hT
  have HT' := Lib.hid hT'
  have H256 := Lib.hid h256
  obtain ⟨n, hn⟩ : ∃ n, L.length = n := ⟨_, rfl⟩
  have HN := Lib.hid hn
  rw [hn] at hl ⊢
  clear hT hT' hn h256
  go_enter Try.func36, Try.ntmps36
  go_wp2
  go_loopw [5] (fun i wr => ∃ k : Nat, k ≤ n ∧ i = .int .i64 k ∧ Below w.heap.size w wr) (fun i _ => n - (intOf i).toNat)
  case atStart => exact ⟨0, by omega, rfl, Below.refl _ _⟩
  case round =>
    obtain ⟨k, hk, rfl, hB⟩ := hrel
    by_cases hlt : k < n
    · obtain ⟨x, hx⟩ : ∃ x, L[k]? = some x := ⟨_, List.getElem?_eq_getElem (by rw [HN.out]; exact hlt)⟩
      obtain ⟨g, o, A1, c1, rfl, hgl, _, g0, g1, i1⟩ := (HT.out.below hB) k x hx
      obtain ⟨g', o', A2, c2, rfl, hgl', _, f0, f1, i2⟩ := (HT'.out.below hB) k x hx
      have hxl := H256.out x (List.mem_of_getElem? hx)
      have HI := Lib.hid (fun (nn : CW wr.heap.size wr) => Ints_any A1 A2 c1 c2 x.2 nn.wd (by omega) (i1.below nn.bel) (i2.below nn.bel))
      obtain ⟨m, hm⟩ : ∃ m, x.2.length = m := ⟨_, rfl⟩
      rw [hm] at HI g1 f1
      obtain ⟨q, hq⟩ : ∃ q, x.1 = q := ⟨_, rfl⟩
      rw [hq] at g0 f0
      unfold Yes at HI
      have HB := Lib.hid hB
      have G0 := CW.cell (N := wr.heap.size) (a := ⟨g, _, none⟩) hgl g0
      have G1 := CW.cell (N := wr.heap.size) (a := ⟨g, _, none⟩) hgl g1
      have F0 := CW.cell (N := wr.heap.size) (a := ⟨g', _, none⟩) hgl' f0
      have F1 := CW.cell (N := wr.heap.size) (a := ⟨g', _, none⟩) hgl' f1
      clear hx i1 i2 hm hq g0 g1 f0 f1 hB
      go_wp2_with fail
      refine region_below wr.heap.size (by kernel_rfl) (by kernel_rfl) ?_
      repeat (first | go_big_quiet_step ((go_at_call 25; exact quietB (Nat.le_refl _) (HI.out _))) | quiet_step ((go_at_call 25; exact quietB (Nat.le_refl _) (HI.out _))))
      refine wpQuiet_nil ?_
      rintro _ ⟨nq, rfl⟩
      have HQ := Lib.hid (btr HB.out nq.bel (Nat.le_refl _))
      generalize nq.wd = wq at *
      go_wp2_with fail
      go_roundw
      case rel => exact ⟨k + 1, by omega, by go_num, HQ.out⟩
      case measure => simp [intOf]; omega
    · go_wp2_with fail
      go_ret
      exact ⟨rfl, hB⟩

/-- A call of the statements, as a value whose list lies below N. -/
structure AkV (w : World) (N : Nat) (x : Ak) (u : Value) : Prop where
  k : InR x.k
  c : InR x.c
  a : InR x.a
  n : x.l.length ≤ 9223372036854775807
  v : ∃ (A : Option Addr) (c : Nat), u = .slice A x.l.length c ∧ IAt (fun k => k < N) w A x.l
theorem IAt.low {w w' : World} {N : Nat} {A : Option Addr} {l : List Int} (h : IAt (fun k => k < N) w A l) (hb : Below N w w') : IAt (fun k => k < N) w' A l := fun i a hi => by
  obtain ⟨g, o, e, h1, h2, h3, h4⟩ := h i a hi
  exact ⟨g, o, e, Nat.lt_of_lt_of_le h1 hb.size, h2, (hb.cell (p := ⟨g, _, none⟩) h2).trans h3, h4⟩
theorem AkV.below {w w' : World} {N : Nat} {x : Ak} {u : Value} (h : AkV w N x u) (hb : Below N w w') : AkV w' N x u := by
  obtain ⟨A, c, e, hz⟩ := h.v
  exact ⟨h.k, h.c, h.a, h.n, A, c, e, hz.low hb⟩
/-- The slice's cells hold the calls, in blocks below N. -/
def ActsAt (w : World) (N : Nat) (A : Option Addr) (l : List Ak) : Prop :=
  ∀ (k : Nat) (x : Ak), l[k]? = some x → ∃ (b o : Nat) (u : Value), A = some ⟨b, o, none⟩ ∧ b < N ∧ w.cell? ⟨b, o + k * 4, none⟩ = some (.int .i64 x.k) ∧ w.cell? ⟨b, o + k * 4 + 1, none⟩ = some (.int .i64 x.c) ∧ w.cell? ⟨b, o + k * 4 + 2, none⟩ = some (.int .i64 x.a) ∧ w.cell? ⟨b, o + k * 4 + 3, none⟩ = some u ∧ AkV w N x u
theorem ActsAt.below {w w' : World} {N : Nat} {A : Option Addr} {l : List Ak} (h : ActsAt w N A l) (hb : Below N w w') : ActsAt w' N A l := fun k x hk => by
  obtain ⟨b, o, u, e, hB, h1, h2, h3, h4, h5⟩ := h k x hk
  exact ⟨b, o, u, e, hB, (hb.cell (p := ⟨b, _, none⟩) hB).trans h1, (hb.cell (p := ⟨b, _, none⟩) hB).trans h2, (hb.cell (p := ⟨b, _, none⟩) hB).trans h3, (hb.cell (p := ⟨b, _, none⟩) hB).trans h4, h5.below hb⟩
theorem ActsAt.nil (w : World) (N : Nat) (A : Option Addr) : ActsAt w N A [] := fun k x hk => by simp at hk

def grB (l : List Ak) : Bool := l.any (fun x => decide (300 < x.l.length)) || decide (60 < l.length)
theorem grB_no {l : List Ak} (h : grB l = false) : l.length ≤ 60 ∧ ∀ (k : Nat) (x : Ak), l[k]? = some x → x.l.length ≤ 300 := by
  unfold grB at h
  rw [Bool.or_eq_false_iff, List.any_eq_false, decide_eq_false_iff_not] at h
  refine ⟨by omega, fun k x hk => ?_⟩
  have := h.1 x (List.mem_of_getElem? hk)
  simp only [decide_eq_true_eq] at this
  omega
set_option maxRecDepth 100000 in
set_option maxHeartbeats 1000000 in
theorem great_any {N : Nat} (A : Option Addr) (c : Nat) (l : List Ak) (w : World) (hl : l.length ≤ 9223372036854775807) (hA : ActsAt w N A l) : Calls Try.prog 14 #[.slice A l.length c] w fun e w' => e = .returned (.bool (grB l)) ∧ w = w' := by
  obtain ⟨n, hn⟩ : ∃ n, l.length = n := ⟨_, rfl⟩
  have HN := Lib.hid hn
  have HA := Lib.hid hA
  rw [hn] at hl ⊢
  clear hA hn
  go_enter Try.func14, Try.ntmps14
  go_wp2
  go_loopw [3] (fun i wr => ∃ k : Nat, k ≤ n ∧ i = .int .i64 k ∧ w = wr ∧ (l.take k).any (fun x => decide (300 < x.l.length)) = false) (fun i _ => n - (intOf i).toNat)
  case atStart => exact ⟨0, by omega, rfl, rfl, rfl⟩
  case round =>
    obtain ⟨k, hk, rfl, rfl, hno⟩ := hrel
    have HNO := Lib.hid hno
    by_cases hlt : k < n
    · obtain ⟨x, hx⟩ : ∃ x, l[k]? = some x := ⟨_, List.getElem?_eq_getElem (by have := HN.out; omega)⟩
      obtain ⟨b, o, u, rfl, _, _, _, _, h3, hv⟩ := HA.out k x hx
      obtain ⟨B, cb, rfl, _⟩ := hv.v
      have hxn := hv.n
      have HX := Lib.hid hx
      clear hv hno hx
      by_cases h60 : 300 < x.l.length
      · have HR := Lib.hid (show grB l = true from by
          unfold grB
          rw [Bool.or_eq_true]
          exact .inl (List.any_eq_true.2 ⟨x, List.mem_of_getElem? HX.out, by simpa using h60⟩))
        generalize x.l.length = xn at *
        have d1 : decide (300 < (xn : Int)) = true := decide_eq_true (by omega)
        clear h60
        go_wp2_with fail
        go_ret
        exact ⟨ret_bool HR.out.symm, rfl⟩
      · have HT := Lib.hid (show (l.take (k + 1)).any (fun x => decide (300 < x.l.length)) = false from by
          rw [List.take_add_one, HX.out, List.any_append, HNO.out]; simp; omega)
        generalize x.l.length = xn at *
        have d1 : decide (300 < (xn : Int)) = false := decide_eq_false (by omega)
        clear h60
        go_wp2_with fail
        go_roundw
        case rel => exact ⟨k + 1, by omega, by go_num, trivial, HT.out⟩
        case measure => simp [intOf]; omega
    · obtain rfl : k = n := by omega
      have HR := Lib.hid (show grB l = decide (60 < k) from by
        unfold grB
        rw [List.take_of_length_le (by rw [HN.out]; exact Nat.le_refl _)] at hno
        rw [hno, Bool.false_or, HN.out])
      clear hno
      go_wp2_with fail
      go_ret
      refine ⟨ret_bool ?_, rfl⟩
      rw [HR.out]
      simp
      omega

theorem flat_take {L : List (Nat × List Int)} {k : Nat} {x : Nat × List Int} (h : L[k]? = some x) : (L.take (k + 1)).flatMap (·.2) = (L.take k).flatMap (·.2) ++ x.2 := by
  rw [List.take_add_one, h]; simp
theorem flat_le {L : List (Nat × List Int)} (h40 : L.length ≤ 40) (h256 : ∀ x ∈ L, x.2.length ≤ 256) (k : Nat) : ((L.take k).flatMap (·.2)).length ≤ 10240 := by
  have : ∀ M : List (Nat × List Int), (∀ x ∈ M, x.2.length ≤ 256) → (M.flatMap (·.2)).length ≤ M.length * 256 := by
    intro M
    induction M with
    | nil => intro _; simp
    | cons a t ih =>
      intro h
      rw [List.flatMap_cons, List.length_append, List.length_cons]
      have := ih (fun x hx => h x (List.mem_cons_of_mem _ hx))
      have := h a List.mem_cons_self
      omega
  have h1 := this (L.take k) (fun x hx => h256 x (List.mem_of_mem_take hx))
  rw [List.length_take] at h1
  have : min k L.length * 256 ≤ 40 * 256 := Nat.mul_le_mul_right _ (by omega)
  omega
set_option maxRecDepth 100000 in
set_option maxHeartbeats 4000000 in
theorem wall_any {P : Nat → Prop} (A : Option Addr) (cap : Nat) (L : List (Nat × List Int)) (w : World) (h40 : L.length ≤ 40) (h256 : ∀ x ∈ L, x.2 ≠ [] ∧ x.2.length ≤ 256) (hA : BAt P w A L) : Calls Try.prog 32 #[.slice A L.length cap] w (ObjP w (L.flatMap (·.2))) := by
  obtain ⟨i0, hi, hz0, hz1, hz2⟩ := info_parts info3
  obtain ⟨N, hN⟩ : ∃ N, L.length = N := ⟨_, rfl⟩
  have HN := Lib.hid hN
  have HA := Lib.hid hA
  have HBB := Lib.hid h256
  have HFL := Lib.hid (fun k => flat_le h40 (fun x hx => (h256 x hx).2) k)
  rw [hN] at h40 ⊢
  clear hA h256 hN
  go_enter Try.func32, Try.ntmps32
  go_wp2
  go_loopw [3, 4] (fun v i wr => ∃ k : Nat, k ≤ N ∧ i = .int .i64 k ∧ wr.ownsRow w.heap.size 3 1 v ((L.take k).flatMap (·.2)).length (cZ ((L.take k).flatMap (·.2))) ∧ (∀ a ∈ (L.take k).flatMap (·.2), InR a) ∧ Below w.heap.size w wr) (fun _ i _ => N - (intOf i).toNat)
  case atStart => exact ⟨0, by omega, rfl, World.ownsRow_nil _ _ _ _, fun a ha => (by simp at ha), Below.refl _ _⟩
  case round =>
    obtain ⟨k, hk, rfl, hrow, hin, hB⟩ := hrel
    have HR := Lib.hid (And.intro hrow (And.intro hin hB))
    obtain ⟨A1, c1, rfl⟩ := owns_form hrow
    have hfl := HFL.out k
    by_cases hlt : k < N
    · obtain ⟨x, hx⟩ : ∃ x, L[k]? = some x := ⟨_, List.getElem?_eq_getElem (by have := HN.out; omega)⟩
      obtain ⟨g, o, A2, c2, rfl, _, _, g0, g1, i1⟩ := (HA.out.below hB) k x hx
      have hxb := HBB.out x (List.mem_of_getElem? hx)
      obtain ⟨g', o', rfl, _, _, hc⟩ := i1.some (List.length_pos_iff.2 hxb.1)
      have HS := Lib.hid (And.intro hc (And.intro (flat_take hx) i1.inr))
      obtain ⟨m, hm⟩ : ∃ m, x.2.length = m := ⟨_, rfl⟩
      have HM := Lib.hid (show (cZ x.2).length = m * 1 from by rw [cZ_len, Nat.mul_one]; exact hm)
      have hxl := hxb.2
      rw [hm] at g1 hxl
      obtain ⟨q, hq⟩ : ∃ q, ((L.take k).flatMap (·.2)).length = q := ⟨_, rfl⟩
      rw [hq] at hrow hfl HR
      rw [hq]
      have HQ := Lib.hid (And.intro hq hm)
      have hsz := hB.size
      clear hx hxb hc hm hrow hin hB hq i1 g0
      go_wp2_with (at_builtin; refine wpList_append_own _ rfl _ _ 33 rfl w.heap.size 3 i0 (.int .i64 0) 1 8 undInts hi hz0 hz1 hz2 rfl (by decide) _ _ _ rfl HR.out.1 ⟨g', o', none⟩ m c2 (cZ x.2) rfl HM.out HS.out.1 (cZ_one _) (by unfold maxLen; omega) (by omega) hsz ?_; intro v' w1 hown hgrow _; have HO := Lib.hid (And.intro hown hgrow); clear hown hgrow)
      go_roundw
      case rel =>
        refine ⟨k + 1, by omega, by go_num, ?_, ?_, HR.out.2.2.grown HO.out.2 hsz (fun j hj => (HR.out.1.lt j hj).1)⟩
        · rw [HS.out.2.1, List.length_append, cZ_app, HQ.out.1, HQ.out.2]
          exact HO.out.1
        · rw [HS.out.2.1]
          intro a ha
          rcases List.mem_append.1 ha with h1 | h1
          · exact HR.out.2.1 a h1
          · exact HS.out.2.2 a h1
      case measure => simp [intOf]; omega
    · obtain rfl : k = N := by omega
      have e : L.take k = L := List.take_of_length_le (by rw [HN.out]; exact Nat.le_refl _)
      rw [e] at HR
      rw [e]
      have hF : ObjP w (L.flatMap (·.2)) (.returned (.slice A1 (L.flatMap (·.2)).length c1)) wr := ⟨A1, c1, rfl, (own_off HR.out.1).1.iat (own_off HR.out.1).2 HR.out.2.1, HR.out.2.2⟩
      obtain ⟨q, hq⟩ : ∃ q, (L.flatMap (·.2)).length = q := ⟨_, rfl⟩
      rw [hq] at hF ⊢
      have HF := Lib.hid hF
      clear hrow hin hB e hq hF HR
      go_wp2_with fail
      go_ret
      exact HF.out
end Go.Proofs.Yticcjelaenhigaa
