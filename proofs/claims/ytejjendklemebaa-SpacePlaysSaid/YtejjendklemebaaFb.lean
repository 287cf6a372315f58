/- The statements' helpers: made, alike. -/
import Derived.Test.YtejjendklemebaaFa
namespace Go.Proofs.Ytejjendklemebaa
open Go.RowKit

/-- The slice's cells hold the calls, in blocks below N. -/
def ActsAt (w : World) (N : Nat) (A : Option Addr) (l : List Ac) : Prop :=
  ∀ (k : Nat) (x : Ac), l[k]? = some x → AcR x ∧ ∃ b o : Nat, A = some ⟨b, o, none⟩ ∧ b < N ∧ w.cell? ⟨b, o + k * 4, none⟩ = some (.int .i64 x.k) ∧ w.cell? ⟨b, o + k * 4 + 1, none⟩ = some (.int .i64 x.a) ∧ w.cell? ⟨b, o + k * 4 + 2, none⟩ = some (.int .i64 x.b) ∧ w.cell? ⟨b, o + k * 4 + 3, none⟩ = some (.int .i64 x.c)
theorem ActsAt.below {w w' : World} {N : Nat} {A : Option Addr} {l : List Ac} (h : ActsAt w N A l) (hb : Below N w w') : ActsAt w' N A l := fun k x hk => by
  obtain ⟨hr, b, o, e, hB, h1, h2, h3, h4⟩ := h k x hk
  exact ⟨hr, b, o, e, hB, (hb.cell (p := ⟨b, _, none⟩) hB).trans h1, (hb.cell (p := ⟨b, _, none⟩) hB).trans h2, (hb.cell (p := ⟨b, _, none⟩) hB).trans h3, (hb.cell (p := ⟨b, _, none⟩) hB).trans h4⟩
theorem ActsAt.more {w : World} {N N' : Nat} {A : Option Addr} {l : List Ac} (h : ActsAt w N A l) (hN : N ≤ N') : ActsAt w N' A l := fun k x hk => by
  obtain ⟨hr, b, o, e, hB, hh⟩ := h k x hk
  exact ⟨hr, b, o, e, Nat.lt_of_lt_of_le hB hN, hh⟩
theorem ActsAt.nil (w : World) (N : Nat) : ActsAt w N none [] := fun k x hk => by simp at hk

def runM (m : Mo) (l : List Ac) : Mo := l.foldl doM m
theorem runM_wf {m : Mo} (h : WF m) (l : List Ac) : WF (runM m l) := by
  induction l generalizing m with
  | nil => exact h
  | cons x l ih => exact ih (doM_wf h x)
theorem take_snoc {l : List Ac} {k : Nat} {x : Ac} (h : l[k]? = some x) : l.take (k + 1) = l.take k ++ [x] := by
  rw [List.take_add_one, h]; rfl
theorem runM_take {m : Mo} {l : List Ac} {k : Nat} {x : Ac} (h : l[k]? = some x) : runM m (l.take (k + 1)) = doM (runM m (l.take k)) x := by
  unfold runM
  rw [take_snoc h, List.foldl_append]; rfl

/-- Behind what changes a space that was made since w, all that lay before is as it was. -/
theorem Mut.bel {w W W' : World} {O : Nat → Prop} {B : Nat} {m : Mo} (h : Mut W O B m W') (hb : Below w.heap.size w W) (hO : ∀ k, O k → w.heap.size ≤ k) : Below w.heap.size w W' := hb.trans (h.2.below hb.size hO)
theorem Mut.run {w W : World} {O : Nat → Prop} {B : Nat} {m m' : Mo} (h : Mut w O B m W) {W' : World} (k : Mut W (Ext O w W) B m' W') : Mut w O B m' W' := h.trans k

set_option maxRecDepth 100000 in
set_option maxHeartbeats 1000000 in
theorem made'_any (p : Int) (A : Option Addr) (c n : Nat) (l : List Ac) (w : World) (hp : p % 64 + 1 = n) (hp0 : 0 ≤ p) (hp1 : p ≤ 255) (hl : l.length ≤ 9223372036854775807) (hA : ActsAt w w.heap.size A l) :
    Calls Try.prog 20 #[.int .u8 p, .slice A l.length c] w fun e w' => ∃ B, e = .returned (.pointer (some ⟨B, 0, none⟩)) ∧ Below w.heap.size w w' ∧ Sp w' (Nw w w') B (runM (newM n) l) := by
  have hn1 : 1 ≤ n := by omega
  have hn2 : n ≤ 1024 := by omega
  have HN := Lib.hid (New_any n w hn1 hn2)
  obtain ⟨L, hL⟩ : ∃ L, L = l.length := ⟨_, rfl⟩
  have HL := Lib.hid hL
  rw [← hL] at hl ⊢
  have HA := Lib.hid hA
  clear hA hL
  go_enter Try.func20, Try.ntmps20
  go_wp2_with (go_at_call 36; refine HN.out.mono ?_; rintro e w1 ⟨B, rfl, hb1, hs1⟩)
  have HB1 := Lib.hid hb1
  have HS1 := Lib.hid hs1
  clear hb1 hs1
  go_loopw [7] (fun i wr => ∃ k : Nat, k ≤ L ∧ i = .int .i64 k ∧ Mut w1 (Nw w w1) B (runM (newM n) (l.take k)) wr) (fun i _ => L - (intOf i).toNat)
  case atStart => exact ⟨0, by omega, rfl, Mut.same HS1.out (Below.refl _ _)⟩
  case round =>
    obtain ⟨k, hk, rfl, hM⟩ := hrel
    have HM := Lib.hid hM
    have hbl := hM.bel HB1.out (fun k hk => hk.1)
    by_cases hlt : k < L
    · obtain ⟨x, hx⟩ : ∃ x, l[k]? = some x := ⟨_, List.getElem?_eq_getElem (by have := HL.out; omega)⟩
      obtain ⟨hr, b, o, rfl, hB, g1, g2, g3, g4⟩ := (HA.out.below hbl) k x hx
      have HD := Lib.hid (fun c => do_any x.k x.a x.b c hM.1 hr.a hr.b)
      have HX := Lib.hid (runM_take (m := newM n) hx)
      have HXE := Lib.hid (show (⟨x.k, x.a, x.b, x.c⟩ : Ac) = x from rfl)
      clear hM hx hr hbl
      go_wp2_with (go_at_call 21; refine (HD.out _).mono ?_; rintro e w2 ⟨rfl, hM2⟩; have HM2 := Lib.hid hM2; clear hM2)
      go_roundw
      case rel => exact ⟨k + 1, by omega, by go_num, by rw [HX.out]; exact HM.out.trans HM2.out⟩
      case measure => simp [intOf]; omega
    · have hkL : k = l.length := by have := HL.out; omega
      have HKL := Lib.hid hkL
      have HBL := Lib.hid hbl
      clear hM hkL hbl
      go_wp2
      go_ret
      refine ⟨B, rfl, HBL.out, ?_⟩
      have h1 := HM.out.1
      rw [HKL.out, List.take_length] at h1
      refine h1.mono (fun k hk => ?_) (fun k hk => hk.2)
      have := HM.out.2.size
      have := HB1.out.size
      rcases hk with hk | hk
      · exact ⟨hk.1, Nat.lt_of_lt_of_le hk.2 (by omega)⟩
      · exact ⟨by omega, hk.2⟩

set_option maxRecDepth 100000 in
set_option maxHeartbeats 1000000 in
theorem alike_any {O1 O2 : Nat → Prop} {B1 B2 : Nat} {m : Mo} {w : World} (h1 : Sp w O1 B1 m) (h2 : Sp w O2 B2 m) :
    Calls Try.prog 26 #[.pointer (some ⟨B1, 0, none⟩), .pointer (some ⟨B2, 0, none⟩)] w fun e w' => e = .returned (.bool true) ∧ Below w.heap.size w w' := by
  have hn2 := h1.wf.n2
  have hd := h1.wf.d
  have hpk := h1.wf.p
  have hmp := mapS_le m.st m.n
  have hmp' : m.mpd ≤ m.n := hmp
  have H1 := Lib.hid h1
  have H2 := Lib.hid h2
  have HPG := Lib.hid (fun w' (hb : Below w.heap.size w w') => And.intro (Pages_any (h1.below hb)) (Pages_any (h2.below hb)))
  have HMP := Lib.hid (fun w' (hb : Below w.heap.size w w') => And.intro (Mapped_any (h1.below hb)) (Mapped_any (h2.below hb)))
  have HDR := Lib.hid (fun w' (hb : Below w.heap.size w w') => And.intro (Dirty_any (h1.below hb)) (Dirty_any (h2.below hb)))
  have HPK := Lib.hid (fun w' (hb : Below w.heap.size w w') => And.intro (Peak_any (h1.below hb)) (Peak_any (h2.below hb)))
  obtain ⟨n, hn⟩ : ∃ n, n = m.n := ⟨_, rfl⟩
  rw [← hn] at HPG
  have hn2' : n ≤ 1024 := by omega
  clear h1 h2 hmp hn
  generalize m.mpd = M at HMP hmp'
  generalize m.dir = D at HDR hd
  generalize m.pk = K at HPK hd hpk
  clear hmp' hd hpk
  have hb0 := Below.refl w.heap.size w
  go_enter Try.func26, Try.ntmps26
  go_wp2_with fail
  refine (HPG.out _ hb0).1.mono ?_
  rintro e _ ⟨rfl, rfl⟩
  go_wp2_with fail
  refine (HPG.out _ hb0).2.mono ?_
  rintro e _ ⟨rfl, rfl⟩
  go_wp2_with fail
  refine (HMP.out _ hb0).1.mono ?_
  rintro e w1 ⟨rfl, hb1⟩
  go_wp2_with fail
  refine (HMP.out _ hb1).2.mono ?_
  rintro e w2 ⟨rfl, hb2⟩
  have hb3 := btr hb1 hb2 (Nat.le_refl _)
  go_wp2_with fail
  refine (HDR.out _ hb3).1.mono ?_
  rintro e _ ⟨rfl, rfl⟩
  go_wp2_with fail
  refine (HDR.out _ hb3).2.mono ?_
  rintro e _ ⟨rfl, rfl⟩
  go_wp2_with fail
  refine (HPK.out _ hb3).1.mono ?_
  rintro e _ ⟨rfl, rfl⟩
  go_wp2_with fail
  refine (HPK.out _ hb3).2.mono ?_
  rintro e _ ⟨rfl, rfl⟩
  go_wp2_with fail
  clear hb0 hb1 hb2
  go_loopw [5] (fun i wr => ∃ k : Nat, k ≤ n ∧ i = .int .i64 k ∧ Below w.heap.size w wr) (fun i _ => n - (intOf i).toNat)
  case atStart => exact ⟨0, by omega, rfl, hb3⟩
  case round =>
    obtain ⟨k, hk, rfl, hB⟩ := hrel
    clear hb3
    have HST := Lib.hid (fun w' (hb : Below w.heap.size w w') => And.intro (State_any (k : Int) (H1.out.below hb) ⟨by omega, by omega⟩) (State_any (k : Int) (H2.out.below hb) ⟨by omega, by omega⟩))
    generalize stV m k = S at HST
    go_wp2_with fail
    refine (HPG.out _ hB).1.mono ?_
    rintro e _ ⟨rfl, rfl⟩
    by_cases hlt : k < n
    · go_wp2_with fail
      refine (HST.out _ hB).1.mono ?_
      rintro e w4 ⟨rfl, hb4⟩
      have hB4 := btr hB hb4 (Nat.le_refl _)
      go_wp2_with fail
      refine (HST.out _ hB4).2.mono ?_
      rintro e w5 ⟨rfl, hb5⟩
      have hB5 := btr hB4 hb5 (Nat.le_refl _)
      clear hB hb4 hB4 hb5
      go_wp2_with fail
      go_loopw [6] (fun i wr => ∃ j : Nat, j ≤ 32 ∧ i = .int .i64 (8 * j : Nat) ∧ Below w.heap.size w wr) (fun i _ => 256 - (intOf i).toNat)
      case atStart => exact ⟨0, by omega, rfl, hB5⟩
      case round =>
        obtain ⟨j, hj, rfl, hB6⟩ := hrel
        clear hB5
        by_cases hjl : j < 32
        · have HRD := Lib.hid (fun w' (hb : Below w.heap.size w w') => And.intro (Read_any ((k : Int) * 256 + ((8 * j : Nat) : Int)) (H1.out.below hb) ⟨by omega, by omega⟩) (Read_any ((k : Int) * 256 + ((8 * j : Nat) : Int)) (H2.out.below hb) ⟨by omega, by omega⟩))
          generalize rdV m ((k : Int) * 256 + ((8 * j : Nat) : Int)) = V at HRD
          generalize rdE m ((k : Int) * 256 + ((8 * j : Nat) : Int)) = E at HRD
          go_wp2_with fail
          refine (HRD.out _ hB6).1.mono ?_
          rintro e w7 ⟨rfl, hb7⟩
          have hB7 := btr hB6 hb7 (Nat.le_refl _)
          go_wp2_with fail
          refine (HRD.out _ hB7).2.mono ?_
          rintro e w8 ⟨rfl, hb8⟩
          have hB8 := btr hB7 hb8 (Nat.le_refl _)
          clear hB6 hb7 hB7 hb8
          go_wp2_with fail
          go_roundw
          case rel => exact ⟨j + 1, by omega, by congr 1, hB8⟩
          case measure => simp [intOf]; omega
        · go_wp2_with fail
          go_roundw
          case rel => exact ⟨k + 1, by omega, by go_num, hB6⟩
          case measure => simp [intOf]; omega
    · go_wp2
      go_ret
      exact ⟨rfl, hB⟩

end Go.Proofs.Ytejjendklemebaa
