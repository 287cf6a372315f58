/- The statements about refusals and clones: what their calls return. -/
import Derived.Test.YtnmejilpifmlnaaDoorFd
namespace Go.Proofs.YtnmejilpifmlnaaDoor
open Go.RowKit

/-- True, and nothing that lay before has changed. -/
def Yes (w : World) (e : Ending) (w' : World) : Prop := e = .returned (.bool true) ∧ Below w.heap.size w w'
theorem nwlo {w w1 : World} : ∀ k, Nw w w1 k → w.heap.size ≤ k := fun _ hk => hk.1
theorem givE_err {m : Mo} {s k : Int} (h : givE m s k ≠ 0) : givD m s k = m := by unfold givD; rw [if_neg h]
theorem trE_err {m : Mo} {s k : Int} (h : trE m s k ≠ 0) : trD m s k = m := by unfold trD; rw [if_neg h]
theorem tkE_err {m : Mo} {p a : Int} (h : tkE m p a ≠ 0) : tkD m p a = m := by
  unfold tkE at h
  unfold tkD
  split
  · rename_i ho
    rw [if_pos ho] at h
    cases hb : tkB m p a with
    | none => rfl
    | some r => rw [hb] at h; exact absurd rfl h
  · rfl
theorem do_err {m : Mo} {x : Ac} (h : doE m x ≠ 0) : doM m x = m := by
  unfold doE at h
  unfold doM
  split
  · rename_i h0; rw [if_pos h0] at h; exact givE_err h
  · rename_i h0
    rw [if_neg h0] at h
    split
    · rename_i h1; rw [if_pos h1] at h; exact tkE_err h
    · rename_i h1
      rw [if_neg h1] at h
      split
      · rename_i h2; rw [if_pos h2] at h; exact trE_err h
      · rfl

theorem Alive (w : World) (ht : Tab w) : ∀ W, Below w.heap.size w W → Calls Tryd.prog 13 #[] W fun e w' => e = .returned (.bool true) ∧ Below w.heap.size w w' := fun W hb =>
  (alive_any W (ht.below hb)).mono fun _ _ ⟨he, hb'⟩ => ⟨he, btr hb hb' (Nat.le_refl _)⟩
theorem Made (p : Int) (A : Option Addr) (c n : Nat) (l : List Ac) (w : World) (hp : p % 1024 + 1 = n) (hp0 : 0 ≤ p) (hp1 : p ≤ 65535) (hl : l.length ≤ 9223372036854775807) (hA : ActsAt w w.heap.size A l) (ht : Tab w) :
    ∀ W, Below w.heap.size w W → Calls Tryd.prog 23 #[.int .u16 p, .slice A l.length c] W (MadePost W (runM (newM n) l)) := fun W hb =>
  made'_any p A c n l W hp hp0 hp1 hl ((hA.below hb).more hb.size) (ht.below hb)

set_option maxRecDepth 100000 in
set_option maxHeartbeats 1000000 in
theorem refuses_walk (p : Int) (A : Option Addr) (c : Nat) (l : List Ac) (x : Ac) (w : World) (ht : Tab w) (hp0 : 0 ≤ p) (hp1 : p ≤ 65535) (hl : l.length ≤ 9223372036854775807) (hA : ActsAt w w.heap.size A l) (hx : AcR x) :
    Calls Tryd.prog 10 #[.int .u16 p, .slice A l.length c, .agg #[.int .i64 x.k, .int .i64 x.a, .int .i64 x.b]] w (Yes w) := by
  have HAL := Lib.hid (Alive w ht)
  obtain ⟨n, hn⟩ : ∃ n : Nat, p % 1024 + 1 = n := ⟨(p % 1024 + 1).toNat, by omega⟩
  have HMD := Lib.hid (Made p A c n l w hn hp0 hp1 hl hA ht)
  have h1w := ht.lt
  obtain ⟨L, hL⟩ : ∃ L, L = l.length := ⟨_, rfl⟩
  rw [← hL] at hl HMD ⊢
  have HG := Lib.hid (fun w => great_any A L c w hl)
  have HX := Lib.hid hx
  obtain ⟨W0, hW, hb0, hz, c0, c1, c2⟩ := new3 w (.int .i64 x.k) (.int .i64 x.a) (.int .i64 x.b) 33
  have HB0 := Lib.hid hb0
  clear hA hL hn hx hb0 ht
  by_cases h40 : 40 < L
  · rw [decide_eq_true h40] at HG
    go_enter Tryd.func10, Tryd.ntmps10
    go_wp2_with fail
    refine (HG.out _).mono ?_
    rintro e _ ⟨rfl, rfl⟩
    go_wp2_with fail
    refine (HAL.out _ HB0.out).mono ?_
    rintro e w1 ⟨rfl, hb1⟩
    go_wp2_with fail
    go_ret
    exact ⟨rfl, hb1⟩
  · rw [decide_eq_false h40] at HG
    clear h40
    go_enter Tryd.func10, Tryd.ntmps10
    go_wp2_with fail
    refine (HG.out _).mono ?_
    rintro e _ ⟨rfl, rfl⟩
    go_wp2_with fail
    refine (HMD.out _ HB0.out).mono ?_
    rintro e w1 ⟨B, rfl, hb1, hs1⟩
    go_wp2_with fail
    refine (Clone_any hs1).mono ?_
    rintro e w2 ⟨C, rfl, hb2, hs2⟩
    have d0 := (hb2.cell (p := ⟨w.heap.size, 0, none⟩) (Nat.lt_of_lt_of_le hz hb1.size)).trans ((hb1.cell (p := ⟨w.heap.size, 0, none⟩) hz).trans c0)
    have d1 := (hb2.cell (p := ⟨w.heap.size, 1, none⟩) (Nat.lt_of_lt_of_le hz hb1.size)).trans ((hb1.cell (p := ⟨w.heap.size, 1, none⟩) hz).trans c1)
    have d2 := (hb2.cell (p := ⟨w.heap.size, 2, none⟩) (Nat.lt_of_lt_of_le hz hb1.size)).trans ((hb1.cell (p := ⟨w.heap.size, 2, none⟩) hz).trans c2)
    have HBW := Lib.hid (btr (btr HB0.out hb1 (Nat.le_refl _)) hb2 (Nat.le_refl _))
    have HZ := Lib.hid (And.intro HB0.out.size (And.intro hb1.size hb2.size))
    have HS1 := Lib.hid (hs1.below hb2)
    have HS2 := Lib.hid hs2
    clear hb1 hb2 hs1 hs2 c0 c1 c2 hz
    have HER := Lib.hid (do_err (m := runM (newM n) l) (x := x))
    go_wp2_with fail
    refine (do_at x HS1.out HX.out).mono ?_
    rintro e w3 ⟨rfl, hM⟩
    have HM := Lib.hid hM
    have HB3 := Lib.hid (hM.bel HBW.out (fun k hk => by have := hk.1; have := HZ.out.1; omega))
    clear hM
    generalize doE (runM (newM n) l) x = E at HER
    by_cases hE : E = 0
    · subst hE
      clear HER
      go_wp2_with fail
      refine (HAL.out _ HB3.out).mono ?_
      rintro e w4 ⟨rfl, hb4⟩
      go_wp2_with fail
      go_ret
      exact ⟨rfl, hb4⟩
    · have HEQ := Lib.hid (HER.out hE)
      have hq : (E == 0) = false := by simpa using hE
      clear hE
      go_wp2_with fail
      have ht := HS2.out.keep HM.out.2 (fun k hk hk2 => by have := hk.1; have := hk2.2; omega) (fun hk => by have := hk.1; have := HZ.out.1; omega)
      have hs := HM.out.1
      rw [HEQ.out] at hs
      refine (alike_any hs ht).mono ?_
      rintro e w4 ⟨rfl, hb4⟩
      clear ht hs
      go_wp2_with fail
      refine (HAL.out _ (btr HB3.out hb4 (Nat.le_refl _))).mono ?_
      rintro e w5 ⟨rfl, hb5⟩
      go_wp2_with fail
      go_ret
      exact ⟨rfl, hb5⟩

end Go.Proofs.YtnmejilpifmlnaaDoor
