/- The statements about any list of classes: what each call returns. -/
import Derived.Test.YtjloipljecjbaaaWa
import Derived.Test.YtjloipljecjbaaaRc
namespace Go.Proofs.Ytjloipljecjbaaa
open Go.RowKit

theorem alB_cases {al : Int} (h : alB al = true) : al = 1 ∨ al = 2 ∨ al = 4 ∨ al = 8 ∨ al = 16 ∨ al = 32 ∨ al = 64 ∨ al = 128 ∨ al = 256 := by
  unfold alB at h
  simp at h
  omega

theorem alB_dvd {al wide : Int} (h : alB al = true) (h' : alB wide = true) (hle : al ≤ wide) : al ∣ wide := by
  rcases alB_cases h with rfl | rfl | rfl | rfl | rfl | rfl | rfl | rfl | rfl <;> rcases alB_cases h' with rfl | rfl | rfl | rfl | rfl | rfl | rfl | rfl | rfl <;> first | omega | decide

theorem first_le {t : List Cl} {sz al sz' al' : Int} (h : clsE t sz al = 0) (h' : clsE t sz' al' = 0) (hi : ∀ k, fitAt t sz' al' k = true → fitAt t sz al k = true) : clsV t sz al ≤ clsV t sz' al' := by
  obtain ⟨_, _, _, k, hk, hf, hv, _⟩ := clsE_ok h
  obtain ⟨_, _, _, k', hk', hf', hv', _⟩ := clsE_ok h'
  rw [hv, hv']
  obtain ⟨_, h1, h2⟩ := fnd_fit hf
  obtain ⟨_, h3, _⟩ := fnd_fit hf'
  rcases Nat.lt_or_ge k' k with hlt | hge
  · have := h2 k' hlt
    rw [hi k' h3] at this
    cases this
  · omega

theorem more_le {t : List Cl} {sz al more : Int} (h : clsE t sz al = 0) (h' : clsE t more al = 0) (hle : sz ≤ more) : clsV t sz al ≤ clsV t more al :=
  first_le h h' fun k hk => by
    unfold fitAt at *
    rw [Bool.and_eq_true] at *
    exact ⟨decide_eq_true (Int.le_trans hle (of_decide_eq_true hk.1)), hk.2⟩

theorem wide_le {t : List Cl} {sz al wide : Int} (h : clsE t sz al = 0) (h' : clsE t sz wide = 0) (hle : al ≤ wide) : clsV t sz al ≤ clsV t sz wide :=
  first_le h h' fun k hk => by
    obtain ⟨_, _, ha, _⟩ := clsE_ok h
    obtain ⟨_, _, hw, _⟩ := clsE_ok h'
    unfold fitAt at *
    rw [Bool.and_eq_true] at *
    refine ⟨hk.1, decide_eq_true ?_⟩
    have h1 := of_decide_eq_true hk.2
    exact Int.emod_eq_zero_of_dvd (Int.dvd_trans (alB_dvd ha hw hle) (Int.dvd_of_emod_eq_zero h1))

set_option maxRecDepth 100000 in
set_option maxHeartbeats 1000000 in
theorem monotone_walk (A : Option Addr) (cap : Nat) (t : List Cl) (sz more al wide : Int) (w : World) (hl : t.length ≤ 9223372036854775807) (hT : TabAt w w.heap.size A t) :
    Calls Try.prog 8 #[.slice A t.length cap, .int .i64 sz, .int .i64 more, .int .i64 al, .int .i64 wide] w (Yes w) := by
  have HA := Lib.hid alive_any
  by_cases hp : t.length ≤ 200 ∧ sz ≤ more ∧ al ≤ wide
  · obtain ⟨h200, hm, hw⟩ := hp
    have hml := fun h h' => more_le (t := t) (sz := sz) (al := al) (more := more) h h' hm
    have hwl := fun h h' => wide_le (t := t) (sz := sz) (al := al) (wide := wide) h h' hw
    have hC := fun (s a : Int) (W : World) (hW : TabAt W W.heap.size A t) => Class_any A cap t s a W hl hW
    have h1 := hC sz al
    have h2 := hC more al
    have h3 := hC sz wide
    generalize clsE t sz al = E1 at h1 hml hwl
    generalize clsE t more al = E2 at h2 hml
    generalize clsE t sz wide = E3 at h3 hwl
    generalize clsV t sz al = V1 at h1 hml hwl
    generalize clsV t more al = V2 at h2 hml
    generalize clsV t sz wide = V3 at h3 hwl
    have H1 := Lib.hid h1
    have H2 := Lib.hid h2
    have H3 := Lib.hid h3
    have HT := Lib.hid hT
    obtain ⟨n, hn⟩ : ∃ n : Nat, n = t.length := ⟨_, rfl⟩
    rw [← hn] at H1 H2 H3 hl h200 ⊢
    clear h1 h2 h3 hC hT hn
    by_cases e1 : E1 = 0
    · have q1 : (E1 != 0) = false := by simpa using e1
      by_cases e2 : E2 = 0
      · have q2 : (E2 != 0) = false := by simpa using e2
        have le2 := hml e1 e2
        by_cases e3 : E3 = 0
        · have q3 : (E3 != 0) = false := by simpa using e3
          have le3 := hwl e1 e3
          clear hml hwl e1 e2 e3
          go_enter Try.func8, Try.ntmps8
          go_wp2_with fail
          refine (H1.out _ HT.out).mono ?_
          rintro e w1 ⟨rfl, hb1⟩
          go_wp2_with fail
          refine (H2.out _ ((HT.out.below hb1).more hb1.size)).mono ?_
          rintro e w2 ⟨rfl, hb2⟩
          go_wp2_with fail
          refine (H3.out _ ((((HT.out.below hb1).more hb1.size).below hb2).more hb2.size)).mono ?_
          rintro e w3 ⟨rfl, hb3⟩
          go_wp2_with fail
          refine (HA.out _).mono ?_
          rintro e w4 ⟨rfl, hb4⟩
          go_wp2_with fail
          go_ret
          exact ⟨rfl, btr (btr (btr hb1 hb2 (Nat.le_refl _)) hb3 (Nat.le_refl _)) hb4 (Nat.le_refl _)⟩
        · have q3 : (E3 != 0) = true := by simpa using e3
          clear hml hwl e1 e2 e3
          go_enter Try.func8, Try.ntmps8
          go_wp2_with fail
          refine (H1.out _ HT.out).mono ?_
          rintro e w1 ⟨rfl, hb1⟩
          go_wp2_with fail
          refine (H2.out _ ((HT.out.below hb1).more hb1.size)).mono ?_
          rintro e w2 ⟨rfl, hb2⟩
          go_wp2_with fail
          refine (H3.out _ ((((HT.out.below hb1).more hb1.size).below hb2).more hb2.size)).mono ?_
          rintro e w3 ⟨rfl, hb3⟩
          go_wp2_with fail
          refine (HA.out _).mono ?_
          rintro e w4 ⟨rfl, hb4⟩
          go_wp2_with fail
          go_ret
          exact ⟨rfl, btr (btr (btr hb1 hb2 (Nat.le_refl _)) hb3 (Nat.le_refl _)) hb4 (Nat.le_refl _)⟩
      · have q2 : (E2 != 0) = true := by simpa using e2
        by_cases e3 : E3 = 0
        · have q3 : (E3 != 0) = false := by simpa using e3
          have le3 := hwl e1 e3
          clear hml hwl e1 e2 e3
          go_enter Try.func8, Try.ntmps8
          go_wp2_with fail
          refine (H1.out _ HT.out).mono ?_
          rintro e w1 ⟨rfl, hb1⟩
          go_wp2_with fail
          refine (H2.out _ ((HT.out.below hb1).more hb1.size)).mono ?_
          rintro e w2 ⟨rfl, hb2⟩
          go_wp2_with fail
          refine (H3.out _ ((((HT.out.below hb1).more hb1.size).below hb2).more hb2.size)).mono ?_
          rintro e w3 ⟨rfl, hb3⟩
          go_wp2_with fail
          refine (HA.out _).mono ?_
          rintro e w4 ⟨rfl, hb4⟩
          go_wp2_with fail
          go_ret
          exact ⟨rfl, btr (btr (btr hb1 hb2 (Nat.le_refl _)) hb3 (Nat.le_refl _)) hb4 (Nat.le_refl _)⟩
        · have q3 : (E3 != 0) = true := by simpa using e3
          clear hml hwl e1 e2 e3
          go_enter Try.func8, Try.ntmps8
          go_wp2_with fail
          refine (H1.out _ HT.out).mono ?_
          rintro e w1 ⟨rfl, hb1⟩
          go_wp2_with fail
          refine (H2.out _ ((HT.out.below hb1).more hb1.size)).mono ?_
          rintro e w2 ⟨rfl, hb2⟩
          go_wp2_with fail
          refine (H3.out _ ((((HT.out.below hb1).more hb1.size).below hb2).more hb2.size)).mono ?_
          rintro e w3 ⟨rfl, hb3⟩
          go_wp2_with fail
          refine (HA.out _).mono ?_
          rintro e w4 ⟨rfl, hb4⟩
          go_wp2_with fail
          go_ret
          exact ⟨rfl, btr (btr (btr hb1 hb2 (Nat.le_refl _)) hb3 (Nat.le_refl _)) hb4 (Nat.le_refl _)⟩
    · have q1 : (E1 != 0) = true := by simpa using e1
      clear hml hwl e1
      go_enter Try.func8, Try.ntmps8
      go_wp2_with fail
      refine (H1.out _ HT.out).mono ?_
      rintro e w1 ⟨rfl, hb1⟩
      go_wp2_with fail
      refine (H2.out _ ((HT.out.below hb1).more hb1.size)).mono ?_
      rintro e w2 ⟨rfl, hb2⟩
      go_wp2_with fail
      refine (H3.out _ ((((HT.out.below hb1).more hb1.size).below hb2).more hb2.size)).mono ?_
      rintro e w3 ⟨rfl, hb3⟩
      go_wp2_with fail
      refine (HA.out _).mono ?_
      rintro e w4 ⟨rfl, hb4⟩
      go_wp2_with fail
      go_ret
      exact ⟨rfl, btr (btr (btr hb1 hb2 (Nat.le_refl _)) hb3 (Nat.le_refl _)) hb4 (Nat.le_refl _)⟩
  · obtain ⟨n, hn⟩ : ∃ n : Nat, n = t.length := ⟨_, rfl⟩
    rw [← hn] at hl hp ⊢
    clear hT hn
    by_cases h1 : 200 < n
    · clear hp
      go_enter Try.func8, Try.ntmps8
      go_wp2_with fail
      refine (HA.out _).mono ?_
      rintro e w4 ⟨rfl, hb4⟩
      go_wp2_with fail
      go_ret
      exact ⟨rfl, hb4⟩
    · by_cases h2 : more < sz
      · clear hp
        go_enter Try.func8, Try.ntmps8
        go_wp2_with fail
        refine (HA.out _).mono ?_
        rintro e w4 ⟨rfl, hb4⟩
        go_wp2_with fail
        go_ret
        exact ⟨rfl, hb4⟩
      · have h3 : wide < al := by omega
        clear hp
        go_enter Try.func8, Try.ntmps8
        go_wp2_with fail
        refine (HA.out _).mono ?_
        rintro e w4 ⟨rfl, hb4⟩
        go_wp2_with fail
        go_ret
        exact ⟨rfl, hb4⟩

end Go.Proofs.Ytjloipljecjbaaa
