/- The statement about what is lost: what its call returns. -/
import Derived.Test.YtejjendklemebaaXa
namespace Go.Proofs.Ytejjendklemebaa
open Go.RowKit

/-- The word j of page p: what Read says of it. -/
theorem acc_pj (m : Mo) (p j : Nat) (hp : p < m.n) (hj : j < 32) : accM m ((p : Int) * 256 + ((8 * j : Nat) : Int)) 1 = decide (m.st p ≠ 0) := by
  have e : (p : Int) * 256 + ((8 * j : Nat) : Int) = 8 * ((32 * p + j : Nat) : Int) := by omega
  have e2 : (32 * p + j) / 32 = p := by omega
  rw [e]
  by_cases h : m.st p ≠ 0
  · rw [decide_eq_true h]
    exact accM_at (by omega) (by rw [e2]; exact h)
  · rw [decide_eq_false h]
    cases hc : accM m (8 * ((32 * p + j : Nat) : Int)) 1
    · rfl
    · obtain ⟨i, hi, _, hs⟩ := accM_one hc
      have : i = 32 * p + j := by omega
      subst this
      rw [e2] at hs
      exact absurd hs h
theorem rdV_pj (m : Mo) (p j : Nat) (hp : p < m.n) (hj : j < 32) : rdV m ((p : Int) * 256 + ((8 * j : Nat) : Int)) = if m.st p ≠ 0 then m.hd (32 * p + j) else 0 := by
  unfold rdV
  rw [acc_pj m p j hp hj]
  have e : (((p : Int) * 256 + ((8 * j : Nat) : Int)) / 8).toNat = 32 * p + j := by omega
  rw [e]
  by_cases h : m.st p ≠ 0
  · rw [decide_eq_true h, if_pos rfl, if_pos h]
  · rw [decide_eq_false h, if_neg (by simp), if_neg h]

theorem setM_in {m : Mo} {a b p : Nat} {v : Int} (h : a ≤ p ∧ p < a + b) : (setM m a b v).st p = v := by
  show (if a ≤ p ∧ p < a + b then v else m.st p) = v
  rw [if_pos h]
theorem setM_out {m : Mo} {a b p : Nat} {v : Int} (h : ¬ (a ≤ p ∧ p < a + b)) : (setM m a b v).st p = m.st p := by
  show (if a ≤ p ∧ p < a + b then v else m.st p) = m.st p
  rw [if_neg h]
theorem setM_twice (m : Mo) (a b : Nat) (u v : Int) : setM (setM m a b u) a b v = setM m a b v := by
  unfold setM
  simp only [Mo.mk.injEq, true_and, and_true]
  constructor <;> (funext p; split <;> simp_all)
theorem rd_in {m : Mo} {a b p j : Nat} (v : Int) (h : a ≤ p ∧ p < a + b) (hp : p < m.n) (hj : j < 32) : rdV (setM m a b v) ((p : Int) * 256 + ((8 * j : Nat) : Int)) = 0 := by
  rw [rdV_pj (setM m a b v) p j hp hj]
  split
  · show (if a ≤ (32 * p + j) / 32 ∧ (32 * p + j) / 32 < a + b then 0 else m.hd (32 * p + j)) = 0
    rw [if_pos (by omega)]
  · rfl
theorem rd_out {m : Mo} {a b p j : Nat} (v : Int) (h : ¬ (a ≤ p ∧ p < a + b)) (hp : p < m.n) (hj : j < 32) : rdV (setM m a b v) ((p : Int) * 256 + ((8 * j : Nat) : Int)) = rdV m ((p : Int) * 256 + ((8 * j : Nat) : Int)) := by
  rw [rdV_pj (setM m a b v) p j hp hj, rdV_pj m p j hp hj, setM_out h]
  split
  · show (if a ≤ (32 * p + j) / 32 ∧ (32 * p + j) / 32 < a + b then 0 else m.hd (32 * p + j)) = _
    rw [if_neg (by omega)]
  · rfl
theorem lose_in {m : Mo} {s k : Int} (h : loseE m s k = 0) : ∃ a b : Nat, s = a ∧ k = b ∧ 1 ≤ b ∧ a + b ≤ m.n ∧ ∀ v, loseD m s k v = setM m a b v := by
  have hin : inM m s k = true := by
    unfold loseE at h
    by_cases hin : inM m s k = true
    · exact hin
    · rw [if_neg hin] at h; omega
  obtain ⟨a, b, rfl, rfl, h1, h2⟩ := inM_bd hin
  refine ⟨a, b, rfl, rfl, h1, h2, fun v => ?_⟩
  unfold loseD
  rw [if_pos h]; rfl
/-- What was unmapped can be mapped. -/
theorem map_again {m : Mo} {a b : Nat} (h1 : 1 ≤ b) (h2 : a + b ≤ m.n) : mapE (setM m a b 0) a b = 0 ∧ mapD (setM m a b 0) a b = setM m a b 1 := by
  have hin : inM (setM m a b 0) a b = true := decide_eq_true ⟨by omega, by omega, by show (a : Int) < m.n; omega, by show (b : Int) ≤ m.n - a; omega⟩
  have hno : noneM (setM m a b 0) a b = true := noneM_true fun j hj => setM_in ⟨by omega, by omega⟩
  have he : mapE (setM m a b 0) a b = 0 := by
    unfold mapE
    rw [if_pos hin, show ((a : Int)).toNat = a from by omega, show ((b : Int)).toNat = b from by omega, if_pos hno]
  refine ⟨he, ?_⟩
  unfold mapD
  rw [if_pos he]
  exact setM_twice m a b 0 1

section
variable {w wS w' : World} {O : Nat → Prop} {B n a b p j : Nat} {m : Mo} {v : Int}
theorem st_in (h : Sp wS O B (setM m a b v)) (hn : n = m.n) (hb : Below wS.heap.size wS w') (hin : a ≤ p ∧ p < a + b) (hp : p < n) :
    Calls Try.prog 19 #[.pointer (some ⟨B, 0, none⟩), .int .i64 p] w' fun e w'' => e = .returned (.int .i64 v) ∧ Below w'.heap.size w' w'' := by
  have h2 := h.wf.n2
  have h3 : (setM m a b v).n = m.n := rfl
  refine (State_any (p : Int) (h.below hb) ⟨by omega, by omega⟩).mono fun e w'' ⟨he, hb⟩ => ⟨?_, hb⟩
  rw [he, stV_in (m := setM m a b v) (by show p < m.n; omega), setM_in hin]
theorem st_out (h : Sp wS O B (setM m a b v)) (hn : n = m.n) (hb : Below wS.heap.size wS w') (hin : ¬ (a ≤ p ∧ p < a + b)) (hp : p < n) :
    Calls Try.prog 19 #[.pointer (some ⟨B, 0, none⟩), .int .i64 p] w' fun e w'' => e = .returned (.int .i64 (m.st p)) ∧ Below w'.heap.size w' w'' := by
  have h2 := h.wf.n2
  have h3 : (setM m a b v).n = m.n := rfl
  refine (State_any (p : Int) (h.below hb) ⟨by omega, by omega⟩).mono fun e w'' ⟨he, hb⟩ => ⟨?_, hb⟩
  rw [he, stV_in (m := setM m a b v) (by show p < m.n; omega), setM_out hin]
theorem stT_any (h : Sp wS O B m) (hn : n = m.n) (hb : Below wS.heap.size wS w') (hp : p < n) :
    Calls Try.prog 19 #[.pointer (some ⟨B, 0, none⟩), .int .i64 p] w' fun e w'' => e = .returned (.int .i64 (m.st p)) ∧ Below w'.heap.size w' w'' := by
  have h2 := h.wf.n2
  refine (State_any (p : Int) (h.below hb) ⟨by omega, by omega⟩).mono fun e w'' ⟨he, hb⟩ => ⟨?_, hb⟩
  rw [he, stV_in (by omega)]
theorem rdS_in (h : Sp wS O B (setM m a b v)) (hn : n = m.n) (hb : Below wS.heap.size wS w') (hin : a ≤ p ∧ p < a + b) (hp : p < n) (hj : j < 32) :
    Calls Try.prog 23 #[.pointer (some ⟨B, 0, none⟩), .int .i64 ((p : Int) * 256 + ((8 * j : Nat) : Int))] w' fun e w'' => (∃ E, e = .returned (.tuple #[.int .i64 0, .int .i64 E])) ∧ Below w'.heap.size w' w'' := by
  have h2 := h.wf.n2
  have h3 : (setM m a b v).n = m.n := rfl
  refine (Read_any _ (h.below hb) ⟨by omega, by omega⟩).mono fun e w'' ⟨he, hb⟩ => ⟨⟨rdE (setM m a b v) ((p : Int) * 256 + ((8 * j : Nat) : Int)), ?_⟩, hb⟩
  rw [he, rd_in v hin (by omega) hj]
theorem rdS_out (h : Sp wS O B (setM m a b v)) (hn : n = m.n) (hb : Below wS.heap.size wS w') (hin : ¬ (a ≤ p ∧ p < a + b)) (hp : p < n) (hj : j < 32) {V : Int} (hV : rdV m ((p : Int) * 256 + ((8 * j : Nat) : Int)) = V) :
    Calls Try.prog 23 #[.pointer (some ⟨B, 0, none⟩), .int .i64 ((p : Int) * 256 + ((8 * j : Nat) : Int))] w' fun e w'' => (∃ E, e = .returned (.tuple #[.int .i64 V, .int .i64 E])) ∧ Below w'.heap.size w' w'' := by
  have h2 := h.wf.n2
  have h3 : (setM m a b v).n = m.n := rfl
  refine (Read_any _ (h.below hb) ⟨by omega, by omega⟩).mono fun e w'' ⟨he, hb⟩ => ⟨⟨rdE (setM m a b v) ((p : Int) * 256 + ((8 * j : Nat) : Int)), ?_⟩, hb⟩
  rw [he, rd_out v hin (by omega) hj, hV]
theorem rdT_any (h : Sp wS O B m) (hn : n = m.n) (hb : Below wS.heap.size wS w') (hp : p < n) (hj : j < 32) {V : Int} (hV : rdV m ((p : Int) * 256 + ((8 * j : Nat) : Int)) = V) :
    Calls Try.prog 23 #[.pointer (some ⟨B, 0, none⟩), .int .i64 ((p : Int) * 256 + ((8 * j : Nat) : Int))] w' fun e w'' => (∃ E, e = .returned (.tuple #[.int .i64 V, .int .i64 E])) ∧ Below w'.heap.size w' w'' := by
  have h2 := h.wf.n2
  exact (Read_any _ (h.below hb) ⟨by omega, by omega⟩).mono fun e w'' ⟨he, hb⟩ => ⟨⟨rdE m ((p : Int) * 256 + ((8 * j : Nat) : Int)), by rw [he, hV]⟩, hb⟩
end

set_option maxRecDepth 100000 in
set_option maxHeartbeats 2000000 in
theorem loses_walk (p : Int) (A : Option Addr) (c : Nat) (l : List Ac) (s k : Int) (um : Bool) (w : World) (hp0 : 0 ≤ p) (hp1 : p ≤ 255) (hl : l.length ≤ 9223372036854775807) (hA : ActsAt w w.heap.size A l) (hs : InR s) :
    Calls Try.prog 10 #[.int .u8 p, .slice A l.length c, .int .i64 s, .int .i64 k, .bool um] w (Yes w) := by
  have HAL := Lib.hid alive_any
  obtain ⟨N0, hn⟩ : ∃ n : Nat, p % 64 + 1 = n := ⟨(p % 64 + 1).toNat, by omega⟩
  have HMD := Lib.hid (fun w hA => made'_any p A c N0 l w hn hp0 hp1 hl hA)
  obtain ⟨L, hL⟩ : ∃ L, L = l.length := ⟨_, rfl⟩
  rw [← hL] at hl HMD ⊢
  have HG := Lib.hid (fun w => great_any A L c w hl)
  have HA := Lib.hid hA
  have HSR := Lib.hid hs
  clear hA hL hn hs
  by_cases h40 : 40 < L
  · rw [decide_eq_true h40] at HG
    go_enter Try.func10, Try.ntmps10
    go_wp2_with (first
      | (go_at_call 12; refine (HG.out _).mono ?_; rintro e _ ⟨rfl, rfl⟩)
      | (go_at_call 13; refine (HAL.out _).mono ?_; rintro e w1 ⟨rfl, hb1⟩))
    go_ret
    exact ⟨rfl, hb1⟩
  · rw [decide_eq_false h40] at HG
    clear h40 hl hp0 hp1
    go_enter Try.func10, Try.ntmps10
    go_wp2_with (first
      | (go_at_call 12; refine (HG.out _).mono ?_; rintro e _ ⟨rfl, rfl⟩))
    refine (HMD.out _ HA.out).mono ?_
    rintro e w1 ⟨B, rfl, hb1, hs1⟩
    go_wp2_with fail
    refine (Clone_any hs1).mono ?_
    rintro e w2 ⟨C, rfl, hb2, hs2⟩
    have HB1 := Lib.hid hb1
    have HB2 := Lib.hid hb2
    have HS1 := Lib.hid (hs1.below hb2)
    have HS2 := Lib.hid hs2
    clear hb1 hb2 hs1 hs2 HMD HG HA
    generalize runM (newM N0) l = m at HS1 HS2
    cases um
    · go_wp2_with fail
      refine (Release_any s k HS1.out HSR.out).mono ?_
      rintro e w3 ⟨rfl, hM⟩
      have HM := Lib.hid hM
      have hbl := (btr HB1.out HB2.out (Nat.le_refl _)).trans (hM.2.below (Nat.le_trans HB1.out.size HB2.out.size) nwlo)
      have HBS := Lib.hid hbl
      clear hM hbl
      by_cases hE : loseE m s k = 0
      · obtain ⟨a, b, rfl, rfl, hb1, hab, hD⟩ := lose_in hE
        rw [hE]
        have hs := HM.out.1
        rw [hD] at hs
        have HS := Lib.hid hs
        have HT := Lib.hid (HS2.out.keep HM.out.2 (fun k hk hk2 => by have := hk.1; have := hk2.2; omega))
        clear hs hE hD HM HS1 HS2 HB1 HB2
        obtain ⟨n, hn⟩ : ∃ n, n = m.n := ⟨_, rfl⟩
        have hn2 : n ≤ 1024 := by have := HT.out.wf.n2; omega
        rw [← hn] at hab
        have HN := Lib.hid hn
        have HPG := Lib.hid (fun w' (hb : Below w3.heap.size w3 w') => Pages_any (HS.out.below hb))
        rw [show (setM m a b 1).n = m.n from rfl, ← hn] at HPG
        clear hn
        go_wp2_with fail
        go_loopw [15] (fun i wr => ∃ p : Nat, p ≤ n ∧ i = .int .i64 p ∧ Below w3.heap.size w3 wr) (fun i _ => n - (intOf i).toNat)
        case atStart => exact ⟨0, by omega, rfl, Below.refl _ _⟩
        case round =>
          obtain ⟨p, hp, rfl, hB⟩ := hrel
          go_wp2_with fail
          refine (HPG.out _ hB).mono ?_
          rintro e _ ⟨rfl, rfl⟩
          by_cases hlt : p < n
          · obtain ⟨R, hR⟩ : ∃ R : Nat → Int, (fun j : Nat => rdV m ((p : Int) * 256 + ((8 * j : Nat) : Int))) = R := ⟨_, rfl⟩
            by_cases hin : a ≤ p ∧ p < a + b
            · obtain ⟨hin1, hin2⟩ := hin
              have HST := Lib.hid (fun w' (hb : Below w3.heap.size w3 w') => st_in HS.out HN.out hb ⟨hin1, hin2⟩ hlt)
              go_wp2_with fail
              refine (HST.out _ hB).mono ?_
              rintro e w4 ⟨rfl, hb4⟩
              have hB4 := btr hB hb4 (Nat.le_refl _)
              clear hB hb4
              go_wp2_with fail
              go_loopw [17] (fun i wr => ∃ j : Nat, j ≤ 32 ∧ i = .int .i64 (8 * j : Nat) ∧ Below w3.heap.size w3 wr) (fun i _ => 256 - (intOf i).toNat)
              case atStart => exact ⟨0, by omega, rfl, hB4⟩
              case round =>
                obtain ⟨j, hj, rfl, hB6⟩ := hrel
                clear hB4
                by_cases hjl : j < 32
                · have HR1 := Lib.hid (fun w' (hb : Below w3.heap.size w3 w') => rdS_in HS.out HN.out hb ⟨hin1, hin2⟩ hlt hjl)
                  have HR2 := Lib.hid (fun w' (hb : Below w3.heap.size w3 w') => rdT_any HT.out HN.out hb hlt hjl (congrFun hR j))
                  go_wp2_with fail
                  refine (HST.out _ hB6).mono ?_
                  rintro e w7 ⟨rfl, hb7⟩
                  have hB7 := btr hB6 hb7 (Nat.le_refl _)
                  go_wp2_with fail
                  refine (HR1.out _ hB7).mono ?_
                  rintro e w8 ⟨⟨E1, rfl⟩, hb8⟩
                  have hB8 := btr hB7 hb8 (Nat.le_refl _)
                  go_wp2_with fail
                  refine (HR2.out _ hB8).mono ?_
                  rintro e w9 ⟨⟨E2, rfl⟩, hb9⟩
                  have hB9 := btr hB8 hb9 (Nat.le_refl _)
                  clear hB6 hb7 hB7 hb8 hB8 hb9
                  generalize R j = V
                  go_wp2_with fail
                  go_roundw
                  case rel => exact ⟨j + 1, by omega, by congr 1, hB9⟩
                  case measure => simp [intOf]; omega
                · go_wp2_with fail
                  go_roundw
                  case rel => exact ⟨p + 1, by omega, by go_num, hB6⟩
                  case measure => simp [intOf]; omega
            · have hio : p < a ∨ a + b ≤ p := by omega
              have HST := Lib.hid (fun w' (hb : Below w3.heap.size w3 w') => st_out HS.out HN.out hb hin hlt)
              have HTT := Lib.hid (fun w' (hb : Below w3.heap.size w3 w') => stT_any HT.out HN.out hb hlt)
              have HR1 := Lib.hid (fun w' (hb : Below w3.heap.size w3 w') j (hj : j < 32) => rdS_out HS.out HN.out hb hin hlt hj (congrFun hR j))
              have HR2 := Lib.hid (fun w' (hb : Below w3.heap.size w3 w') j (hj : j < 32) => rdT_any HT.out HN.out hb hlt hj (congrFun hR j))
              clear hin hR
              generalize m.st p = S at HST HTT
              rcases hio with hio | hio
              · go_wp2_with fail
                refine (HST.out _ hB).mono ?_
                rintro e w4 ⟨rfl, hb4⟩
                have hB4 := btr hB hb4 (Nat.le_refl _)
                go_wp2_with fail
                refine (HTT.out _ hB4).mono ?_
                rintro e w5 ⟨rfl, hb5⟩
                have hB5 := btr hB4 hb5 (Nat.le_refl _)
                clear hB hb4 hB4 hb5
                go_wp2_with fail
                go_loopw [17] (fun i wr => ∃ j : Nat, j ≤ 32 ∧ i = .int .i64 (8 * j : Nat) ∧ Below w3.heap.size w3 wr) (fun i _ => 256 - (intOf i).toNat)
                case atStart => exact ⟨0, by omega, rfl, hB5⟩
                case round =>
                  obtain ⟨j, hj, rfl, hB6⟩ := hrel
                  clear hB5
                  by_cases hjl : j < 32
                  · go_wp2_with fail
                    refine (HST.out _ hB6).mono ?_
                    rintro e w7 ⟨rfl, hb7⟩
                    have hB7 := btr hB6 hb7 (Nat.le_refl _)
                    by_cases hS0 : S = 0
                    · have hS1 : (S == 0) = true := by simpa using hS0
                      clear hB6 hb7
                      go_wp2_with fail
                      go_roundw
                      case rel => exact ⟨p + 1, by omega, by go_num, hB7⟩
                      case measure => simp [intOf]; omega
                    · have hS1 : (S == 0) = false := by simpa using hS0
                      go_wp2_with fail
                      refine (HR1.out _ hB7 j hjl).mono ?_
                      rintro e w8 ⟨⟨E1, rfl⟩, hb8⟩
                      have hB8 := btr hB7 hb8 (Nat.le_refl _)
                      go_wp2_with fail
                      refine (HR2.out _ hB8 j hjl).mono ?_
                      rintro e w9 ⟨⟨E2, rfl⟩, hb9⟩
                      have hB9 := btr hB8 hb9 (Nat.le_refl _)
                      clear hB6 hb7 hB7 hb8 hB8 hb9
                      generalize R j = V
                      go_wp2_with fail
                      go_roundw
                      case rel => exact ⟨j + 1, by omega, by congr 1, hB9⟩
                      case measure => simp [intOf]; omega
                  · go_wp2_with fail
                    go_roundw
                    case rel => exact ⟨p + 1, by omega, by go_num, hB6⟩
                    case measure => simp [intOf]; omega
              · go_wp2_with fail
                refine (HST.out _ hB).mono ?_
                rintro e w4 ⟨rfl, hb4⟩
                have hB4 := btr hB hb4 (Nat.le_refl _)
                go_wp2_with fail
                refine (HTT.out _ hB4).mono ?_
                rintro e w5 ⟨rfl, hb5⟩
                have hB5 := btr hB4 hb5 (Nat.le_refl _)
                clear hB hb4 hB4 hb5
                go_wp2_with fail
                go_loopw [17] (fun i wr => ∃ j : Nat, j ≤ 32 ∧ i = .int .i64 (8 * j : Nat) ∧ Below w3.heap.size w3 wr) (fun i _ => 256 - (intOf i).toNat)
                case atStart => exact ⟨0, by omega, rfl, hB5⟩
                case round =>
                  obtain ⟨j, hj, rfl, hB6⟩ := hrel
                  clear hB5
                  by_cases hjl : j < 32
                  · go_wp2_with fail
                    refine (HST.out _ hB6).mono ?_
                    rintro e w7 ⟨rfl, hb7⟩
                    have hB7 := btr hB6 hb7 (Nat.le_refl _)
                    by_cases hS0 : S = 0
                    · have hS1 : (S == 0) = true := by simpa using hS0
                      clear hB6 hb7
                      go_wp2_with fail
                      go_roundw
                      case rel => exact ⟨p + 1, by omega, by go_num, hB7⟩
                      case measure => simp [intOf]; omega
                    · have hS1 : (S == 0) = false := by simpa using hS0
                      go_wp2_with fail
                      refine (HR1.out _ hB7 j hjl).mono ?_
                      rintro e w8 ⟨⟨E1, rfl⟩, hb8⟩
                      have hB8 := btr hB7 hb8 (Nat.le_refl _)
                      go_wp2_with fail
                      refine (HR2.out _ hB8 j hjl).mono ?_
                      rintro e w9 ⟨⟨E2, rfl⟩, hb9⟩
                      have hB9 := btr hB8 hb9 (Nat.le_refl _)
                      clear hB6 hb7 hB7 hb8 hB8 hb9
                      generalize R j = V
                      go_wp2_with fail
                      go_roundw
                      case rel => exact ⟨j + 1, by omega, by congr 1, hB9⟩
                      case measure => simp [intOf]; omega
                  · go_wp2_with fail
                    go_roundw
                    case rel => exact ⟨p + 1, by omega, by go_num, hB6⟩
                    case measure => simp [intOf]; omega
          · go_wp2_with fail
            refine (HAL.out _).mono ?_
            rintro e w5 ⟨rfl, hb5⟩
            go_wp2_with fail
            go_ret
            exact ⟨rfl, btr HBS.out (btr hB hb5 (Nat.le_refl _)) (Nat.le_refl _)⟩
      · generalize loseE m s k = E at hE
        have hq : (E == 0) = false := by simpa using hE
        clear hE
        go_wp2_with fail
        refine (HAL.out _).mono ?_
        rintro e w4 ⟨rfl, hb4⟩
        go_wp2_with fail
        go_ret
        exact ⟨rfl, btr HBS.out hb4 (Nat.le_refl _)⟩
    · go_wp2_with fail
      refine (Unmap_any s k HS1.out HSR.out).mono ?_
      rintro e w3 ⟨rfl, hM⟩
      have HM := Lib.hid hM
      have hbl := (btr HB1.out HB2.out (Nat.le_refl _)).trans (hM.2.below (Nat.le_trans HB1.out.size HB2.out.size) nwlo)
      have HBS := Lib.hid hbl
      clear hM hbl
      by_cases hE : loseE m s k = 0
      · obtain ⟨a, b, rfl, rfl, hb1, hab, hD⟩ := lose_in hE
        rw [hE]
        rw [hD] at HM
        have hn2 := HM.out.1.wf.n2
        have hn3 : (setM m a b 0).n = m.n := rfl
        clear hE hD HS1
        have HM3 := Lib.hid HM.out.1
        go_wp2_with fail
        go_loopw [14] (fun i wr => ∃ q : Nat, a ≤ q ∧ q ≤ a + b ∧ i = .int .i64 q ∧ Below w3.heap.size w3 wr) (fun i _ => a + b - (intOf i).toNat)
        case atStart => exact ⟨a, by omega, by omega, rfl, Below.refl _ _⟩
        case round =>
          obtain ⟨q, hq1, hq2, rfl, hBq⟩ := hrel
          by_cases hlt : q < a + b
          · have HST := Lib.hid (st_in (n := m.n) HM3.out rfl hBq ⟨hq1, hlt⟩ (by omega))
            go_wp2_with fail
            refine HST.out.mono ?_
            rintro e w4 ⟨rfl, hb4⟩
            have hB4 := btr hBq hb4 (Nat.le_refl _)
            clear hBq hb4
            go_wp2_with fail
            go_roundw
            case rel => exact ⟨q + 1, by omega, by omega, by go_num, hB4⟩
            case measure => simp [intOf]; omega
          · obtain ⟨hma, hmd⟩ := map_again hb1 hab
            go_wp2_with fail
            refine (Map_any (a : Int) (b : Int) (HM3.out.below hBq) HSR.out).mono ?_
            rintro e wT ⟨rfl, hM5⟩
            rw [hma]
            rw [hmd] at hM5
            have hsz := hBq.size
            have hK := HM.out.2.trans ((Keep.of (O := Ext (Nw w w1) w2 w3) hBq).trans (hM5.2.mono fun _ _ hk => .inl hk))
            have hs := hM5.1
            have HT := Lib.hid (HS2.out.keep hK (fun k hk hk2 => by have := hk.1; have := hk2.2; omega))
            have HS := Lib.hid hs
            have HBT := Lib.hid ((btr HB1.out HB2.out (Nat.le_refl _)).trans (hK.below (Nat.le_trans HB1.out.size HB2.out.size) nwlo))
            clear HBS
            have HBS := HBT
            clear hs hM5 hma hmd hsz hK HM HM3 HS2 HB1 HB2 HBT hq1 hq2 hlt hBq hn2 hn3
            obtain ⟨n, hn⟩ : ∃ n, n = m.n := ⟨_, rfl⟩
            have hn2 : n ≤ 1024 := by have := HT.out.wf.n2; omega
            rw [← hn] at hab
            have HN := Lib.hid hn
            have HPG := Lib.hid (fun w' (hb : Below wT.heap.size wT w') => Pages_any (HS.out.below hb))
            rw [show (setM m a b 1).n = m.n from rfl, ← hn] at HPG
            clear hn
            go_wp2_with fail
            go_loopw [15] (fun i wr => ∃ p : Nat, p ≤ n ∧ i = .int .i64 p ∧ Below wT.heap.size wT wr) (fun i _ => n - (intOf i).toNat)
            case atStart => exact ⟨0, by omega, rfl, Below.refl _ _⟩
            case round =>
              obtain ⟨p, hp, rfl, hB⟩ := hrel
              go_wp2_with fail
              refine (HPG.out _ hB).mono ?_
              rintro e _ ⟨rfl, rfl⟩
              by_cases hlt : p < n
              · obtain ⟨R, hR⟩ : ∃ R : Nat → Int, (fun j : Nat => rdV m ((p : Int) * 256 + ((8 * j : Nat) : Int))) = R := ⟨_, rfl⟩
                by_cases hin : a ≤ p ∧ p < a + b
                · obtain ⟨hin1, hin2⟩ := hin
                  have HST := Lib.hid (fun w' (hb : Below wT.heap.size wT w') => st_in HS.out HN.out hb ⟨hin1, hin2⟩ hlt)
                  go_wp2_with fail
                  refine (HST.out _ hB).mono ?_
                  rintro e w4 ⟨rfl, hb4⟩
                  have hB4 := btr hB hb4 (Nat.le_refl _)
                  clear hB hb4
                  go_wp2_with fail
                  go_loopw [17] (fun i wr => ∃ j : Nat, j ≤ 32 ∧ i = .int .i64 (8 * j : Nat) ∧ Below wT.heap.size wT wr) (fun i _ => 256 - (intOf i).toNat)
                  case atStart => exact ⟨0, by omega, rfl, hB4⟩
                  case round =>
                    obtain ⟨j, hj, rfl, hB6⟩ := hrel
                    clear hB4
                    by_cases hjl : j < 32
                    · have HR1 := Lib.hid (fun w' (hb : Below wT.heap.size wT w') => rdS_in HS.out HN.out hb ⟨hin1, hin2⟩ hlt hjl)
                      have HR2 := Lib.hid (fun w' (hb : Below wT.heap.size wT w') => rdT_any HT.out HN.out hb hlt hjl (congrFun hR j))
                      go_wp2_with fail
                      refine (HST.out _ hB6).mono ?_
                      rintro e w7 ⟨rfl, hb7⟩
                      have hB7 := btr hB6 hb7 (Nat.le_refl _)
                      go_wp2_with fail
                      refine (HR1.out _ hB7).mono ?_
                      rintro e w8 ⟨⟨E1, rfl⟩, hb8⟩
                      have hB8 := btr hB7 hb8 (Nat.le_refl _)
                      go_wp2_with fail
                      refine (HR2.out _ hB8).mono ?_
                      rintro e w9 ⟨⟨E2, rfl⟩, hb9⟩
                      have hB9 := btr hB8 hb9 (Nat.le_refl _)
                      clear hB6 hb7 hB7 hb8 hB8 hb9
                      generalize R j = V
                      go_wp2_with fail
                      go_roundw
                      case rel => exact ⟨j + 1, by omega, by congr 1, hB9⟩
                      case measure => simp [intOf]; omega
                    · go_wp2_with fail
                      go_roundw
                      case rel => exact ⟨p + 1, by omega, by go_num, hB6⟩
                      case measure => simp [intOf]; omega
                · have hio : p < a ∨ a + b ≤ p := by omega
                  have HST := Lib.hid (fun w' (hb : Below wT.heap.size wT w') => st_out HS.out HN.out hb hin hlt)
                  have HTT := Lib.hid (fun w' (hb : Below wT.heap.size wT w') => stT_any HT.out HN.out hb hlt)
                  have HR1 := Lib.hid (fun w' (hb : Below wT.heap.size wT w') j (hj : j < 32) => rdS_out HS.out HN.out hb hin hlt hj (congrFun hR j))
                  have HR2 := Lib.hid (fun w' (hb : Below wT.heap.size wT w') j (hj : j < 32) => rdT_any HT.out HN.out hb hlt hj (congrFun hR j))
                  clear hin hR
                  generalize m.st p = S at HST HTT
                  rcases hio with hio | hio
                  · go_wp2_with fail
                    refine (HST.out _ hB).mono ?_
                    rintro e w4 ⟨rfl, hb4⟩
                    have hB4 := btr hB hb4 (Nat.le_refl _)
                    go_wp2_with fail
                    refine (HTT.out _ hB4).mono ?_
                    rintro e w5 ⟨rfl, hb5⟩
                    have hB5 := btr hB4 hb5 (Nat.le_refl _)
                    clear hB hb4 hB4 hb5
                    go_wp2_with fail
                    go_loopw [17] (fun i wr => ∃ j : Nat, j ≤ 32 ∧ i = .int .i64 (8 * j : Nat) ∧ Below wT.heap.size wT wr) (fun i _ => 256 - (intOf i).toNat)
                    case atStart => exact ⟨0, by omega, rfl, hB5⟩
                    case round =>
                      obtain ⟨j, hj, rfl, hB6⟩ := hrel
                      clear hB5
                      by_cases hjl : j < 32
                      · go_wp2_with fail
                        refine (HST.out _ hB6).mono ?_
                        rintro e w7 ⟨rfl, hb7⟩
                        have hB7 := btr hB6 hb7 (Nat.le_refl _)
                        by_cases hS0 : S = 0
                        · have hS1 : (S == 0) = true := by simpa using hS0
                          clear hB6 hb7
                          go_wp2_with fail
                          go_roundw
                          case rel => exact ⟨p + 1, by omega, by go_num, hB7⟩
                          case measure => simp [intOf]; omega
                        · have hS1 : (S == 0) = false := by simpa using hS0
                          go_wp2_with fail
                          refine (HR1.out _ hB7 j hjl).mono ?_
                          rintro e w8 ⟨⟨E1, rfl⟩, hb8⟩
                          have hB8 := btr hB7 hb8 (Nat.le_refl _)
                          go_wp2_with fail
                          refine (HR2.out _ hB8 j hjl).mono ?_
                          rintro e w9 ⟨⟨E2, rfl⟩, hb9⟩
                          have hB9 := btr hB8 hb9 (Nat.le_refl _)
                          clear hB6 hb7 hB7 hb8 hB8 hb9
                          generalize R j = V
                          go_wp2_with fail
                          go_roundw
                          case rel => exact ⟨j + 1, by omega, by congr 1, hB9⟩
                          case measure => simp [intOf]; omega
                      · go_wp2_with fail
                        go_roundw
                        case rel => exact ⟨p + 1, by omega, by go_num, hB6⟩
                        case measure => simp [intOf]; omega
                  · go_wp2_with fail
                    refine (HST.out _ hB).mono ?_
                    rintro e w4 ⟨rfl, hb4⟩
                    have hB4 := btr hB hb4 (Nat.le_refl _)
                    go_wp2_with fail
                    refine (HTT.out _ hB4).mono ?_
                    rintro e w5 ⟨rfl, hb5⟩
                    have hB5 := btr hB4 hb5 (Nat.le_refl _)
                    clear hB hb4 hB4 hb5
                    go_wp2_with fail
                    go_loopw [17] (fun i wr => ∃ j : Nat, j ≤ 32 ∧ i = .int .i64 (8 * j : Nat) ∧ Below wT.heap.size wT wr) (fun i _ => 256 - (intOf i).toNat)
                    case atStart => exact ⟨0, by omega, rfl, hB5⟩
                    case round =>
                      obtain ⟨j, hj, rfl, hB6⟩ := hrel
                      clear hB5
                      by_cases hjl : j < 32
                      · go_wp2_with fail
                        refine (HST.out _ hB6).mono ?_
                        rintro e w7 ⟨rfl, hb7⟩
                        have hB7 := btr hB6 hb7 (Nat.le_refl _)
                        by_cases hS0 : S = 0
                        · have hS1 : (S == 0) = true := by simpa using hS0
                          clear hB6 hb7
                          go_wp2_with fail
                          go_roundw
                          case rel => exact ⟨p + 1, by omega, by go_num, hB7⟩
                          case measure => simp [intOf]; omega
                        · have hS1 : (S == 0) = false := by simpa using hS0
                          go_wp2_with fail
                          refine (HR1.out _ hB7 j hjl).mono ?_
                          rintro e w8 ⟨⟨E1, rfl⟩, hb8⟩
                          have hB8 := btr hB7 hb8 (Nat.le_refl _)
                          go_wp2_with fail
                          refine (HR2.out _ hB8 j hjl).mono ?_
                          rintro e w9 ⟨⟨E2, rfl⟩, hb9⟩
                          have hB9 := btr hB8 hb9 (Nat.le_refl _)
                          clear hB6 hb7 hB7 hb8 hB8 hb9
                          generalize R j = V
                          go_wp2_with fail
                          go_roundw
                          case rel => exact ⟨j + 1, by omega, by congr 1, hB9⟩
                          case measure => simp [intOf]; omega
                      · go_wp2_with fail
                        go_roundw
                        case rel => exact ⟨p + 1, by omega, by go_num, hB6⟩
                        case measure => simp [intOf]; omega
              · go_wp2_with fail
                refine (HAL.out _).mono ?_
                rintro e w5 ⟨rfl, hb5⟩
                go_wp2_with fail
                go_ret
                exact ⟨rfl, btr HBS.out (btr hB hb5 (Nat.le_refl _)) (Nat.le_refl _)⟩
      · generalize loseE m s k = E at hE
        have hq : (E == 0) = false := by simpa using hE
        have hq' : (E != 0) = true := by simpa using hE
        clear hE
        go_wp2_with fail
        refine (HAL.out _).mono ?_
        rintro e w4 ⟨rfl, hb4⟩
        go_wp2_with fail
        go_ret
        exact ⟨rfl, btr HBS.out hb4 (Nat.le_refl _)⟩

end Go.Proofs.Ytejjendklemebaa
