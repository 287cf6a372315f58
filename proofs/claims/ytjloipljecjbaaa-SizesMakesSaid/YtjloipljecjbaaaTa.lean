/- Tables of classes: what Valid and Class return. -/
import Derived.Test.YtjloipljecjbaaaLb
import Derived.Test.YtjloipljecjbaaaLc
import Derived.Deep.QuietTactic
namespace Go.Proofs.Ytjloipljecjbaaa
open Go.RowKit

/-- The slice's cells hold the classes, in blocks below B. -/
def TabAt (w : World) (B : Nat) (A : Option Addr) (t : List Cl) : Prop :=
  ∀ (k : Nat) (c : Cl), t[k]? = some c → ∃ b o : Nat, A = some ⟨b, o, none⟩ ∧ b < B ∧ w.cell? ⟨b, o + k * 3, none⟩ = some (.int .i64 c.s) ∧ w.cell? ⟨b, o + k * 3 + 1, none⟩ = some (.int .i64 c.p) ∧ w.cell? ⟨b, o + k * 3 + 2, none⟩ = some (.int .i64 c.b)

theorem TabAt.below {w w' : World} {B : Nat} {A : Option Addr} {t : List Cl} (h : TabAt w B A t) (hb : Below B w w') : TabAt w' B A t := fun k c hk => by
  obtain ⟨b, o, e, hB, h1, h2, h3⟩ := h k c hk
  exact ⟨b, o, e, hB, (hb.cell (p := ⟨b, _, none⟩) hB).trans h1, (hb.cell (p := ⟨b, _, none⟩) hB).trans h2, (hb.cell (p := ⟨b, _, none⟩) hB).trans h3⟩
theorem TabAt.more {w : World} {B B' : Nat} {A : Option Addr} {t : List Cl} (h : TabAt w B A t) (hb : B ≤ B') : TabAt w B' A t := fun k c hk => by
  obtain ⟨b, o, e, hB, h1, h2, h3⟩ := h k c hk
  exact ⟨b, o, e, Nat.lt_of_lt_of_le hB hb, h1, h2, h3⟩

instance : Inhabited Cl := ⟨⟨0, 0, 0⟩⟩
def prevS (t : List Cl) (k : Nat) : Int := if k = 0 then 0 else (t.getD (k - 1) default).s
def okAt (t : List Cl) (k : Nat) : Bool := okC (t.getD k default) && decide (prevS t k < (t.getD k default).s)
def okT (t : List Cl) : Bool := decide (1 ≤ t.length ∧ t.length ≤ 40) && (List.range t.length).all (okAt t)

def AllOk (t : List Cl) (k : Nat) : Prop := ∀ j : Nat, j < k → okAt t j = true
theorem AllOk.snoc {t : List Cl} {k : Nat} (h : AllOk t k) (h1 : okAt t k = true) : AllOk t (k + 1) := fun j hj => by
  rcases Nat.lt_or_ge j k with hlt | hge
  · exact h j hlt
  · obtain rfl : j = k := by omega
    exact h1
theorem okT_true {t : List Cl} (h1 : 1 ≤ t.length) (h2 : t.length ≤ 40) (h : AllOk t t.length) : okT t = true := by
  unfold okT
  rw [Bool.and_eq_true]
  exact ⟨decide_eq_true ⟨h1, h2⟩, List.all_eq_true.2 fun j hj => h j (List.mem_range.1 hj)⟩
theorem okT_len {t : List Cl} (h : okT t = true) : 1 ≤ t.length ∧ t.length ≤ 40 := by
  unfold okT at h
  rw [Bool.and_eq_true] at h
  exact of_decide_eq_true h.1
theorem okT_all {t : List Cl} (h : okT t = true) : AllOk t t.length := fun j hj => by
  unfold okT at h
  rw [Bool.and_eq_true] at h
  exact List.all_eq_true.1 h.2 j (List.mem_range.2 hj)
theorem okT_false {t : List Cl} {k : Nat} (hk : k < t.length) (h : okAt t k = false) : okT t = false := by
  rw [Bool.eq_false_iff]
  intro hT
  have := okT_all hT k hk
  rw [h] at this
  cases this
theorem okT_false_len {t : List Cl} (h : ¬ (1 ≤ t.length ∧ t.length ≤ 40)) : okT t = false := by
  rw [Bool.eq_false_iff]
  intro hT
  exact h (okT_len hT)

theorem prevS_succ (t : List Cl) (k : Nat) : prevS t (k + 1) = (t.getD k default).s := by unfold prevS; rw [if_neg (by omega)]; rfl
theorem prevS_zero (t : List Cl) : prevS t 0 = 0 := rfl

set_option maxRecDepth 100000 in
set_option maxHeartbeats 1000000 in
theorem Valid_any (A : Option Addr) (cap : Nat) (t : List Cl) (w : World) (hl : t.length ≤ 9223372036854775807) (hT : TabAt w w.heap.size A t) :
    Calls Try.prog 18 #[.slice A t.length cap] w fun e w' => e = .returned (.bool (okT t)) ∧ Below w.heap.size w w' := by
  by_cases hlen : 1 ≤ t.length ∧ t.length ≤ 40
  · obtain ⟨hl1, hl2⟩ := hlen
    obtain ⟨n, hn⟩ : ∃ n : Nat, n = t.length := ⟨_, rfl⟩
    have HN := Lib.hid hn
    rw [← hn] at hl hl1 hl2 ⊢
    clear hn
    have HT := Lib.hid hT
    clear hT
    go_enter Try.func18, Try.ntmps18
    go_wp2
    go_loopw [3, 16] (fun v i wr => ∃ k : Nat, k ≤ n ∧ i = .int .i64 k ∧ v = .int .i64 (prevS t k) ∧ AllOk t k ∧ Below w.heap.size w wr) (fun _ i _ => n - (intOf i).toNat)
    case atStart => exact ⟨0, by omega, rfl, rfl, fun _ h => absurd h (by omega), Below.refl _ _⟩
    case round =>
      obtain ⟨k, hk, rfl, rfl, hall, hB⟩ := hrel
      have HA := Lib.hid hall
      clear hall
      by_cases hlt : k < n
      · have hk' : k < t.length := by have := HN.out; omega
        obtain ⟨⟨cs, cp, cb⟩, hc⟩ : ∃ c, t[k]? = some c := ⟨_, List.getElem?_eq_getElem hk'⟩
        have hg : t.getD k default = ⟨cs, cp, cb⟩ := by rw [List.getD_eq_getElem?_getD, hc]; rfl
        have HG := Lib.hid hg
        obtain ⟨bk, o, rfl, hab, g1, g2, g3⟩ := (HT.out.below hB) k _ hc
        dsimp only at g1 g2 g3
        clear hg hc
        have at1 : okAt t k = (okC ⟨cs, cp, cb⟩ && decide (prevS t k < cs)) := by unfold okAt; rw [HG.out]
        have A1 := Lib.hid at1
        clear at1
        have nx : prevS t (k + 1) = cs := by rw [prevS_succ, HG.out]
        have NX := Lib.hid nx
        clear nx
        cases hok : okC ⟨cs, cp, cb⟩
        · go_wp2_with (go_at_call 31; refine (validClass_any _ _ _ _).mono ?_; rintro e w1 ⟨rfl, hb1⟩)
          go_ret
          exact ⟨ret_bool (okT_false hk' (by rw [A1.out, hok]; rfl)).symm, btr hB (btr (bnew wr _) hb1 (Nat.le_refl _)) (Nat.le_refl _)⟩
        · by_cases hgt : prevS t k < cs
          · go_wp2_with (go_at_call 31; refine (validClass_any _ _ _ _).mono ?_; rintro e w1 ⟨rfl, hb1⟩; have d0 := hb1.cell (p := ⟨wr.heap.size, 0, none⟩) (by simp))
            go_roundw
            case rel => exact ⟨k + 1, by omega, by go_num, by rw [NX.out], HA.out.snoc (by rw [A1.out, hok, decide_eq_true hgt]; rfl), btr hB (btr (bnew wr _) hb1 (Nat.le_refl _)) (Nat.le_refl _)⟩
            case measure => simp [intOf]; omega
          · go_wp2_with (go_at_call 31; refine (validClass_any _ _ _ _).mono ?_; rintro e w1 ⟨rfl, hb1⟩; have d0 := hb1.cell (p := ⟨wr.heap.size, 0, none⟩) (by simp))
            go_ret
            exact ⟨ret_bool (okT_false hk' (by rw [A1.out, hok, decide_eq_false (show ¬ prevS t k < cs by omega)]; rfl)).symm, btr hB (btr (bnew wr _) hb1 (Nat.le_refl _)) (Nat.le_refl _)⟩
      · go_wp2
        go_ret
        obtain rfl : k = n := by omega
        exact ⟨ret_bool (okT_true (by rw [← HN.out]; exact hl1) (by rw [← HN.out]; exact hl2) (by rw [← HN.out]; exact HA.out)).symm, hB⟩
  · have hf : okT t = false := okT_false_len hlen
    have HF := Lib.hid hf
    clear hf hT
    by_cases h1 : t.length < 1
    · go_enter Try.func18, Try.ntmps18
      go_wp2
      go_ret
      exact ⟨ret_bool HF.out.symm, Below.refl _ _⟩
    · have h2 : 40 < t.length := by omega
      clear hlen
      go_enter Try.func18, Try.ntmps18
      go_wp2
      go_ret
      exact ⟨ret_bool HF.out.symm, Below.refl _ _⟩

end Go.Proofs.Ytjloipljecjbaaa
