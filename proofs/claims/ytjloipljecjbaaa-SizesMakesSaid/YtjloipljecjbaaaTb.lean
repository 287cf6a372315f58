/- Tables of classes: what Class and Slack return. -/
import Derived.Test.YtjloipljecjbaaaTa
namespace Go.Proofs.Ytjloipljecjbaaa
open Go.RowKit

def fitAt (t : List Cl) (sz al : Int) (k : Nat) : Bool := decide (sz ≤ (t.getD k default).s) && decide ((t.getD k default).s % al = 0)
def NoFit (t : List Cl) (sz al : Int) (k : Nat) : Prop := ∀ j : Nat, j < k → fitAt t sz al j = false
theorem NoFit.snoc {t : List Cl} {sz al : Int} {k : Nat} (h : NoFit t sz al k) (h1 : fitAt t sz al k = false) : NoFit t sz al (k + 1) := fun j hj => by
  rcases Nat.lt_or_ge j k with hlt | hge
  · exact h j hlt
  · obtain rfl : j = k := by omega
    exact h1
def fnd (t : List Cl) (sz al : Int) : Option Nat := (List.range t.length).find? (fitAt t sz al)
theorem fnd_some {t : List Cl} {sz al : Int} {k : Nat} (hk : k < t.length) (h : NoFit t sz al k) (h1 : fitAt t sz al k = true) : fnd t sz al = some k := by
  unfold fnd
  rw [List.find?_range_eq_some]
  exact ⟨h1, List.mem_range.2 hk, fun j hj => by rw [h j hj]; rfl⟩
theorem fnd_none {t : List Cl} {sz al : Int} (h : NoFit t sz al t.length) : fnd t sz al = none := by
  unfold fnd
  rw [List.find?_range_eq_none]
  exact fun j hj => by rw [h j hj]; rfl

/-- What Class returns: the number, the error. -/
def clsV (t : List Cl) (sz al : Int) : Int := if okT t = true ∧ 1 ≤ sz ∧ alB al = true then ((fnd t sz al).getD 0 : Nat) else 0
def clsE (t : List Cl) (sz al : Int) : Int := if okT t = true then if 1 ≤ sz ∧ alB al = true then if (fnd t sz al).isSome = true then 0 else 4 else 1 else 2

theorem alB_pos {al : Int} (h : alB al = true) : 1 ≤ al := by
  rcases Int.lt_or_le al 1 with h1 | h1
  · rw [alB_out al (.inl h1)] at h; cases h
  · exact h1
theorem okT_pos {t : List Cl} {k : Nat} (h : okT t = true) (hk : k < t.length) : 8 ≤ (t.getD k default).s ∧ (t.getD k default).s ≤ 512 := by
  have h1 := okT_all h k hk
  unfold okAt at h1
  rw [Bool.and_eq_true] at h1
  have h2 := okC_bd (s := (t.getD k default).s) (p := (t.getD k default).p) (b := (t.getD k default).b) h1.1
  exact ⟨h2.1, h2.2.1⟩

set_option maxRecDepth 100000 in
set_option maxHeartbeats 1000000 in
theorem Class_any (A : Option Addr) (cap : Nat) (t : List Cl) (sz al : Int) (w : World) (hl : t.length ≤ 9223372036854775807) (hT : TabAt w w.heap.size A t) :
    Calls Try.prog 25 #[.slice A t.length cap, .int .i64 sz, .int .i64 al] w fun e w' => e = .returned (.tuple #[.int .i64 (clsV t sz al), .int .i64 (clsE t sz al)]) ∧ Below w.heap.size w w' := by
  have hV := Valid_any A cap t
  cases hok : okT t
  · have e1 : clsV t sz al = 0 := by unfold clsV; rw [hok]; rfl
    have e2 : clsE t sz al = 2 := by unfold clsE; rw [hok]; rfl
    have E1 := Lib.hid e1
    have E2 := Lib.hid e2
    clear e1 e2
    have HV := Lib.hid hV
    have HT := Lib.hid hT
    clear hV hT
    go_enter Try.func25, Try.ntmps25
    go_wp2_with (go_at_call 18; refine (HV.out _ hl HT.out).mono ?_; rintro e w1 ⟨rfl, hb1⟩)
    go_ret2
    exact ⟨ret_two E1.out.symm E2.out.symm, hb1⟩
  · by_cases hsz : 1 ≤ sz
    · cases hal : alB al
      · have e1 : clsV t sz al = 0 := by unfold clsV; rw [hal, if_neg (by simp)]
        have e2 : clsE t sz al = 1 := by unfold clsE; rw [if_pos hok, hal, if_neg (by simp)]
        have E1 := Lib.hid e1
        have E2 := Lib.hid e2
        clear e1 e2
        have HV := Lib.hid hV
        have HT := Lib.hid hT
        clear hV hT
        go_enter Try.func25, Try.ntmps25
        go_wp2_with (first | (go_at_call 18; refine (HV.out _ hl HT.out).mono ?_; rintro e w1 ⟨rfl, hb1⟩) | (go_at_call 38; refine (validAlign_any _ _).mono ?_; rintro e w' ⟨rfl, rfl⟩))
        go_ret2
        exact ⟨ret_two E1.out.symm E2.out.symm, hb1⟩
      · have hap := alB_pos hal
        have hpos : ∀ k, k < t.length → 8 ≤ (t.getD k default).s := fun k hk => (okT_pos hok hk).1
        have HP := Lib.hid hpos
        clear hpos
        have e1 : clsV t sz al = ((fnd t sz al).getD 0 : Nat) := by unfold clsV; rw [if_pos ⟨hok, hsz, hal⟩]
        have e2 : clsE t sz al = if (fnd t sz al).isSome = true then 0 else 4 := by unfold clsE; rw [if_pos hok, if_pos ⟨hsz, hal⟩]
        have E1 := Lib.hid e1
        have E2 := Lib.hid e2
        clear e1 e2
        obtain ⟨n, hn⟩ : ∃ n : Nat, n = t.length := ⟨_, rfl⟩
        have HN := Lib.hid hn
        have HV := Lib.hid hV
        have HT := Lib.hid hT
        rw [← hn] at hl ⊢
        rw [← hn] at HV
        clear hV hT hn
        have hs0 : decide (sz < 1) = false := decide_eq_false (by omega)
        go_enter Try.func25, Try.ntmps25
        go_wp2_with (first | (go_at_call 18; refine (HV.out _ (by have := HN.out; omega) HT.out).mono ?_; rintro e w1 ⟨rfl, hb1⟩) | (go_at_call 38; refine (validAlign_any _ _).mono ?_; rintro e w' ⟨rfl, rfl⟩))
        go_loopw [22] (fun i wr => ∃ k : Nat, k ≤ n ∧ i = .int .i64 k ∧ NoFit t sz al k ∧ Below w.heap.size w wr) (fun i _ => n - (intOf i).toNat)
        case atStart => exact ⟨0, by omega, rfl, fun _ h => absurd h (by omega), hb1⟩
        case round =>
          obtain ⟨k, hk, rfl, hall, hB⟩ := hrel
          have HA := Lib.hid hall
          clear hall hb1
          by_cases hlt : k < n
          · have hk' : k < t.length := by have := HN.out; omega
            obtain ⟨⟨cs, cp, cb⟩, hc⟩ : ∃ c, t[k]? = some c := ⟨_, List.getElem?_eq_getElem hk'⟩
            have hg : t.getD k default = ⟨cs, cp, cb⟩ := by rw [List.getD_eq_getElem?_getD, hc]; rfl
            obtain ⟨bk, o, rfl, hab, g1, g2, g3⟩ := (HT.out.below hB) k _ hc
            dsimp only at g1 g2 g3
            have at1 : fitAt t sz al k = (decide (sz ≤ cs) && decide (cs % al = 0)) := by unfold fitAt; rw [hg]
            have A1 := Lib.hid at1
            have hcs : 8 ≤ cs := by have h8 := HP.out k hk'; rw [hg] at h8; exact h8
            clear hg hc at1
            have HK := Lib.hid hk'
            clear hk'
            by_cases hge : sz ≤ cs
            · by_cases hmod : cs % al = 0
              · have hm : (cs % al == 0) = true := by rw [hmod]; rfl
                have hft := fnd_some HK.out HA.out (by rw [A1.out, decide_eq_true hge, decide_eq_true hmod]; rfl)
                have FT := Lib.hid hft
                clear hmod hft
                go_wp2
                go_ret2
                exact ⟨ret_two (by rw [E1.out, FT.out]; rfl) (by rw [E2.out, FT.out]; rfl), btr hB (bnew wr _) (Nat.le_refl _)⟩
              · have hm : (cs % al == 0) = false := by simpa using hmod
                have hx : fitAt t sz al k = false := by rw [A1.out, decide_eq_false hmod, Bool.and_false]
                have HX := Lib.hid hx
                clear hmod hx
                go_wp2
                go_roundw
                case rel => exact ⟨k + 1, by omega, by go_num, HA.out.snoc HX.out, btr hB (bnew wr _) (Nat.le_refl _)⟩
                case measure => simp [intOf]; omega
            · have hx : fitAt t sz al k = false := by rw [A1.out, decide_eq_false hge]; rfl
              have HX := Lib.hid hx
              clear hx
              go_wp2
              go_roundw
              case rel => exact ⟨k + 1, by omega, by go_num, HA.out.snoc HX.out, btr hB (bnew wr _) (Nat.le_refl _)⟩
              case measure => simp [intOf]; omega
          · go_wp2
            go_ret2
            obtain rfl : k = n := by omega
            have hft := fnd_none (t := t) (sz := sz) (al := al) (by rw [← HN.out]; exact HA.out)
            exact ⟨ret_two (by rw [E1.out, hft]; rfl) (by rw [E2.out, hft]; rfl), hB⟩
    · have e1 : clsV t sz al = 0 := by unfold clsV; rw [if_neg (by omega)]
      have e2 : clsE t sz al = 1 := by unfold clsE; rw [if_pos hok, if_neg (by omega)]
      have E1 := Lib.hid e1
      have E2 := Lib.hid e2
      clear e1 e2
      have HV := Lib.hid hV
      have HT := Lib.hid hT
      clear hV hT
      go_enter Try.func25, Try.ntmps25
      go_wp2_with (go_at_call 18; refine (HV.out _ hl HT.out).mono ?_; rintro e w1 ⟨rfl, hb1⟩)
      go_ret2
      exact ⟨ret_two E1.out.symm E2.out.symm, hb1⟩

end Go.Proofs.Ytjloipljecjbaaa
