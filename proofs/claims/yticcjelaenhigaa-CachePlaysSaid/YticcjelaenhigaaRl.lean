/- The document's cache: Drain. -/
import Derived.Test.YticcjelaenhigaaRk
namespace Go.Proofs.Yticcjelaenhigaa
open Go.RowKit Go.Lib

set_option maxRecDepth 100000 in
set_option maxHeartbeats 4000000 in
theorem dDrain_any {O : Nat → Prop} {v : Value} {om : Option Tc} {w : World} (h : TOb true w O v om) : Calls Try.prog 49 #[v] w (RmsP true w O v drainV drainK om) := by
  cases om with
  | none =>
    obtain rfl := dno h
    have HM := Lib.hid (dmade_no w)
    have HP := Lib.hid (rms_no (f := drainV) (g := drainK) h (Below.refl _ _))
    clear h
    go_enter Try.func49, Try.ntmps49
    go_wp2_with (go_at_call 43; refine HM.out.mono ?_; rintro e w1 ⟨rfl, rfl⟩)
    go_ret
    exact HP.out
  | some c =>
    obtain ⟨i0, hi, hz0, hz1, hz2⟩ := info_parts infoBt
    obtain ⟨B, t, l, i, j, ct, cl, ci, cj, V, rfl, h⟩ := h
    have HM := Lib.hid (dmade_yes h)
    have H0 := Lib.hid (show ScI w w O B t l i j ct cl ci cj c drainV (onK drainK (List.range 0) c.K) (List.range 0) (.slice none 0 0) [] O V from
      ⟨by rw [show List.range 0 = [] from rfl, onK_nil]; exact h, fun q hq => .inl hq, Keep.refl _ _, World.ownsRow_nil _ _ _ _, rfl, fun x hx => (by cases hx), fun q hq => (by cases hq)⟩)
    obtain ⟨N, hN⟩ : ∃ N, c.K.length = N := ⟨_, rfl⟩
    have HN := Lib.hid hN
    have hN40 : N ≤ 40 := by rw [← hN]; exact h.wf.n40
    have HKW := Lib.hid h.wf.k
    clear h hN
    go_enter Try.func49, Try.ntmps49
    go_wp2_with (go_at_call 43; refine HM.out.mono ?_; rintro e w1 ⟨rfl, rfl⟩)
    go_loopw [3, 4] (fun va iv wr => ∃ (n : Nat) (X : List Bx) (O' : Nat → Prop) (V' : Nat → Value), n ≤ N ∧ iv = .int .i64 n ∧ ScI w wr O B t l i j ct cl ci cj c drainV (onK drainK (List.range n) c.K) (List.range n) va X O' V') (fun _ iv _ => N - (intOf iv).toNat)
    case atStart => exact ⟨0, _, _, _, Nat.zero_le _, rfl, H0.out⟩
    case round =>
      clear H0
      obtain ⟨n, X, O', V', hn, rfl, hS⟩ := hrel
      have HS := Lib.hid hS
      obtain ⟨A, cc, rfl⟩ := owns_form hS.row
      have h40 := hS.len (by omega)
      obtain ⟨p, hp⟩ : ∃ p, X.length = p := ⟨_, rfl⟩
      have HPP := Lib.hid hp
      have c00 := hS.rc.cells.1
      rw [show ({ c with K := onK drainK (List.range n) c.K } : Tc).K.length = N from by rw [← HN.out]; exact onK_len _ _ _] at c00
      rw [hp] at h40 ⊢
      by_cases hlt : n < N
      · obtain ⟨k, hk⟩ : ∃ k, c.K[n]? = some k := ⟨_, List.getElem?_eq_getElem (by have := HN.out; omega)⟩
        have hkh := onK_here (g := drainK) hk
        have hlN : (onK drainK (List.range n) c.K).length = N := by rw [onK_len]; exact HN.out
        have HKH := Lib.hid (And.intro hk (And.intro hkh hlN))
        obtain ⟨_, c2, _, _, ⟨A7, cp7, c7⟩, _⟩ := hS.cls hlN hkh
        have HO := Lib.hid (doldest_any hS.rc hkh (Nat.min_self _))
        have hm256 := (HKW.out k (List.mem_of_getElem? hk)).len
        obtain ⟨m, hm⟩ : ∃ m, k.l.length = m := ⟨_, rfl⟩
        have HMM := Lib.hid hm
        rw [hm] at HO c7 hm256
        have hn2 : (n : Int) < (N : Int) := by omega
        have hn0 : (0 : Int) ≤ (n : Int) := by omega
        clear hS hk hkh hlN hm hp
        rcases Nat.eq_zero_or_pos m with hm0 | hm0
        · subst hm0
          go_wp2_with (go_at_call 70; refine HO.out.mono ?_; rintro e w2 ⟨A2, c9, rfl, hrest⟩; obtain ⟨O3, V3, hs3, _⟩ := HS.out.old ⟨A2, c9, rfl, hrest⟩; have HS3 := Lib.hid (hs3.none HKH.out.1 (List.length_eq_zero_iff.1 ((drainV_len k).trans HMM.out))); obtain ⟨_, _, _, y4, _, _, _, y8, _, y10⟩ := hs3.cls (N := N) (n := n) (by rw [List.length_set]; exact HKH.out.2.2) (List.getElem?_set_self (by have := HKH.out.2.2; omega)); clear hs3 hrest)
          go_roundw
          case rel =>
            have h4 := HS3.out
            rw [← HMM.out] at h4
            obtain ⟨V4, h4⟩ := h4.drS HKH.out.2.1
            rw [onK_succ HKH.out.1, ← List.range_succ] at h4
            exact ⟨n + 1, X, O3, V4, by omega, by go_num, by have h5 := HPP.out; subst h5; exact h4⟩
          case measure => simp [intOf]; omega
        · have hmpos : ¬ (m : Int) ≤ 0 := by omega
          go_wp2_with (first
            | (go_at_call 70; refine HO.out.mono ?_; rintro e w2 ⟨A2, c9, rfl, hrest⟩; obtain ⟨O3, V3, hs3, hi3⟩ := HS.out.old ⟨A2, c9, rfl, hrest⟩; have HS3 := Lib.hid hs3; have HI3 := Lib.hid hi3; have HSZ := Lib.hid hs3.kp.size; clear hs3 hi3 hrest)
            | (at_builtin; refine wpList_append_own_at _ rfl _ _ 58 rfl w.heap.size 61 i0 (.agg #[.int .i64 0, .slice none 0 0]) 2 32 undBts hi hz0 hz1 hz2 rfl (by decide) (.slice A p cc) p (cellsX X) rfl (by have := HS3.out.row; rw [HPP.out] at this; exact this.alloc _) ⟨w2.heap.size, 0, none⟩ 1 1 [.int .i64 (n : Nat), .slice A2 m c9] rfl rfl (cells2_new w2 _ _ _) (one2 _ _ _ _) (by unfold maxLen; omega) (by omega) (by have := HSZ.out; simp; omega) ?_; intro v' w3 hown hgr hnil hat; have hs4 := HS3.out.one (f := drainV) (k := k) (x := n) (A' := A2) (c' := c9) (V2 := v') HKH.out.1 (fun e => by have h5 := drainV_len k; rw [e, HMM.out] at h5; simp at h5; omega) (by rw [show drainV k = k.l.take m from by unfold drainV; rw [HMM.out]]; exact HI3.out) (by rw [HPP.out, drainV_len, HMM.out]; exact hown) (by rw [HPP.out]; exact hgr) (by rw [HPP.out]; exact hat); have HS4 := Lib.hid hs4; obtain ⟨_, _, _, y4, _, _, _, y8, _, y10⟩ := hs4.cls (N := N) (n := n) (by rw [List.length_set]; exact HKH.out.2.2) (List.getElem?_set_self (by have := HKH.out.2.2; omega)); obtain ⟨A9, cc9, rfl⟩ := owns_form hown; clear hs4 hown hgr hnil hat))
          go_roundw
          case rel =>
            have h4 := HS4.out
            rw [← HMM.out] at h4
            obtain ⟨V4, h4⟩ := h4.drS HKH.out.2.1
            rw [onK_succ HKH.out.1, ← List.range_succ] at h4
            exact ⟨n + 1, _, O3, V4, by omega, by go_num, h4⟩
          case measure => simp [intOf]; omega
      · obtain rfl : n = N := by omega
        have hE := HS.out
        rw [show List.range n = List.range c.K.length from by rw [HN.out]] at hE
        have hE := hE.end
        rw [hp] at hE
        have HE := Lib.hid hE
        clear hE hS hp
        go_wp2_with fail
        go_ret
        exact HE.out
end Go.Proofs.Yticcjelaenhigaa
