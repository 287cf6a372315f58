/- The statement about Put and Take: what its call returns. -/
import Derived.Test.YtgklkjccfnbcdaaXd
namespace Go.Proofs.Ytgklkjccfnbcdaa
open Go.RowKit

theorem hl_back {f : Nat → Bool} {K n : Nat} (hK : K < n) (hf : f K = true) : (hl (upd f K false) 0 n).length + 1 = (hl f 0 n).length := by
  rw [hl_split (c := f) (k := 0) (m := K) (n := n) (by omega) (by omega), hl_split (c := upd f K false) (k := 0) (m := K) (n := n) (by omega) (by omega), hl_hit hK hf, hl_miss (c := upd f K false) hK (by unfold upd; rw [if_pos rfl]),
    hl_congr (c := upd f K false) (d := f) (k := 0) (n := K) (fun p _ h => by unfold upd; rw [if_neg (by omega)]), hl_congr (c := upd f K false) (d := f) (k := K + 1) (n := n) (fun p h _ => by unfold upd; rw [if_neg (by omega)]), List.length_append, List.length_append, List.length_cons]
  omega
theorem bits_back (m : Mo) (K : Nat) (hf : m.f K = true) : bitsS (some ((m.set K false).set K true)) = bitsS (some m) := by
  have : bts (some ((m.set K false).set K true)) = bts (some m) := by
    show (List.range m.n).map (fun k => bit (if k = K then true else if k = K then false else m.f k)) = (List.range m.n).map (fun k => bit (m.f k))
    refine List.map_congr_left fun k _ => ?_
    by_cases h : k = K
    · rw [if_pos h, h, hf]
    · rw [if_neg h, if_neg h]
  unfold bitsS
  rw [this]
theorem ff_back {m : Mo} {K : Nat} (hK : K < m.n) (h : ∀ j, j < K → m.f j = true) : ff (m.set K false) = some K :=
  ff_some (m := m.set K false) hK (by show upd m.f K false K = false; unfold upd; rw [if_pos rfl]) fun j hj => by
    show upd m.f K false j = true
    unfold upd
    rw [if_neg (by omega), h j hj]
theorem quo_back (m : Mo) (hz : 8 ≤ m.z) (K : Nat) : ((adr m K : Int) - (m.s : Int) * 256) / m.z = K ∧ ((adr m K : Int) - (m.s : Int) * 256).tdiv m.z = K := by
  have e : (adr m K : Int) - (m.s : Int) * 256 = (K : Int) * m.z := by rw [← adrI]; omega
  have h : ((adr m K : Int) - (m.s : Int) * 256) / m.z = K := by rw [e]; exact Int.mul_ediv_cancel _ (by omega)
  refine ⟨h, ?_⟩
  rw [Int.tdiv_eq_ediv_of_nonneg (by rw [e, ← Int.natCast_mul]; omega)]
  exact h

set_option maxRecDepth 100000 in
set_option maxHeartbeats 4000000 in
theorem back_walk (st s p b : Int) (A : Option Addr) (c : Nat) (l : List Ac) (a3 : Int) (w : World) (hlen : l.length ≤ 9223372036854775807) (hA : ActsAt w w.heap.size A l) (h3 : 0 ≤ a3 ∧ a3 ≤ 255) :
    Calls Try.prog 7 #[.int .i64 st, .agg #[.int .i64 s, .int .i64 p, .int .i64 b], .slice A l.length c, .int .u8 a3] w (Yes w) := by
  have HAL := Lib.hid alive_any
  obtain ⟨W0, hW, hb0, hz, x0, x1, x2⟩ := new3 w (.int .i64 s) (.int .i64 p) (.int .i64 b) 23
  have HB0 := Lib.hid hb0
  have HX := Lib.hid (fun (w1 : World) (hb1 : Below W0.heap.size W0 w1) => (hb1.cell (p := ⟨w.heap.size, 0, none⟩) (Nat.lt_of_succ_le hz)).trans x0)
  have HMD := Lib.hid (made'_any st s p b A c l W0 hlen ((hA.below hb0).more hb0.size))
  have HWS := Lib.hid (show w.heap.size < W0.heap.size by omega)
  obtain ⟨L, hL⟩ : ∃ L, L = l.length := ⟨_, rfl⟩
  rw [← hL] at hlen HMD ⊢
  have HG := Lib.hid (fun w => great_any A L c w hlen)
  clear hA hL hb0 hz
  by_cases h60 : 60 < L
  · rw [decide_eq_true h60] at HG
    clear h60
    go_enter Try.func7, Try.ntmps7
    go_wp2_with (first | (go_at_call 10; refine (HG.out _).mono ?_; rintro e _ ⟨rfl, rfl⟩) | (go_at_call 11; refine (HAL.out _).mono ?_; rintro e w2 ⟨rfl, hb⟩; have B2 := Lib.hid (btr HB0.out hb (Nat.le_refl _)); clear hb))
    go_ret
    exact ⟨rfl, B2.out⟩
  · rw [decide_eq_false h60] at HG
    clear h60
    by_cases hf : fitB st ⟨s, p, b⟩ = true
    · rw [show newO st ⟨s, p, b⟩ = some (newM st ⟨s, p, b⟩) from if_pos hf] at HMD
      obtain ⟨f, hr⟩ := runO_some l (newM st ⟨s, p, b⟩)
      have hwf0 := newM_wf hf
      obtain ⟨hok, f1, f2⟩ := fit_get hf
      obtain ⟨a1, a2, a3, a4, a5, a6, a7, a8⟩ := okC_bd hok
      dsimp only at f2 a1 a2 a3 a4 a5 a6 a7 a8
      obtain ⟨S, rfl⟩ : ∃ S : Nat, st = (S : Int) := ⟨st.toNat, by omega⟩
      obtain ⟨Z, rfl⟩ : ∃ S : Nat, s = (S : Int) := ⟨s.toNat, by omega⟩
      obtain ⟨G, rfl⟩ : ∃ S : Nat, p = (S : Int) := ⟨p.toNat, by omega⟩
      obtain ⟨T, rfl⟩ : ∃ S : Nat, b = (S : Int) := ⟨b.toNat, by omega⟩
      obtain ⟨m, hm⟩ : ∃ m : Mo, m = { newM (S : Int) ⟨Z, G, T⟩ with f := f } := ⟨_, rfl⟩
      rw [hr, ← hm] at HMD
      have hms : m.s = S := by rw [hm]; rfl
      have hmz : m.z = Z := by rw [hm]; rfl
      have hwf : WF m := by rw [hm]; exact ⟨hwf0.s1, hwf0.z1, hwf0.z2, hwf0.g1, hwf0.g2, hwf0.t1, hwf0.t2, hwf0.nn, hwf0.n1, hwf0.n2, hwf0.nz⟩
      clear hf hr hwf0 hok hm f1 f2 a1 a2 a3 a4 a5 a6 a7 a8
      subst hms hmz
      have hn2 := hwf.n2
      have HWF := Lib.hid hwf
      have hsz := bits_size m
      have HIX := Lib.hid (fun (k : Nat) (hk : k < m.n) => bits_at (m := m) hk)
      have HTK := Lib.hid (fun (W : World) (O : Nat → Prop) (v : Option Addr) (h : Ob false W O (.pointer v) (some m)) => show Calls Try.prog 25 #[.pointer v] W fun e w' => e = .returned (.int .i64 ((tkn m).length : Nat)) ∧ Below W.heap.size W w' from Taken_any h)
      have hC128 : (tkn m).length ≤ 128 := by
        have := hl_len m.f 0 m.n
        unfold tkn
        omega
      obtain ⟨C, hC⟩ : ∃ C, (tkn m).length = C := ⟨_, rfl⟩
      rw [hC] at HTK hC128
      by_cases hC0 : C = 0
      · obtain rfl := hC0
        rw [show ((0 : Nat) : Int) = 0 from rfl] at HTK
        clear hC h3
        go_enter Try.func7, Try.ntmps7
        go_wp2_with (first
          | (go_at_call 10; refine (HG.out _).mono ?_; rintro e _ ⟨rfl, rfl⟩)
          | (go_at_call 18; refine HMD.out.mono ?_; intro e w2 hm; obtain ⟨B, rfl, ho⟩ := hm.yes; have HO2 := Lib.hid ho; clear hm ho x0 x1 x2)
          | (go_at_call 25; refine (HTK.out _ _ _ HO2.out.1).mono ?_; rintro e w3 ⟨rfl, hb⟩; have HO3 := Lib.hid (HO2.out.below hb); clear hb)
          | (go_at_call 11; refine (HAL.out _).mono ?_; rintro e w9 ⟨rfl, hb⟩; have B9 := Lib.hid (btr HB0.out (btr HO3.out.2 hb (Nat.le_refl _)) (Nat.le_refl _)); clear hb))
        go_ret
        exact ⟨rfl, B9.out⟩
      · have hq : ((C : Int) == 0) = false := by simp; omega
        have hm0 := Int.emod_nonneg a3 (show (C : Int) ≠ 0 by omega)
        have hm1 := Int.emod_lt_of_pos a3 (show (0 : Int) < C by omega)
        obtain ⟨j, hj⟩ : ∃ j, (a3 % (C : Int)).toNat = j := ⟨_, rfl⟩
        have hjC : j < C := by omega
        have hmod : a3 % (C : Int) = (j : Int) := by omega
        have hmod2 : (wrap64 a3).tmod (C : Int) = (j : Int) := by rw [(w64 a3 (by omega)).1, Int.tmod_eq_emod_of_nonneg h3.1]; exact hmod
        clear hm0 hm1 hmod
        obtain ⟨K, hK⟩ : ∃ K, (tkn m)[j]? = some K := ⟨_, List.getElem?_eq_getElem (by omega)⟩
        have hKm := hl_mem.1 (List.mem_of_getElem? hK)
        have hKn : K < m.n := hKm.1.2
        have hKf : m.f K = true := hKm.2
        have HLS := Lib.hid (fun (W : World) (O : Nat → Prop) (v : Option Addr) (h : Ob false W O (.pointer v) (some m)) => show Calls Try.prog 26 #[.pointer v] W fun e w' => ∃ g c, e = .returned (.slice (some ⟨g, 0, none⟩) C c) ∧ w'.cell? ⟨g, j, none⟩ = some (.int .i64 (adr m K)) ∧ Below W.heap.size W w' from (List_any h).mono fun e w' hp => by
          obtain ⟨A, c, e1, hh, hb⟩ := hp
          have : (lst (some m)).length = C := by rw [← hC]; exact List.length_map ..
          rw [this] at e1
          obtain ⟨g, rfl, _, _, hc⟩ := hh j (adr m K) (by show ((tkn m).map (adr m))[j]? = _; rw [List.getElem?_map, hK]; rfl)
          exact ⟨g, c, e1, hc, hb⟩)
        have hob := obO_some hwf hKn (a := (adr m K : Int)) rfl
        have hob2 := obO_some (m := m.set K false) (hwf.set K false) hKn (a := (adr m K : Int)) rfl
        have hbd := (adr_bd hwf (Nat.le_of_lt hKn)).1
        have HP1 := Lib.hid (fun (W : World) (O : Nat → Prop) (v : Value) (h : Ob false W O v (some m)) => show Calls Try.prog 28 #[v, .int .i64 (adr m K)] W fun e w' => e = .returned (.int .i64 0) ∧ Mut false W O v (some (m.set K false)) w' from by
          have := Put_any h (adr m K) ⟨by omega, by omega⟩
          rwa [ptE_on hob hKf, ptD_on hob hKf] at this)
        have HP2 := Lib.hid (fun (W : World) (O : Nat → Prop) (v : Value) (h : Ob false W O v (some (m.set K false))) => show Calls Try.prog 28 #[v, .int .i64 (adr m K)] W fun e w' => e = .returned (.int .i64 9) ∧ Mut false W O v (some (m.set K false)) w' from by
          have := Put_any h (adr m K) ⟨by omega, by omega⟩
          have hf2 : (m.set K false).f K = false := by show upd m.f K false K = false; unfold upd; rw [if_pos rfl]
          rwa [ptE_off hob2 hf2, ptD_off hob2 hf2] at this)
        have HT2 := Lib.hid (fun (W : World) (O : Nat → Prop) (v : Option Addr) (h : Ob false W O (.pointer v) (some (m.set K false))) => show Calls Try.prog 25 #[.pointer v] W fun e w' => e = .returned (.int .i64 ((C : Int) - 1)) ∧ Below W.heap.size W w' from by
          have := Taken_any h
          have hl2 : (tkO (some (m.set K false))).length + 1 = C := by rw [← hC]; exact hl_back hKn hKf
          rwa [show (((tkO (some (m.set K false))).length : Nat) : Int) = (C : Int) - 1 from by omega] at this)
        have HTA := Lib.hid (fun (hh : ∀ j, j < K → m.f j = true) (W : World) (O : Nat → Prop) (v : Value) (h : Ob false W O v (some (m.set K false))) => show Calls Try.prog 27 #[v] W fun e w' => e = .returned (.tuple #[.int .i64 (adr m K), .int .i64 0]) ∧ Mut false W O v (some ((m.set K false).set K true)) w' from by
          have := Take_any h
          have hf := ff_back hKn hh
          rwa [tkV_some hf, tkE_some hf, tkD_some hf] at this)
        have HB1 := Lib.hid (fun (W : World) (O : Nat → Prop) (v : Value) (h : Ob false W O v (some m)) => Bits_any h)
        have HB2 := Lib.hid (fun (W : World) (O : Nat → Prop) (v : Value) (h : Ob false W O v (some ((m.set K false).set K true))) => show Calls Try.prog 24 #[v] W fun e w' => e = .returned (.string (bitsS (some m))) ∧ Below W.heap.size W w' from by
          have := Bits_any h
          rwa [bits_back m K hKf] at this)
        obtain ⟨t1, t2⟩ := quo_back m hwf.z1 K
        have E1 := Lib.hid (w64 ((m.s : Int) * 256) (by have := hwf.s1; omega))
        have E2 := Lib.hid (w64 ((adr m K : Int) - (m.s : Int) * 256) (by have := hwf.s1; omega))
        have E3 := Lib.hid (w64 (K : Int) (by omega))
        have E4 := Lib.hid (w64 ((C : Int) - 1) (by omega))
        have E5 := Lib.hid (w64 a3 (by omega))
        have E6 := Lib.hid (w64 (j : Int) (by omega))
        have hz0 : ((m.z : Int) == 0) = false := by have := hwf.z1; simp; omega
        have hK0 : decide ((K : Int) < 0) = false := decide_eq_false (by omega)
        have hK1 : decide ((m.n : Int) ≤ K) = false := decide_eq_false (by omega)
        have hK2 : decide (m.n ≤ K) = false := decide_eq_false (by omega)
        clear hob hob2 hKm hK hC hC0 hj
        generalize hAD : adr m K = AD at *
        clear hAD
        generalize bitsS (some m) = SS at *
        have HQQ := Lib.hid (show wrap64 ((wrap64 ((AD : Int) - wrap64 ((m.s : Int) * 256))).tdiv m.z) = (K : Int) by rw [E1.out.1, E2.out.1, t2, E3.out.1])
        have hz8 := hwf.z1
        clear h3 t1 t2
        go_enter Try.func7, Try.ntmps7
        go_wp2_with (first
          | (go_at_call 10; refine (HG.out _).mono ?_; rintro e _ ⟨rfl, rfl⟩)
          | (go_at_call 18; refine HMD.out.mono ?_; intro e w2 hm; obtain ⟨B, rfl, ho⟩ := hm.yes; have HO2 := Lib.hid ho; clear hm ho x0 x1 x2)
          | (go_at_call 25; refine (HTK.out _ _ _ HO2.out.1).mono ?_; rintro e w3 ⟨rfl, hb⟩; have HO3 := Lib.hid (HO2.out.below hb); clear hb HTK)
          | (go_at_call 26; refine (HLS.out _ _ _ HO3.out.1).mono ?_; rintro e w4 ⟨g, cg, rfl, hc, hb⟩; have HO4 := Lib.hid (HO3.out.below hb); clear hb)
          | (go_at_call 24; refine (HB1.out _ _ _ HO4.out.1).mono ?_; rintro e w5 ⟨rfl, hb⟩; have HO5 := Lib.hid (HO4.out.below hb); have z0 := HX.out _ HO5.out.2; clear hb hc HB1))
        clear hmod2
        rw [HQQ.out]
        refine (HP1.out _ _ _ HO5.out.1).mono ?_
        rintro e w6 ⟨rfl, hM⟩
        have HO6 := Lib.hid (HO5.out.step hM)
        clear hM z0
        go_wp2_with fail
        refine (HT2.out _ _ _ HO6.out.1).mono ?_
        rintro e w7 ⟨rfl, hb⟩
        have HO7 := Lib.hid (HO6.out.below hb)
        clear hb
        obtain ⟨y7, y8⟩ := E4.out
        go_wp2_with fail
        refine (HP2.out _ _ _ HO7.out.1).mono ?_
        rintro e w8 ⟨rfl, hM⟩
        have HO8 := Lib.hid (HO7.out.step hM)
        clear hM y7 y8
        go_wp2_with fail
        go_loopw [14] (fun i wr => ∃ k : Nat, k ≤ K ∧ i = .int .i64 k ∧ wr = w8 ∧ ∀ j, j < k → m.f j = true) (fun i _ => K - (intOf i).toNat)
        case atStart => exact ⟨0, by omega, rfl, rfl, fun j hj => by omega⟩
        case round =>
          obtain ⟨k, hk, rfl, rfl, hon⟩ := hrel
          have HON := Lib.hid hon
          clear hon
          by_cases hlt : k < K
          · have hix := HIX.out k (by omega)
            cases hfk : m.f k with
            | true =>
              rw [hfk] at hix
              replace hix : ∀ w, (Instr.index 9 (.string SS) (.int .i64 k)).run Try.prog w = .ok (.int .u8 49) w := hix
              have HF := Lib.hid hfk
              clear hfk
              go_wp2_with fail
              go_roundw
              case rel => exact ⟨k + 1, by omega, by go_num, trivial, fun j hj => by
                by_cases e : j = k
                · rw [e]; exact HF.out
                · exact HON.out j (by omega)⟩
              case measure => simp [intOf]; omega
            | false =>
              rw [hfk] at hix
              replace hix : ∀ w, (Instr.index 9 (.string SS) (.int .i64 k)).run Try.prog w = .ok (.int .u8 48) w := hix
              clear hfk
              go_wp2_with fail
              refine (HAL.out _).mono ?_
              rintro e w9 ⟨rfl, hb⟩
              have B9 := Lib.hid (btr HB0.out (btr HO8.out.2 hb (Nat.le_refl _)) (Nat.le_refl _))
              clear hb
              go_wp2_with fail
              go_ret
              exact ⟨rfl, B9.out⟩
          · have HT := Lib.hid (HTA.out (fun j hj => HON.out j (by omega)))
            go_wp2_with fail
            refine (HT.out _ _ _ HO8.out.1).mono ?_
            rintro e w9 ⟨rfl, hM⟩
            have HO9 := Lib.hid (HO8.out.step hM)
            clear hM
            go_wp2_with fail
            refine (HB2.out _ _ _ HO9.out.1).mono ?_
            rintro e w10 ⟨rfl, hb⟩
            have HO10 := Lib.hid (HO9.out.below hb)
            clear hb
            go_wp2_with fail
            refine (HAL.out _).mono ?_
            rintro e w11 ⟨rfl, hb⟩
            have B11 := Lib.hid (btr HB0.out (btr HO10.out.2 hb (Nat.le_refl _)) (Nat.le_refl _))
            clear hb
            go_wp2_with fail
            go_ret
            exact ⟨rfl, B11.out⟩
    · rw [show newO st ⟨s, p, b⟩ = none from if_neg hf, runO_none] at HMD
      clear hf
      go_enter Try.func7, Try.ntmps7
      go_wp2_with (first | (go_at_call 10; refine (HG.out _).mono ?_; rintro e _ ⟨rfl, rfl⟩) | (go_at_call 18; refine HMD.out.mono ?_; intro e w2 hm; obtain ⟨rfl, hb⟩ := hm.no; have B2 := Lib.hid (btr HB0.out hb (Nat.le_refl _)); clear hm hb) | (go_at_call 11; refine (HAL.out _).mono ?_; rintro e w3 ⟨rfl, hb⟩; have B3 := Lib.hid (btr B2.out hb (Nat.le_refl _)); clear hb))
      go_ret
      exact ⟨rfl, B3.out⟩

end Go.Proofs.Ytgklkjccfnbcdaa
