/- The statement about Take: what its call returns. -/
import Derived.Test.YtgklkjccfnbcdaaXa
namespace Go.Proofs.Ytgklkjccfnbcdaa
open Go.RowKit

/-- The lowest free object below k, or -1. -/
def fstI (f : Nat → Bool) (k : Nat) : Int := match (List.range k).find? (fun k => !f k) with
  | some j => j
  | none => -1
theorem fst_ff (m : Mo) : ffI m = fstI m.f m.n := rfl
theorem fst_on {f : Nat → Bool} {k : Nat} (h : f k = true) : fstI f (k + 1) = fstI f k := by
  unfold fstI
  rw [List.range_succ, List.find?_append]
  have : [k].find? (fun k => !f k) = none := by simp [h]
  rw [this, Option.or_none]
theorem fst_off {f : Nat → Bool} {k : Nat} (h : f k = false) (h0 : fstI f k < 0) : fstI f (k + 1) = k := by
  unfold fstI at *
  rw [List.range_succ, List.find?_append]
  have : [k].find? (fun k => !f k) = some k := by simp [h]
  rw [this]
  cases e : (List.range k).find? (fun k => !f k) with
  | none => rfl
  | some j => rw [e] at h0; dsimp only at h0; omega
theorem fst_old {f : Nat → Bool} {k : Nat} (h0 : ¬ fstI f k < 0) : fstI f (k + 1) = fstI f k := by
  unfold fstI at *
  rw [List.range_succ, List.find?_append]
  cases e : (List.range k).find? (fun k => !f k) with
  | none => rw [e] at h0; dsimp only at h0; omega
  | some j => rfl
theorem fst_bd (f : Nat → Bool) (k : Nat) : -1 ≤ fstI f k ∧ fstI f k < k + 1 := by
  unfold fstI
  cases e : (List.range k).find? (fun k => !f k) with
  | none => dsimp only; omega
  | some j =>
    have := List.mem_range.1 (List.mem_of_find?_eq_some e)
    dsimp only
    omega

theorem bts_get {m : Mo} {k : Nat} (hk : k < m.n) : (bts (some m))[k]? = some (bit (m.f k)) := by
  show ((List.range m.n).map (fun k => bit (m.f k)))[k]? = _
  rw [List.getElem?_map, List.getElem?_range hk]; rfl
theorem bits_size (m : Mo) : (bitsS (some m)).size = m.n := by
  show ((bts (some m)).toArray).size = m.n
  unfold bts
  simp
theorem bits_at {m : Mo} {k : Nat} (hk : k < m.n) (w : World) : (Instr.index 9 (.string (bitsS (some m))) (.int .i64 k)).run Try.prog w = .ok (.int .u8 (bitI (m.f k))) w := by
  have hs := bits_size m
  rw [run_index_string w 9 _ .i64 k Try.underlying9, dif_pos ⟨by omega, by omega⟩]
  congr 2
  have h1 : (bitsS (some m))[k]'(by omega) = bit (m.f k) := by
    have h2 := bts_get hk
    show ((bts (some m)).toArray)[k]'(by show k < (bitsS (some m)).size; omega) = _
    have h3 := (List.getElem?_eq_some_iff.1 h2).2
    simpa using h3
  have h2 : (bitsS (some m))[(k : Int).toNat]'(by rw [Int.toNat_natCast]; omega) = bit (m.f k) := h1
  rw [h2]
  unfold bit bitI
  cases m.f k <;> rfl
/-- The string with one character set. -/
theorem bits_set {m : Mo} {k : Nat} (hk : k < m.n) : (bitsS (some m)).extract 0 k ++ ⟨#[49]⟩ ++ (bitsS (some m)).extract (k + 1) m.n = bitsS (some (m.set k true)) := by
  have hl : (bts (some m)).length = m.n := by unfold bts; simp
  have hl2 : (bts (some (m.set k true))).length = m.n := by unfold bts; simp [Mo.set]
  have e : bts (some (m.set k true)) = (bts (some m)).take k ++ [49] ++ (bts (some m)).drop (k + 1) := by
    refine List.ext_getElem? fun i => ?_
    by_cases hi : i < m.n
    · have h1 : (bts (some (m.set k true)))[i]? = some (bit ((m.set k true).f i)) := bts_get (m := m.set k true) hi
      rw [h1]
      show some (bit (if i = k then true else m.f i)) = _
      rcases Nat.lt_trichotomy i k with h | h | h
      · rw [if_neg (by omega), List.append_assoc, List.getElem?_append_left (by rw [List.length_take]; omega), List.getElem?_take, if_pos h, bts_get hi]
      · subst h
        rw [if_pos rfl, List.append_assoc, List.getElem?_append_right (by rw [List.length_take]; omega), List.length_take, show i - min i (bts (some m)).length = 0 from by omega]
        rfl
      · rw [if_neg (by omega), List.getElem?_append_right (by rw [List.length_append, List.length_take, List.length_singleton]; omega), List.length_append, List.length_take, List.length_singleton, List.getElem?_drop, show k + 1 + (i - (min k (bts (some m)).length + 1)) = i from by omega, bts_get hi]
    · rw [List.getElem?_eq_none (by omega), List.getElem?_eq_none (by rw [List.length_append, List.length_append, List.length_take, List.length_drop, List.length_singleton]; omega)]
  apply ByteArray.ext
  unfold bitsS
  rw [e]
  simp [ByteArray.data_append, ByteArray.data_extract]
  exact List.take_of_length_le (by rw [List.length_drop]; omega)

theorem str_add (a b : ByteArray) (h : a.size + b.size ≤ 1000) (w : World) : (Op.stringOp .add a b).run Try.prog w = .ok (.string (a ++ b)) w := by
  have h2 : ¬ ((a.size + b.size : Nat) : Int) > IntKind.i64.max := by
    have : IntKind.i64.max = 9223372036854775807 := by rfl
    omega
  simp only [Op.stringOp]
  rw [if_neg h2]
  rfl
theorem str_to {m : Mo} {k : Nat} (hk : k < m.n) (w : World) : (Instr.slice 9 (.string (bitsS (some m))) none (some (.int .i64 k)) none).run Try.prog w = .ok (.string ((bitsS (some m)).extract 0 k)) w := by
  have hs := bits_size m
  rw [run_slice_string_to_if w 9 _ .i64 k Try.underlying9, if_pos ⟨by omega, by omega⟩]
  rfl
theorem str_from {m : Mo} {k : Nat} (hk : k < m.n) (w : World) : (Instr.slice 9 (.string (bitsS (some m))) (some (.int .i64 ((k : Int) + 1))) none none).run Try.prog w = .ok (.string ((bitsS (some m)).extract (k + 1) m.n)) w := by
  have hs := bits_size m
  rw [run_slice_string_from_if w 9 _ .i64 ((k : Int) + 1) Try.underlying9, if_pos ⟨by omega, by omega⟩, hs]
  rfl
theorem str_cat {m : Mo} {k : Nat} (hk : k < m.n) (hn : m.n ≤ 128) (w : World) : (Op.stringOp .add ((bitsS (some m)).extract 0 k) ⟨#[49]⟩).run Try.prog w = .ok (.string ((bitsS (some m)).extract 0 k ++ ⟨#[49]⟩)) w ∧
    (Op.stringOp .add ((bitsS (some m)).extract 0 k ++ ⟨#[49]⟩) ((bitsS (some m)).extract (k + 1) m.n)).run Try.prog w = .ok (.string (bitsS (some (m.set k true)))) w := by
  have hs := bits_size m
  have h1 : ((bitsS (some m)).extract 0 k).size ≤ 128 := by rw [ByteArray.size_extract]; omega
  have h2 : ((bitsS (some m)).extract (k + 1) m.n).size ≤ 128 := by rw [ByteArray.size_extract]; omega
  have h3 : (⟨#[49]⟩ : ByteArray).size = 1 := rfl
  refine ⟨str_add _ _ (by omega) w, ?_⟩
  rw [← bits_set hk]
  exact str_add _ _ (by rw [ByteArray.size_append]; omega) w

set_option maxRecDepth 100000 in
set_option maxHeartbeats 4000000 in
theorem takes_walk (st s p b : Int) (A : Option Addr) (c : Nat) (l : List Ac) (w : World) (hlen : l.length ≤ 9223372036854775807) (hA : ActsAt w w.heap.size A l) :
    Calls Try.prog 6 #[.int .i64 st, .agg #[.int .i64 s, .int .i64 p, .int .i64 b], .slice A l.length c] w (Yes w) := by
  have HAL := Lib.hid alive_any
  obtain ⟨W0, hW, hb0, hz, x0, x1, x2⟩ := new3 w (.int .i64 s) (.int .i64 p) (.int .i64 b) 23
  have HB0 := Lib.hid hb0
  have HX := Lib.hid (fun (w1 : World) (hb1 : Below W0.heap.size W0 w1) => (hb1.cell (p := ⟨w.heap.size, 0, none⟩) (Nat.lt_of_succ_le hz)).trans x0)
  have HMD := Lib.hid (made'_any st s p b A c l W0 hlen ((hA.below hb0).more hb0.size))
  have HWS := Lib.hid (show w.heap.size < W0.heap.size by omega)
  obtain ⟨L, hL⟩ : ∃ L, L = l.length := ⟨_, rfl⟩
  rw [← hL] at hlen HMD ⊢
  have HG := Lib.hid (fun w => great_any A L c w hlen)
  clear hA hL hb0 hz
  by_cases h60 : 60 < L
  · rw [decide_eq_true h60] at HG
    clear h60
    go_enter Try.func6, Try.ntmps6
    go_wp2_with (first | (go_at_call 10; refine (HG.out _).mono ?_; rintro e _ ⟨rfl, rfl⟩) | (go_at_call 11; refine (HAL.out _).mono ?_; rintro e w2 ⟨rfl, hb⟩; have B2 := Lib.hid (btr HB0.out hb (Nat.le_refl _)); clear hb))
    go_ret
    exact ⟨rfl, B2.out⟩
  · rw [decide_eq_false h60] at HG
    clear h60
    by_cases hf : fitB st ⟨s, p, b⟩ = true
    · rw [show newO st ⟨s, p, b⟩ = some (newM st ⟨s, p, b⟩) from if_pos hf] at HMD
      obtain ⟨f, hr⟩ := runO_some l (newM st ⟨s, p, b⟩)
      have hwf0 := newM_wf hf
      obtain ⟨hok, f1, f2⟩ := fit_get hf
      obtain ⟨a1, a2, a3, a4, a5, a6, a7, a8⟩ := okC_bd hok
      dsimp only at f2 a1 a2 a3 a4 a5 a6 a7 a8
      obtain ⟨S, rfl⟩ : ∃ S : Nat, st = (S : Int) := ⟨st.toNat, by omega⟩
      obtain ⟨Z, rfl⟩ : ∃ S : Nat, s = (S : Int) := ⟨s.toNat, by omega⟩
      obtain ⟨G, rfl⟩ : ∃ S : Nat, p = (S : Int) := ⟨p.toNat, by omega⟩
      obtain ⟨T, rfl⟩ : ∃ S : Nat, b = (S : Int) := ⟨b.toNat, by omega⟩
      obtain ⟨m, hm⟩ : ∃ m : Mo, m = { newM (S : Int) ⟨Z, G, T⟩ with f := f } := ⟨_, rfl⟩
      rw [hr, ← hm] at HMD
      have hms : m.s = S := by rw [hm]; rfl
      have hmz : m.z = Z := by rw [hm]; rfl
      have hwf : WF m := by rw [hm]; exact ⟨hwf0.s1, hwf0.z1, hwf0.z2, hwf0.g1, hwf0.g2, hwf0.t1, hwf0.t2, hwf0.nn, hwf0.n1, hwf0.n2, hwf0.nz⟩
      clear hf hr hwf0 hok hm f1 f2 a1 a2 a3 a4 a5 a6 a7 a8
      subst hms hmz
      have hn2 := hwf.n2
      have HWF := Lib.hid hwf
      have hsz := bits_size m
      have HIX := Lib.hid (fun (k : Nat) (hk : k < m.n) => bits_at (m := m) hk)
      have HOB := Lib.hid (fun (W : World) (O : Nat → Prop) (v : Value) (h : Ob false W O v (some m)) => show Calls Try.prog 19 #[v] W fun e w' => e = .returned (.int .i64 (m.n : Int)) ∧ W = w' from Objects_any h)
      have HTK := Lib.hid (fun (W : World) (O : Nat → Prop) (v : Option Addr) (h : Ob false W O (.pointer v) (some m)) => show Calls Try.prog 25 #[.pointer v] W fun e w' => e = .returned (.int .i64 ((hl m.f 0 m.n).length : Nat)) ∧ Below W.heap.size W w' from Taken_any h)
      have HLS := Lib.hid (fun (W : World) (O : Nat → Prop) (v : Option Addr) (h : Ob false W O (.pointer v) (some m)) => show Calls Try.prog 26 #[.pointer v] W fun e w' => ∃ A c, e = .returned (.slice A (hl m.f 0 m.n).length c) ∧ Below W.heap.size W w' from (List_any h).mono fun e w' hp => by
        obtain ⟨A, c, e1, _, hb⟩ := hp
        have : (lst (some m)).length = (hl m.f 0 m.n).length := List.length_map ..
        rw [this] at e1
        exact ⟨A, c, e1, hb⟩)
      go_enter Try.func6, Try.ntmps6
      go_wp2_with (first
        | (go_at_call 10; refine (HG.out _).mono ?_; rintro e _ ⟨rfl, rfl⟩)
        | (go_at_call 18; refine HMD.out.mono ?_; intro e w2 hm; obtain ⟨B, rfl, ho⟩ := hm.yes; have HO2 := Lib.hid ho; clear hm ho x0 x1 x2)
        | (go_at_call 24; refine (Bits_any HO2.out.1).mono ?_; rintro e w3 ⟨rfl, hb⟩; have HO3 := Lib.hid (HO2.out.below hb); clear hb))
      go_loopw [9, 10, 11] (fun q o i wr => ∃ k : Nat, k ≤ m.n ∧ i = .int .i64 k ∧ q = .int .i64 (fstI m.f k) ∧ o = .int .i64 ((hl m.f 0 k).length : Nat) ∧ wr = w3) (fun _ _ i _ => m.n - (intOf i).toNat)
      case atStart => exact ⟨0, by omega, rfl, rfl, rfl, rfl⟩
      case round =>
        obtain ⟨k, hk, rfl, rfl, rfl, rfl⟩ := hrel
        by_cases hlt : k < m.n
        · have hix := HIX.out k hlt
          have hll := hl_len m.f 0 k
          have hsn := hl_snoc (f := m.f) (k := k)
          cases hfk : m.f k with
          | true =>
            rw [hfk] at hix
            rw [if_pos hfk] at hsn
            have HS := Lib.hid (show (hl m.f 0 (k + 1)).length = (hl m.f 0 k).length + 1 by rw [hsn, List.length_append]; rfl)
            have HF := Lib.hid (fst_on hfk)
            replace hix : ∀ w, (Instr.index 9 (.string (bitsS (some m))) (.int .i64 k)).run Try.prog w = .ok (.int .u8 49) w := hix
            clear hfk hsn
            generalize fstI m.f k = F at *
            generalize (hl m.f 0 k).length = C at *
            have E2 := Lib.hid (w64 ((C : Int) + 1) (by omega))
            obtain ⟨u1, u2⟩ := E2.out
            go_wp2_with fail
            go_roundw
            case rel => exact ⟨k + 1, by omega, by go_num, by rw [HF.out], by rw [HS.out]; go_num, trivial⟩
            case measure => simp [intOf]; omega
          | false =>
            rw [hfk] at hix
            rw [if_neg (by rw [hfk]; decide), List.append_nil] at hsn
            have HS := Lib.hid hsn
            replace hix : ∀ w, (Instr.index 9 (.string (bitsS (some m))) (.int .i64 k)).run Try.prog w = .ok (.int .u8 48) w := hix
            by_cases h0 : fstI m.f k < 0
            · have HF := Lib.hid (fst_off hfk h0)
              have hd : decide (fstI m.f k < 0) = true := decide_eq_true h0
              clear hfk hsn h0
              generalize fstI m.f k = F at *
              generalize hC : (hl m.f 0 k).length = C at *
              have HC := Lib.hid hC
              clear hC
              go_wp2_with fail
              go_roundw
              case rel => exact ⟨k + 1, by omega, by go_num, by rw [HF.out], by rw [HS.out, HC.out], trivial⟩
              case measure => simp [intOf]; omega
            · have HF := Lib.hid (fst_old (k := k) h0)
              have hd : decide (fstI m.f k < 0) = false := decide_eq_false h0
              clear hfk hsn h0
              generalize fstI m.f k = F at *
              generalize hC : (hl m.f 0 k).length = C at *
              have HC := Lib.hid hC
              clear hC
              go_wp2_with fail
              go_roundw
              case rel => exact ⟨k + 1, by omega, by go_num, by rw [HF.out], by rw [HS.out, HC.out], trivial⟩
              case measure => simp [intOf]; omega
        · obtain rfl : k = m.n := by omega
          have hC := hl_len m.f 0 m.n
          have HTA := Lib.hid (fun (W : World) (O : Nat → Prop) (v : Value) (h : Ob false W O v (some m)) => Take_any h)
          have HBT := Lib.hid (fun (W : World) (O : Nat → Prop) (v : Value) (h : Ob false W O v (some m)) => Bits_any h)
          have hff := fst_ff m
          cases e : ff m with
          | none =>
            rw [ffI_none e] at hff
            rw [tkV_none e, tkE_none e, tkD_none e] at HTA
            rw [← hff]
            clear e hff HIX
            generalize bitsS (some m) = SS at *
            generalize (hl m.f 0 m.n).length = C at *
            go_wp2_with (first
              | (go_at_call 19; refine (HOB.out _ _ _ HO3.out.1).mono ?_; rintro e _ ⟨rfl, rfl⟩)
              | (go_at_call 25; refine (HTK.out _ _ _ HO3.out.1).mono ?_; rintro e w4 ⟨rfl, hb⟩; have HO4 := Lib.hid (HO3.out.below hb); clear hb)
              | (go_at_call 26; refine (HLS.out _ _ _ HO4.out.1).mono ?_; rintro e w5 ⟨A5, c5, rfl, hb⟩; have HO5 := Lib.hid (HO4.out.below hb); clear hb)
              | (go_at_call 27; refine (HTA.out _ _ _ HO5.out.1).mono ?_; rintro e w6 ⟨rfl, hM⟩; have HO6 := Lib.hid (HO5.out.step hM); clear hM))
            refine (HBT.out _ _ _ HO6.out.1).mono ?_
            rintro e w7 ⟨rfl, hb⟩
            have HO7 := Lib.hid (HO6.out.below hb)
            clear hb
            go_wp2_with fail
            refine (HAL.out _).mono ?_
            rintro e w9 ⟨rfl, hb⟩
            have B9 := Lib.hid (btr HB0.out (btr HO7.out.2 hb (Nat.le_refl _)) (Nat.le_refl _))
            clear hb
            go_wp2_with fail
            go_ret
            exact ⟨rfl, B9.out⟩
          | some k =>
            obtain ⟨hk', _, _⟩ := ff_get e
            rw [ffI_some e] at hff
            rw [tkV_some e, tkE_some e, tkD_some e, ← adrI m k] at HTA
            rw [← hff]
            have HBS := Lib.hid (fun (W : World) (O : Nat → Prop) (v : Value) (h : Ob false W O v (some (m.set k true))) => Bits_any h)
            have hs1 := str_to hk'
            have hs2 := str_from hk'
            have hs3 := fun W => (str_cat hk' hn2 W).1
            have hs4 := fun W => (str_cat hk' hn2 W).2
            have HW := Lib.hid (adrW HWF.out (Nat.le_of_lt hk'))
            have hk0 : decide ((k : Int) < 0) = false := decide_eq_false (by omega)
            clear e hff HIX HBT
            generalize bitsS (some (m.set k true)) = S' at *
            generalize (hl m.f 0 m.n).length = C at *
            generalize (bitsS (some m)).extract 0 k ++ ⟨#[49]⟩ = X2 at *
            generalize (bitsS (some m)).extract 0 k = X1 at *
            generalize (bitsS (some m)).extract (k + 1) m.n = X3 at *
            generalize bitsS (some m) = SS at *
            go_wp2_with (first
              | (go_at_call 19; refine (HOB.out _ _ _ HO3.out.1).mono ?_; rintro e _ ⟨rfl, rfl⟩)
              | (go_at_call 25; refine (HTK.out _ _ _ HO3.out.1).mono ?_; rintro e w4 ⟨rfl, hb⟩; have HO4 := Lib.hid (HO3.out.below hb); clear hb)
              | (go_at_call 26; refine (HLS.out _ _ _ HO4.out.1).mono ?_; rintro e w5 ⟨A5, c5, rfl, hb⟩; have HO5 := Lib.hid (HO4.out.below hb); clear hb)
              | (go_at_call 27; refine (HTA.out _ _ _ HO5.out.1).mono ?_; rintro e w6 ⟨rfl, hM⟩; have HO6 := Lib.hid (HO5.out.step hM); clear hM))
            have c6 := HX.out _ HO6.out.2
            have hw6 : w.heap.size < w6.heap.size := Nat.lt_of_lt_of_le HWS.out HO6.out.2.size
            have G1 := CW.cell (N := w6.heap.size) (a := ⟨w.heap.size, 0, none⟩) hw6 c6
            clear c6
            obtain ⟨q1, q2, q3⟩ := HW.out
            refine region_below w6.heap.size (by kernel_rfl) (by kernel_rfl) ?_
            repeat (first | go_big_quiet_step (first | (go_at_call 24; exact quietB (Nat.le_refl _) (HBS.out _ _ _ (HO6.out.1.below (CW.bel _)))) | (go_at_call 11; exact quietB (Nat.le_refl _) (HAL.out _))) | quiet_step (first | (go_at_call 24; exact quietB (Nat.le_refl _) (HBS.out _ _ _ (HO6.out.1.below (CW.bel _)))) | (go_at_call 11; exact quietB (Nat.le_refl _) (HAL.out _))))
            refine wpQuiet_nil ?_
            rintro _ ⟨nq, rfl⟩
            clear hs1 hs2 hs3 hs4 G1 q1 q2 q3
            go_wp2_with fail
            go_ret
            exact ⟨rfl, btr HB0.out (btr HO6.out.2 nq.bel (Nat.le_refl _)) (Nat.le_refl _)⟩
    · rw [show newO st ⟨s, p, b⟩ = none from if_neg hf, runO_none] at HMD
      clear hf
      go_enter Try.func6, Try.ntmps6
      go_wp2_with (first | (go_at_call 10; refine (HG.out _).mono ?_; rintro e _ ⟨rfl, rfl⟩) | (go_at_call 18; refine HMD.out.mono ?_; intro e w2 hm; obtain ⟨rfl, hb⟩ := hm.no; have B2 := Lib.hid (btr HB0.out hb (Nat.le_refl _)); clear hm hb) | (go_at_call 11; refine (HAL.out _).mono ?_; rintro e w3 ⟨rfl, hb⟩; have B3 := Lib.hid (btr B2.out hb (Nat.le_refl _)); clear hb))
      go_ret
      exact ⟨rfl, B3.out⟩

end Go.Proofs.Ytgklkjccfnbcdaa
