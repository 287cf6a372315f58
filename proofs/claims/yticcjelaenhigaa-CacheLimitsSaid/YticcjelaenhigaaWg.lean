/- The statement: slow start. -/
import Derived.Test.YticcjelaenhigaaWd
namespace Go.Proofs.Yticcjelaenhigaa
open Go.RowKit Go.Lib

/-- What a call makes of a list's limit. -/
structure LmK (x : Ak) (e : Int) (k k1 : Kl) : Prop where
  miss : x.k = 0 → k.l.length = 0 → k1.lim = if k.lim < k.b then k.lim + 1 else min (k.lim + k.b) 128
  hit : x.k = 0 → k.l.length ≠ 0 → k1.lim = k.lim
  over : x.k = 3 → e = 0 → k1.lim = (if k.lim < k.l.length + 1 ∧ k.lim < k.b then k.lim + 1 else k.lim) ∧ (k1.l.length ≤ k1.lim ∨ k.lim + k.b ≤ k.l.length)
  scav : x.k = 4 → k1.lim = if k.b < k.lim then max (k.lim - k.b) k.b else k.lim
  same : x.k ≠ 0 → x.k ≠ 4 → (x.k = 3 → e ≠ 0) → k1.lim = k.lim
theorem at_set {c : Tc} {i : Nat} {k k' : Kl} (h : c.K[i]? = some k) : (Tc.mk c.g (c.K.set i k')).K[i]? = some k' := by
  show (c.K.set i k')[i]? = _
  rw [List.getElem?_set, if_pos rfl, if_pos (List.getElem?_eq_some_iff.1 h).1]
theorem at_map {c : Tc} {i : Nat} {k : Kl} (f : Kl → Kl) (h : c.K[i]? = some k) : (Tc.mk c.g (c.K.map f)).K[i]? = some (f k) := by
  show (c.K.map f)[i]? = _
  rw [List.getElem?_map, h]; rfl
theorem lim_law {c : Tc} {x : Ak} {i : Nat} {k : Kl} (hx : x.c = (i : Int)) (hk : c.K[i]? = some k) (hw : KWf k) : ∃ c1 k1, dkD (some c) x = some c1 ∧ c1.K[i]? = some k1 ∧ LmK x (dkE (some c) x) k k1 := by
  have hat : atK (some c) x.c = some k := by rw [hx]; exact atK_at hk
  have hi : x.c.toNat = i := by rw [hx]; exact Int.toNat_natCast i
  by_cases h0 : x.k = 0
  · obtain ⟨e1, e2, _⟩ := dk0 (some c) x h0
    by_cases hn : k.l = []
    · refine ⟨_, missK k, by rw [e1]; unfold tkD; rw [hat]; dsimp only; rw [if_pos hn]; rfl, by rw [hi]; exact at_set hk, ⟨fun _ _ => rfl, fun _ h => absurd (by rw [hn]; rfl) h, fun h => by omega, fun h => by omega, fun h => absurd h0 h⟩⟩
    · refine ⟨_, popK k, by rw [e1]; unfold tkD; rw [hat]; dsimp only; rw [if_neg hn]; rfl, by rw [hi]; exact at_set hk, ⟨fun _ h => absurd (List.length_eq_zero_iff.1 h) hn, fun _ _ => rfl, fun h => by omega, fun h => by omega, fun h => absurd h0 h⟩⟩
  have here : dkD (some c) x = some c → x.k ≠ 4 → (x.k = 3 → dkE (some c) x ≠ 0) → ∃ c1 k1, dkD (some c) x = some c1 ∧ c1.K[i]? = some k1 ∧ LmK x (dkE (some c) x) k k1 := fun e h4 h3 =>
    ⟨c, k, e, hk, ⟨fun h => absurd h h0, fun h => absurd h h0, fun h he => absurd he (h3 h), fun h => absurd h h4, fun _ _ _ => rfl⟩⟩
  by_cases h1 : x.k = 1
  · exact here (dk1 (some c) x h1).1 (by omega) (fun h => by omega)
  by_cases h2 : x.k = 2
  · obtain ⟨e1, e2, _⟩ := dk2 (some c) x h2
    by_cases hn : 256 < k.l.length + x.l.length
    · exact here (by rw [e1]; unfold flD; rw [hat]; exact if_pos hn) (by omega) (fun h => by omega)
    · exact ⟨_, addK k x.l, by rw [e1]; unfold flD; rw [hat]; dsimp only; rw [if_neg hn]; rfl, by rw [hi]; exact at_set hk, ⟨fun h => by omega, fun h => by omega, fun h => by omega, fun h => by omega, fun _ _ _ => rfl⟩⟩
  by_cases h3 : x.k = 3
  · obtain ⟨e1, e2, _⟩ := dk3 (some c) x h3
    by_cases hn : 256 < k.l.length + 1
    · refine here (by rw [e1]; unfold ptD; rw [hat]; exact if_pos hn) (by omega) (fun _ he => ?_)
      rw [e2] at he
      unfold ptE at he
      rw [hat] at he
      dsimp only at he
      rw [if_pos hn] at he
      cases he
    · refine ⟨_, ptK k x.a, by rw [e1]; unfold ptD; rw [hat]; dsimp only; rw [if_neg hn]; rfl, by rw [hi]; exact at_set hk, ⟨fun h => by omega, fun h => by omega, fun _ _ => ?_, fun h => by omega, fun _ _ h => absurd (by rw [e2]; unfold ptE; rw [hat]; exact if_neg hn) (h h3)⟩⟩
      unfold ptK
      by_cases hl : k.l.length + 1 ≤ k.lim
      · rw [if_pos hl]
        have e : (addK k [x.a]).l.length = k.l.length + 1 := by show (k.l ++ [x.a].reverse).length = _; simp
        refine ⟨?_, .inl ?_⟩
        · show k.lim = _
          rw [if_neg (by omega)]
        · rw [e]; exact hl
      · rw [if_neg hl]
        have e : (overK (addK k [x.a])).l.length = k.l.length + 1 - overN (addK k [x.a]) := by
          show ((k.l ++ [x.a].reverse).drop _).length = _
          rw [List.length_drop]; simp
        have e9 : overN (addK k [x.a]) = min k.b (k.l.length + 1) := by show min k.b (k.l ++ [x.a].reverse).length = _; simp
        have e8 : (overK (addK k [x.a])).lim = if k.lim < k.b then k.lim + 1 else k.lim := rfl
        rw [e, e8, e9]
        have hb := hw.b1
        refine ⟨?_, ?_⟩
        · by_cases hq : k.lim < k.b
          · rw [if_pos hq, if_pos ⟨by omega, hq⟩]
          · rw [if_neg hq, if_neg (fun h => hq h.2)]
        · by_cases hq : k.lim < k.b
          · rw [if_pos hq]; omega
          · rw [if_neg hq]; omega
  by_cases h4 : x.k = 4
  · obtain ⟨e1, e2, _⟩ := dk4 (some c) x h4
    exact ⟨_, scavK k, by rw [e1]; rfl, at_map scavK hk, ⟨fun h => by omega, fun h => by omega, fun h => by omega, fun _ => rfl, fun _ h => absurd h4 h⟩⟩
  by_cases h5 : x.k = 5
  · obtain ⟨e1, e2, _⟩ := dk5 (some c) x h5
    exact ⟨_, drainK k, by rw [e1]; rfl, at_map drainK hk, ⟨fun h => by omega, fun h => by omega, fun h => by omega, fun h => by omega, fun _ _ _ => rfl⟩⟩
  · exact here (dk6 (some c) x (by omega)).1 h4 (fun h => by omega)

set_option maxRecDepth 100000 in
set_option maxHeartbeats 16000000 in
theorem limits_walk (A0 : Option Addr) (c0 : Nat) (t : List Cs) (g : Int) (A : Option Addr) (cp : Nat) (l : List Ak) (x : Ak) (u : Value) (w : World) (ht : t.length ≤ 9223372036854775807) (hT : TabAt w w.heap.size A0 t) (hl : l.length ≤ 9223372036854775807) (hA : ActsAt w w.heap.size A l) (hx : AkV w w.heap.size x u) :
    Calls Try.prog 7 #[.slice A0 t.length c0, .int .i64 g, .slice A l.length cp, .agg #[.int .i64 x.k, .int .i64 x.c, .int .i64 x.a, u]] w (Yes w) := by
  have HAL := Lib.hid alive_any
  have HT := Lib.hid hT
  obtain ⟨W1, hW1, hb1, hs1, y0, y1, y2, y3⟩ := newA4 w (.int .i64 x.k) (.int .i64 x.c) (.int .i64 x.a) u 35
  obtain ⟨W2, hW2, hb2, hs2, z0, z1, z2, z3⟩ := newA4 W1 (.int .i64 x.k) (.int .i64 x.c) (.int .i64 x.a) u 35
  have hB2 := btr hb1 hb2 (Nat.le_refl _)
  have T1 : Fou W2 w.heap.size (.int .i64 x.k) (.int .i64 x.c) (.int .i64 x.a) u := (Fou.mk hs1 y0 y1 y2 y3).below hb2 hs1
  have HT1 := Lib.hid (fun W (hb : Below W2.heap.size W2 W) => T1.below hb T1.lt)
  have HG1 := Lib.hid (great_any A cp l W1 hl (hA.below hb1))
  have HG2 := Lib.hid (great_any (some ⟨W1.heap.size, 0, none⟩) 1 [x] W2 (by show 1 ≤ 9223372036854775807; omega) (acts_one (N := W2.heap.size) (Fou.mk hs2 z0 z1 z2 z3) hs2 ((hx.below hB2).more hB2.size)))
  rw [grB_one] at HG2
  have HMD := Lib.hid (fun W (hb : Below w.heap.size w W) h60 => made_law A0 c0 t g A cp l W ht ((hT.below hb).more hb.size) h60 hb.size (hA.below hb))
  have HXV := Lib.hid hx
  have hxc := hx.c
  have hx60 : ∀ h : ¬ 300 < x.l.length, x.l.length ≤ 300 := fun h => by omega
  have HB1 := Lib.hid hb1
  have HB2 := Lib.hid hB2
  have HMK := Lib.hid (fun c (h : madeO t g l = some c) => made_kin h)
  obtain ⟨om, hom⟩ : ∃ om, madeO t g l = om := ⟨_, rfl⟩
  rw [hom] at HMD HMK
  have H60 := Lib.hid (fun h : grB l = false => (grB_no h).1)
  obtain ⟨tn, htn⟩ : ∃ tn, t.length = tn := ⟨_, rfl⟩
  rw [htn] at HMD ht ⊢
  have HTN := Lib.hid htn
  generalize l.length = ln at *
  clear z0 z1 z2 z3 T1 hA hx hb1 hb2 hs1 hs2 hB2 hom hT htn
  by_cases hg : grB l = true
  · rw [hg] at HG1
    go_enter Try.func7, Try.ntmps7
    go_wp2_with fail
    refine HG1.out.mono ?_
    rintro e _ ⟨rfl, rfl⟩
    go_wp2_with fail
    refine (HAL.out _).mono ?_
    rintro e w9 ⟨rfl, hb⟩
    have HF := Lib.hid (btr HB1.out hb (Nat.le_refl _))
    clear hb
    go_wp2_with fail
    go_ret
    exact ⟨rfl, HF.out⟩
  have hg' : grB l = false := by simpa using hg
  rw [hg'] at HG1
  have HM60 := H60.out hg'
  clear hg hg' H60
  by_cases hx6 : 300 < x.l.length
  · rw [decide_eq_true hx6] at HG2
    clear hx6
    go_enter Try.func7, Try.ntmps7
    go_wp2_with fail
    refine HG1.out.mono ?_
    rintro e _ ⟨rfl, rfl⟩
    go_wp2_with fail
    refine HG2.out.mono ?_
    rintro e _ ⟨rfl, rfl⟩
    go_wp2_with fail
    refine (HAL.out _).mono ?_
    rintro e w9 ⟨rfl, hb⟩
    have HF := Lib.hid (btr HB2.out hb (Nat.le_refl _))
    clear hb
    go_wp2_with fail
    go_ret
    exact ⟨rfl, HF.out⟩
  rw [decide_eq_false hx6] at HG2
  clear hx6 hx60
  cases om with
  | none =>
    go_enter Try.func7, Try.ntmps7
    go_wp2_with fail
    refine HG1.out.mono ?_
    rintro e _ ⟨rfl, rfl⟩
    go_wp2_with fail
    refine HG2.out.mono ?_
    rintro e _ ⟨rfl, rfl⟩
    clear y0 y1 y2 y3
    go_wp2_with fail
    refine (HMD.out _ HB2.out HM60).mono ?_
    intro e w3 hp
    obtain ⟨rfl, hb3⟩ := hp.no
    have HB3 := Lib.hid (btr HB2.out hb3 (Nat.le_refl _))
    clear hp hb3
    go_wp2_with fail
    refine (HAL.out _).mono ?_
    rintro e w9 ⟨rfl, hb⟩
    have HF := Lib.hid (btr HB3.out hb (Nat.le_refl _))
    clear hb
    go_wp2_with fail
    go_ret
    exact ⟨rfl, HF.out⟩
  | some c =>
    have HKN := Lib.hid (HMK.out c rfl)
    have hln := HKN.out.2.2.len
    have ht40 := okT_len HKN.out.1
    rw [HTN.out] at hln ht40
    clear HMK
    obtain ⟨xk, xc, xa, xl⟩ := x
    dsimp only at *
    by_cases hcl : xc < 0 ∨ (tn : Int) ≤ xc
    · go_enter Try.func7, Try.ntmps7
      go_wp2_with fail
      refine HG1.out.mono ?_
      rintro e _ ⟨rfl, rfl⟩
      go_wp2_with fail
      refine HG2.out.mono ?_
      rintro e _ ⟨rfl, rfl⟩
      clear y0 y1 y2 y3
      go_wp2_with fail
      refine (HMD.out _ HB2.out HM60).mono ?_
      intro e w3 hp
      obtain ⟨B, O, rfl, ho⟩ := hp.yes
      have HO := Lib.hid ho
      obtain ⟨_, y0, y1, _, _⟩ := HT1.out _ ho.bel
      have HBF := Lib.hid (btr HB2.out ho.bel (Nat.le_refl _))
      clear hp ho
      by_cases h0 : xc < 0
      · have d1 : decide (xc < 0) = true := decide_eq_true h0
        clear hcl h0
        go_wp2_with fail
        refine (HAL.out _).mono ?_
        rintro e w9 ⟨rfl, hb⟩
        have HF := Lib.hid (btr HBF.out hb (Nat.le_refl _))
        clear hb
        go_wp2_with fail
        go_ret
        exact ⟨rfl, HF.out⟩
      · have d1 : decide (xc < 0) = false := decide_eq_false h0
        have d2 : decide ((tn : Int) ≤ xc) = true := decide_eq_true (by omega)
        clear hcl h0
        go_wp2_with fail
        refine (HAL.out _).mono ?_
        rintro e w9 ⟨rfl, hb⟩
        have HF := Lib.hid (btr HBF.out hb (Nat.le_refl _))
        clear hb
        go_wp2_with fail
        go_ret
        exact ⟨rfl, HF.out⟩
    · obtain ⟨ci, rfl⟩ : ∃ ci : Nat, xc = (ci : Int) := ⟨xc.toNat, by omega⟩
      have hci : ci < tn := by omega
      have d1 : decide ((ci : Int) < 0) = false := decide_eq_false (by omega)
      have d2 : decide ((tn : Int) ≤ (ci : Int)) = false := decide_eq_false (by omega)
      have d3 : decide (tn ≤ ci) = false := decide_eq_false (by omega)
      clear hcl
      obtain ⟨q, hq⟩ : ∃ q, t[ci]? = some q := ⟨_, List.getElem?_eq_getElem (by rw [HTN.out]; exact hci)⟩
      obtain ⟨kq, hkq, _, hqb⟩ := kin_cls HKN.out hq
      go_enter Try.func7, Try.ntmps7
      go_wp2_with fail
      refine HG1.out.mono ?_
      rintro e _ ⟨rfl, rfl⟩
      go_wp2_with fail
      refine HG2.out.mono ?_
      rintro e _ ⟨rfl, rfl⟩
      clear y0 y1 y2 y3
      go_wp2_with fail
      refine (HMD.out _ HB2.out HM60).mono ?_
      intro e w3 hp
      obtain ⟨B, O, rfl, ho⟩ := hp.yes
      have HO := Lib.hid ho
      obtain ⟨_, y0, y1, y2, y3⟩ := HT1.out _ ho.bel
      have hkw := ho.ob.wf.k kq (List.mem_of_getElem? hkq)
      have hin : InR (ci : Int) := hxc
      have HQ1 := Lib.hid (fun (nn : CW w3.heap.size w3) => show Calls Try.prog 28 #[.pointer (some ⟨B, 0, none⟩), .int .i64 ci] nn.wd (fun e w' => e = .returned (.int .i64 (kq.l.length : Nat)) ∧ Below nn.wd.heap.size nn.wd w') from roB (by
        have := cLen_any (ho.below nn.bel).ob hin
        rw [lenT_at hkq] at this
        exact this))
      have HQ2 := Lib.hid (fun (nn : CW w3.heap.size w3) => show Calls Try.prog 29 #[.pointer (some ⟨B, 0, none⟩), .int .i64 ci] nn.wd (fun e w' => e = .returned (.int .i64 (kq.lim : Nat)) ∧ Below nn.wd.heap.size nn.wd w') from roB (by
        have := cLimit_any (ho.below nn.bel).ob hin
        rw [limT_at hkq] at this
        exact this))
      obtain ⟨b0, o0, rfl, hbb, _, _, s3⟩ := (HT.out.below (btr HB2.out ho.bel (Nat.le_refl _))) ci q hq
      rw [← hqb] at s3
      have hb0 : b0 < w3.heap.size := Nat.lt_of_lt_of_le hbb (btr HB2.out ho.bel (Nat.le_refl _)).size
      have hbx : w.heap.size < w3.heap.size := World.block_lt_of_cell? _ _ y1
      have G1 := CW.cell (N := w3.heap.size) (a := ⟨b0, _, none⟩) hb0 s3
      have G2 := CW.cell (N := w3.heap.size) (a := ⟨w.heap.size, _, none⟩) hbx y1
      obtain ⟨c1, k1, hc1, hk1, hLM⟩ := lim_law (x := ⟨xk, ci, xa, xl⟩) rfl hkq hkw
      have HDO := Lib.hid (fun (w' : World) (h : Below w3.heap.size w3 w') => do_any ⟨xk, ci, xa, xl⟩ (ho.below h).ob (N0 := w.heap.size) (Nat.le_trans HB2.out.size (ho.below h).bel.size) (fun k hk => Nat.le_trans HB2.out.size ((ho.below h).nw k hk)) (HXV.out.below (btr HB2.out (ho.below h).bel (Nat.le_refl _))))
      unfold DoP at HDO
      rw [hc1] at HDO
      have HLM := Lib.hid hLM
      have HK1 := Lib.hid hk1
      have HKW := Lib.hid hkw
      have HIN := Lib.hid hin
      generalize dkV (some c) (⟨xk, ci, xa, xl⟩ : Ak) = dv at *
      generalize dkE (some c) (⟨xk, ci, xa, xl⟩ : Ak) = de at *
      clear hp ho hc1 hk1 hLM hkw hin hq hqb s3 hbb hb0 hxc y0 y1 y2 y3 d1 d2 d3
      obtain ⟨_, y0, y1, y2, y3⟩ := HT1.out _ HO.out.bel
      have d1 : decide ((ci : Int) < 0) = false := decide_eq_false (by omega)
      have d2 : decide ((tn : Int) ≤ (ci : Int)) = false := decide_eq_false (by omega)
      have d3 : decide (tn ≤ ci) = false := decide_eq_false (by omega)
      go_wp2_with fail
      refine region_below w3.heap.size (by kernel_rfl) (by kernel_rfl) ?_
      repeat (first | go_big_quiet_step (first | (go_at_call 28; exact quietB (Nat.le_refl _) (HQ1.out _)) | (go_at_call 29; exact quietB (Nat.le_refl _) (HQ2.out _))) | quiet_step (first | (go_at_call 28; exact quietB (Nat.le_refl _) (HQ1.out _)) | (go_at_call 29; exact quietB (Nat.le_refl _) (HQ2.out _))))
      refine wpQuiet_nil ?_
      rintro _ ⟨nq, rfl⟩
      have HBQ := Lib.hid nq.bel
      generalize nq.wd = w4 at *
      clear G1 G2 y0 y1 y2 y3
      obtain ⟨_, y0, y1, y2, y3⟩ := HT1.out _ (btr HO.out.bel HBQ.out (Nat.le_refl _))
      go_wp2_with fail
      refine (HDO.out _ HBQ.out).mono ?_
      rintro e w5 ⟨A5, c5, rfl, O5, m1, m2, m3, _⟩
      have H5 := Lib.hid ((HO.out.below HBQ.out).turn m1 m2 m3)
      clear m1 m2 m3 y0 y1 y2 y3 HDO HQ1 HQ2
      obtain ⟨hz5, y0, y1, y2, y3⟩ := HT1.out _ H5.out.bel
      have G0 := CW.cell (N := w5.heap.size) (a := ⟨w.heap.size, _, none⟩) hz5 y0
      have G1 := CW.cell (N := w5.heap.size) (a := ⟨w.heap.size, _, none⟩) hz5 y1
      have HQ3 := Lib.hid (fun (nn : CW w5.heap.size w5) => show Calls Try.prog 28 #[.pointer (some ⟨B, 0, none⟩), .int .i64 ci] nn.wd (fun e w' => e = .returned (.int .i64 (k1.l.length : Nat)) ∧ Below nn.wd.heap.size nn.wd w') from roB (by
        have := cLen_any (H5.out.below nn.bel).ob HIN.out
        rw [lenT_at HK1.out] at this
        exact this))
      have HQ4 := Lib.hid (fun (nn : CW w5.heap.size w5) => show Calls Try.prog 29 #[.pointer (some ⟨B, 0, none⟩), .int .i64 ci] nn.wd (fun e w' => e = .returned (.int .i64 (k1.lim : Nat)) ∧ Below nn.wd.heap.size nn.wd w') from roB (by
        have := cLimit_any (H5.out.below nn.bel).ob HIN.out
        rw [limT_at HK1.out] at this
        exact this))
      have hkw1 := H5.out.ob.wf.k k1 (List.mem_of_getElem? HK1.out)
      obtain ⟨hm1, hm128, hn256⟩ : 1 ≤ k1.lim ∧ k1.lim ≤ 128 ∧ k1.l.length ≤ 256 := ⟨hkw1.m1, hkw1.m128, hkw1.len⟩
      obtain ⟨hl1, hl128, hb1, hb32, hq256⟩ : 1 ≤ kq.lim ∧ kq.lim ≤ 128 ∧ 1 ≤ kq.b ∧ kq.b ≤ 32 ∧ kq.l.length ≤ 256 := ⟨HKW.out.m1, HKW.out.m128, HKW.out.b1, HKW.out.b32, HKW.out.len⟩
      obtain ⟨l1, l2, l3, l4, l5⟩ := HLM.out
      dsimp only at l1 l2 l3 l4 l5
      clear hkw1 HKW HK1 HLM hkq
      generalize k1.lim = nw at *
      generalize k1.l.length = m at *
      generalize kq.lim = lm at *
      generalize kq.b = bb at *
      generalize kq.l.length = n at *
      go_wp2_with fail
      refine region_below w5.heap.size (by kernel_rfl) (by kernel_rfl) ?_
      repeat (first | go_big_quiet_step (first | (go_at_call 28; exact quietB (Nat.le_refl _) (HQ3.out _)) | (go_at_call 29; exact quietB (Nat.le_refl _) (HQ4.out _))) | quiet_step (first | (go_at_call 28; exact quietB (Nat.le_refl _) (HQ3.out _)) | (go_at_call 29; exact quietB (Nat.le_refl _) (HQ4.out _))))
      refine wpQuiet_nil ?_
      rintro _ ⟨nq, rfl⟩
      have HBZ := Lib.hid (btr HB2.out (btr H5.out.bel nq.bel (Nat.le_refl _)) (Nat.le_refl _))
      have z0 := G0 nq
      generalize nq.wd = w6 at *
      clear G0 G1 y0 y1 y2 y3 HQ3 HQ4 d1 d2 d3
      have a1 : decide ((lm : Int) < 1) = false := decide_eq_false (by omega)
      have a2 : decide ((128 : Int) < (lm : Int)) = false := decide_eq_false (by omega)
      have a3 : decide ((nw : Int) < 1) = false := decide_eq_false (by omega)
      have a4 : decide ((128 : Int) < (nw : Int)) = false := decide_eq_false (by omega)
      by_cases k0 : xk = 0
      · subst k0
        by_cases hn : n = 0
        · have hnw := l1 rfl hn
          subst hn
          by_cases hlb : lm < bb
          · have d1 : decide (lm < bb) = true := decide_eq_true hlb
            rw [if_pos hlb] at hnw
            have e1 : (lm : Int) + 1 = (nw : Int) := by omega
            have WE := Lib.hid <| w64 (nw : Int) (by omega)
            clear hlb hnw
            clear l1 l2 l3 l4 l5
            obtain ⟨we1, we2⟩ := WE.out
            go_wp2_with fail
            refine (HAL.out _).mono ?_
            rintro e w9 ⟨rfl, hb⟩
            have HF := Lib.hid (btr HBZ.out hb (Nat.le_refl _))
            clear hb
            go_wp2_with fail
            go_ret
            exact ⟨rfl, HF.out⟩
          · have d1 : decide (lm < bb) = false := decide_eq_false hlb
            rw [if_neg hlb] at hnw
            obtain ⟨s, hs⟩ : ∃ s, lm + bb = s := ⟨_, rfl⟩
            have e1 : (lm : Int) + (bb : Int) = (s : Int) := by omega
            have hmi : min (s : Int) 128 = (nw : Int) := by omega
            have WE := Lib.hid <| w64 (s : Int) (by omega)
            clear hlb hnw hs
            clear l1 l2 l3 l4 l5
            obtain ⟨we1, we2⟩ := WE.out
            go_wp2_with fail
            refine (HAL.out _).mono ?_
            rintro e w9 ⟨rfl, hb⟩
            have HF := Lib.hid (btr HBZ.out hb (Nat.le_refl _))
            clear hb
            go_wp2_with fail
            go_ret
            exact ⟨rfl, HF.out⟩
        · obtain rfl := l2 rfl hn
          have d1 : ((n : Int) == 0) = false := by simpa using hn
          clear hn
          clear l1 l2 l3 l4 l5
          go_wp2_with fail
          refine (HAL.out _).mono ?_
          rintro e w9 ⟨rfl, hb⟩
          have HF := Lib.hid (btr HBZ.out hb (Nat.le_refl _))
          clear hb
          go_wp2_with fail
          go_ret
          exact ⟨rfl, HF.out⟩
      have k0' : (xk == 0) = false := by simpa using k0
      by_cases k3 : xk = 3
      · subst k3
        by_cases he : de = 0
        · subst he
          obtain ⟨hnw, hov⟩ := l3 rfl rfl
          have WG := Lib.hid <| w64 ((n : Int) + 1) (by omega)
          by_cases hln : lm < n + 1
          · have d1 : decide ((lm : Int) < (n : Int) + 1) = true := decide_eq_true (by omega)
            by_cases hlb : lm < bb
            · have d2 : decide (lm < bb) = true := decide_eq_true hlb
              rw [if_pos ⟨hln, hlb⟩] at hnw
              have e1 : (lm : Int) + 1 = (nw : Int) := by omega
              have WE := Lib.hid <| w64 (nw : Int) (by omega)
              clear hln hlb hnw
              by_cases hmn : m ≤ nw
              · have f1 : decide (m ≤ nw) = true := decide_eq_true hmn
                clear hmn hov
                clear l1 l2 l3 l4 l5
                obtain ⟨wg1, wg2⟩ := WG.out
                obtain ⟨we1, we2⟩ := WE.out
                go_wp2_with fail
                refine (HAL.out _).mono ?_
                rintro e w9 ⟨rfl, hb⟩
                have HF := Lib.hid (btr HBZ.out hb (Nat.le_refl _))
                clear hb
                go_wp2_with fail
                go_ret
                exact ⟨rfl, HF.out⟩
              · have f1 : decide (m ≤ nw) = false := decide_eq_false hmn
                obtain ⟨s, hs⟩ : ∃ s, lm + bb = s := ⟨_, rfl⟩
                have f2 : decide (s ≤ n) = true := decide_eq_true (by omega)
                have f3 : (lm : Int) + (bb : Int) = (s : Int) := by omega
                have WF := Lib.hid <| w64 (s : Int) (by omega)
                clear hmn hov hs
                clear l1 l2 l3 l4 l5
                obtain ⟨wg1, wg2⟩ := WG.out
                obtain ⟨we1, we2⟩ := WE.out
                obtain ⟨wf1, wf2⟩ := WF.out
                go_wp2_with fail
                refine (HAL.out _).mono ?_
                rintro e w9 ⟨rfl, hb⟩
                have HF := Lib.hid (btr HBZ.out hb (Nat.le_refl _))
                clear hb
                go_wp2_with fail
                go_ret
                exact ⟨rfl, HF.out⟩
            · have d2 : decide (lm < bb) = false := decide_eq_false hlb
              rw [if_neg (fun h => hlb h.2)] at hnw
              obtain rfl := hnw
              clear hln hlb
              by_cases hmn : m ≤ nw
              · have f1 : decide (m ≤ nw) = true := decide_eq_true hmn
                clear hmn hov
                clear l1 l2 l3 l4 l5
                obtain ⟨wg1, wg2⟩ := WG.out
                go_wp2_with fail
                refine (HAL.out _).mono ?_
                rintro e w9 ⟨rfl, hb⟩
                have HF := Lib.hid (btr HBZ.out hb (Nat.le_refl _))
                clear hb
                go_wp2_with fail
                go_ret
                exact ⟨rfl, HF.out⟩
              · have f1 : decide (m ≤ nw) = false := decide_eq_false hmn
                obtain ⟨s, hs⟩ : ∃ s, nw + bb = s := ⟨_, rfl⟩
                have f2 : decide (s ≤ n) = true := decide_eq_true (by omega)
                have f3 : (nw : Int) + (bb : Int) = (s : Int) := by omega
                have WF := Lib.hid <| w64 (s : Int) (by omega)
                clear hmn hov hs
                clear l1 l2 l3 l4 l5
                obtain ⟨wg1, wg2⟩ := WG.out
                obtain ⟨wf1, wf2⟩ := WF.out
                go_wp2_with fail
                refine (HAL.out _).mono ?_
                rintro e w9 ⟨rfl, hb⟩
                have HF := Lib.hid (btr HBZ.out hb (Nat.le_refl _))
                clear hb
                go_wp2_with fail
                go_ret
                exact ⟨rfl, HF.out⟩
          · have d1 : decide ((lm : Int) < (n : Int) + 1) = false := decide_eq_false (by omega)
            rw [if_neg (fun h => hln h.1)] at hnw
            obtain rfl := hnw
            clear hln
            by_cases hmn : m ≤ nw
            · have f1 : decide (m ≤ nw) = true := decide_eq_true hmn
              clear hmn hov
              clear l1 l2 l3 l4 l5
              obtain ⟨wg1, wg2⟩ := WG.out
              go_wp2_with fail
              refine (HAL.out _).mono ?_
              rintro e w9 ⟨rfl, hb⟩
              have HF := Lib.hid (btr HBZ.out hb (Nat.le_refl _))
              clear hb
              go_wp2_with fail
              go_ret
              exact ⟨rfl, HF.out⟩
            · have f1 : decide (m ≤ nw) = false := decide_eq_false hmn
              obtain ⟨s, hs⟩ : ∃ s, nw + bb = s := ⟨_, rfl⟩
              have f2 : decide (s ≤ n) = true := decide_eq_true (by omega)
              have f3 : (nw : Int) + (bb : Int) = (s : Int) := by omega
              have WF := Lib.hid <| w64 (s : Int) (by omega)
              clear hmn hov hs
              clear l1 l2 l3 l4 l5
              obtain ⟨wg1, wg2⟩ := WG.out
              obtain ⟨wf1, wf2⟩ := WF.out
              go_wp2_with fail
              refine (HAL.out _).mono ?_
              rintro e w9 ⟨rfl, hb⟩
              have HF := Lib.hid (btr HBZ.out hb (Nat.le_refl _))
              clear hb
              go_wp2_with fail
              go_ret
              exact ⟨rfl, HF.out⟩
        · obtain rfl := l5 (by omega) (by omega) (fun _ => he)
          have d1 : (de == 0) = false := by simpa using he
          have d2 : (de != 0) = true := by simpa using he
          clear he
          clear l1 l2 l3 l4 l5
          go_wp2_with fail
          refine (HAL.out _).mono ?_
          rintro e w9 ⟨rfl, hb⟩
          have HF := Lib.hid (btr HBZ.out hb (Nat.le_refl _))
          clear hb
          go_wp2_with fail
          go_ret
          exact ⟨rfl, HF.out⟩
      have k3' : (xk == 3) = false := by simpa using k3
      have k3'' : (xk != 3) = true := by simpa using k3
      by_cases k4 : xk = 4
      · subst k4
        have hnw := l4 rfl
        by_cases hlb : bb < lm
        · have d1 : decide (bb < lm) = true := decide_eq_true hlb
          rw [if_pos hlb] at hnw
          obtain ⟨s, hs⟩ : ∃ s, lm - bb = s := ⟨_, rfl⟩
          have e1 : (lm : Int) - (bb : Int) = (s : Int) := by omega
          have hmi : max (s : Int) (bb : Int) = (nw : Int) := by omega
          have WE := Lib.hid <| w64 (s : Int) (by omega)
          clear hlb hnw hs
          clear l1 l2 l3 l4 l5
          obtain ⟨we1, we2⟩ := WE.out
          go_wp2_with fail
          refine (HAL.out _).mono ?_
          rintro e w9 ⟨rfl, hb⟩
          have HF := Lib.hid (btr HBZ.out hb (Nat.le_refl _))
          clear hb
          go_wp2_with fail
          go_ret
          exact ⟨rfl, HF.out⟩
        · have d1 : decide (bb < lm) = false := decide_eq_false hlb
          rw [if_neg hlb] at hnw
          obtain rfl := hnw
          clear hlb
          clear l1 l2 l3 l4 l5
          go_wp2_with fail
          refine (HAL.out _).mono ?_
          rintro e w9 ⟨rfl, hb⟩
          have HF := Lib.hid (btr HBZ.out hb (Nat.le_refl _))
          clear hb
          go_wp2_with fail
          go_ret
          exact ⟨rfl, HF.out⟩
      have k4' : (xk == 4) = false := by simpa using k4
      obtain rfl := l5 k0 k4 (fun h => absurd h k3)
      clear k0 k3 k4
      clear l1 l2 l3 l4 l5
      go_wp2_with fail
      refine (HAL.out _).mono ?_
      rintro e w9 ⟨rfl, hb⟩
      have HF := Lib.hid (btr HBZ.out hb (Nat.le_refl _))
      clear hb
      go_wp2_with fail
      go_ret
      exact ⟨rfl, HF.out⟩
end Go.Proofs.Yticcjelaenhigaa
