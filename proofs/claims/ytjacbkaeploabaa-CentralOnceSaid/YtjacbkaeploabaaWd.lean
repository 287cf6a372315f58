/- The statement about the order of what is put. -/
import Derived.Test.YtjacbkaeploabaaFe
import Derived.Test.YtjacbkaeploabaaMg
namespace Go.Proofs.Ytjacbkaeploabaa
open Go.RowKit Go.Shelf

/-- Numbers, as cells. -/
def cellsZ (zs : List Int) : List Value := zs.map (fun x => .int .i64 x)

/-- A cell of an owned row is written. -/
theorem owns_set {W : World} {base : Nat} {e : TypeId} {size g n cap j : Nat} {xs xs' : List Value} {u : Value} (h : W.ownsRow base e size (.slice (some ⟨g, 0, none⟩) n cap) n xs) (hx : xs.set j u = xs') :
    (W.setCell ⟨g, j, none⟩ u).ownsRow base e size (.slice (some ⟨g, 0, none⟩) n cap) n xs' := by
  subst hx
  rcases h.2 with ⟨h0, _⟩ | ⟨g', cap', cur, hv, hb, hg, hn, hc, hs, ht⟩
  · cases h0
  · cases hv
    refine ⟨by rw [List.length_set]; exact h.1, .inr ⟨g, cap, cur.setIfInBounds j u, rfl, hb, ?_, hn, hc, by rw [Array.size_setIfInBounds]; exact hs, ?_⟩⟩
    · simp [World.setCell, Array.getElem?_modify, hg]
    · rw [← ht, Array.toList_setIfInBounds, List.take_set]
theorem ptVr_len {c : Ce} (hw : CWf c) (zs : List Int) : (ptVr (some c) zs).length ≤ 1024 := by
  simp only [ptVr]
  split
  · rw [List.length_map]
    have h1 := (List.filter_sublist (p := fun m => decide (tc m = 0)) (l := offL c.L zs)).length_le
    have h2 : (offL c.L zs).length = c.L.length := by unfold offL; rw [List.length_map]
    have := hw.len
    unfold dead
    omega
  · simp
/-- The objects are put back on one list, and in another order on the other. -/
theorem order_tail {w W2 w3 w4 wr : World} {B1 B2 : Nat} {c : Ce} {A2 A6 : Option Addr} {c6 : Nat} {zs ys : List Int} (h : Two W2 w4 (.pointer (some ⟨B1, 0, none⟩)) (.pointer (some ⟨B2, 0, none⟩)) (some c) (some c) (Nw W2 w3) (Nw w3 w4))
    (hZ : ZAt w4 w.heap.size A2 zs) (hw : w.heap.size ≤ W2.heap.size) (hp : ys.Perm zs) (hz : zs.length ≤ 60) (hrow : wr.ownsRow w4.heap.size 3 1 (.slice A6 ys.length c6) ys.length (cellsZ ys)) (hb : Below w4.heap.size w4 wr) (cp2 : Nat) :
    ∃ (V : List (Nat × Nat)) (D : Option Ce) (er : Int) (c' : Ce), V.length ≤ 1024 ∧ D = some c' ∧
      Calls Try.prog 23 #[.pointer (some ⟨B1, 0, none⟩), .slice A2 zs.length cp2] wr fun e w6 => ∃ P6 d6, e = .returned (.tuple #[.slice P6 V.length d6, .int .i64 er]) ∧
        Calls Try.prog 23 #[.pointer (some ⟨B2, 0, none⟩), .slice A6 ys.length c6] w6 fun e w7 => ∃ P7 d7, e = .returned (.tuple #[.slice P7 V.length d7, .int .i64 er]) ∧
          ∃ O6 O7, Two W2 w7 (.pointer (some ⟨B1, 0, none⟩)) (.pointer (some ⟨B2, 0, none⟩)) D D O6 O7 ∧ RsAt w7 P6 V ∧ RsAt w7 P7 V := by
  have hwf : CWf c := by obtain ⟨_, _, _, _, hh⟩ := h.a.ob; exact hh.wf
  have hs1 := h.a.bel.size
  have hs2 := hb.size
  obtain ⟨L', hL'⟩ := dkD_some c ⟨2, 0, zs⟩
  have hL' : ptDr (some c) zs = some { c with L := L' } := hL'
  refine ⟨ptVr (some c) zs, ptDr (some c) zs, ptEr (some c) zs, _, ptVr_len hwf zs, hL', ?_⟩
  have h5 := h.below hb
  have hZ4 : ZAt wr wr.heap.size A2 zs := (hZ.below (hb.mono (by omega))).more (by omega)
  refine (h5.a.put A2 cp2 zs hz (fun x hx hne ho => ?_) hZ4).mono ?_
  · cases zs with
    | nil => exact hne rfl
    | cons z t =>
      obtain ⟨_, b, o, e, hlt, _⟩ := hZ 0 z rfl
      rw [e] at hx
      injection hx with hx
      subst hx
      have := ho.1
      simp at this
      omega
  · rintro e w6 ⟨P6, d6, rfl, O6, hr6, hN6, ho6, hs6⟩
    refine ⟨P6, d6, rfl, ?_⟩
    have h6 := h5.left ho6 hs6
    have hrow6 : w6.ownsRow w4.heap.size 3 1 (.slice A6 ys.length c6) ys.length (cellsZ ys) := owns_block hrow fun g hg hl => hs6.kp.block g hl fun ho => by
      have h1 := (hrow.lt g hg).1
      have h2 := ho.2
      have := h.b.ob.lt
      have h3 : w3.heap.size ≤ w4.heap.size := by
        obtain ⟨B, _, _, _, hh⟩ := h.b.ob
        have := hh.ob
        have := hh.lt _ hh.ob
        have h4 : w3.heap.size ≤ B := (hh.ob).1
        omega
      omega
    have hY : ZAt w6 w6.heap.size A6 ys := fun i y hi => by
      obtain ⟨g, cap, e1, hg1, hg2, k1⟩ := owns_cell hrow6 (show (cellsZ ys)[i]? = some (.int .i64 y) from by unfold cellsZ; rw [List.getElem?_map, hi]; rfl)
      cases e1
      obtain ⟨j, hj⟩ := List.mem_iff_getElem?.1 (hp.mem_iff.1 (List.mem_of_getElem? hi))
      exact ⟨(hZ j y hj).1, g, 0, rfl, hg2, by rw [Nat.zero_add]; exact k1⟩
    have hRK : RKp w6 (Nw w3 w4) P6 (ptVr (some c) zs) := ⟨hr6.1, fun _ x hx ho => by have := hN6 x hx; have := ho.2; omega⟩
    have hput := h6.b.put A6 c6 ys (by rw [hp.length_eq]; exact hz) (fun x hx _ ho => by
      have h1 := (hrow6.lt x.block (by rw [hx]; rfl)).1
      have := ho.2
      omega) hY
    rw [ptEr_perm hp, (ptDr_perm hp _).1, (ptDr_perm hp _).2] at hput
    refine hput.mono ?_
    rintro e w7 ⟨P7, d7, rfl, O7, hr7, _, ho7, hs7⟩
    exact ⟨P7, d7, rfl, O6, O7, h6.right ho7 hs7, (hRK.step hs7).1, hr7.1⟩


set_option maxRecDepth 100000 in
set_option maxHeartbeats 4000000 in
theorem order_walk (s p b : Int) (A : Option Addr) (cp : Nat) (l : List Ak) (A2 : Option Addr) (cp2 : Nat) (zs : List Int) (t : Int) (w : World) (hl : l.length ≤ 9223372036854775807) (hA : ActsAt w w.heap.size A l) (hz : zs.length ≤ 9223372036854775807) (hA2 : ZAt w w.heap.size A2 zs) (ht : 0 ≤ t ∧ t ≤ 255) :
    Calls Try.prog 7 #[.agg #[.int .i64 s, .int .i64 p, .int .i64 b], .slice A l.length cp, .slice A2 zs.length cp2, .int .u8 t] w (Yes w) := by
  have HAL := Lib.hid alive_any
  obtain ⟨W2, hW0, hB2, hs0, x0, x1, x2⟩ := fresh3 w (.int .i64 s) (.int .i64 p) (.int .i64 b) 23
  have T0 : Tri W2 w.heap.size (.int .i64 s) (.int .i64 p) (.int .i64 b) := Tri.mk (by omega) x0 x1 x2
  have HT0 := Lib.hid (fun W (hb : Below W2.heap.size W2 W) => T0.below hb T0.lt)
  have HG1 := Lib.hid (great_any A cp l W2 hl (hA.below hB2))
  have HMD := Lib.hid (fun W (hb : Below w.heap.size w W) h60 => made_law s p b A cp l W hl h60 hb.size (hA.below hb))
  have HB2 := Lib.hid hB2
  have HZ := Lib.hid hA2
  obtain ⟨n, hn⟩ : ∃ n, zs.length = n := ⟨_, rfl⟩
  have HN := Lib.hid hn
  rw [hn] at hz ⊢
  obtain ⟨L, hL⟩ : ∃ L, l.length = L := ⟨_, rfl⟩
  rw [hL] at hl HG1 HMD ⊢
  clear T0 hA hs0 hB2 hL hA2 hn
  by_cases hg : grB l = true
  · rw [hg] at HG1
    go_enter Try.func7, Try.ntmps7
    go_wp2_with fail
    refine HG1.out.mono ?_
    rintro e _ ⟨rfl, rfl⟩
    go_wp2_with fail
    refine (HAL.out _).mono ?_
    rintro e w2 ⟨rfl, hb⟩
    have HF := Lib.hid (btr HB2.out hb (Nat.le_refl _))
    clear hb
    go_wp2_with fail
    go_ret
    exact ⟨rfl, HF.out⟩
  · have hg' : grB l = false := by simpa using hg
    rw [hg'] at HG1
    have H60 := Lib.hid (grB_no hg').2
    clear hg hg'
    by_cases hbig : 60 < n
    · go_enter Try.func7, Try.ntmps7
      go_wp2_with fail
      refine HG1.out.mono ?_
      rintro e _ ⟨rfl, rfl⟩
      have d60 : decide (60 < (n : Int)) = true := decide_eq_true (by omega)
      go_wp2_with fail
      refine (HAL.out _).mono ?_
      rintro e w2 ⟨rfl, hb⟩
      have HF := Lib.hid (btr HB2.out hb (Nat.le_refl _))
      clear hb
      go_wp2_with fail
      go_ret
      exact ⟨rfl, HF.out⟩
    have hn60 : n ≤ 60 := by omega
    have d60 : decide (60 < (n : Int)) = false := decide_eq_false (by omega)
    go_enter Try.func7, Try.ntmps7
    go_wp2_with fail
    refine HG1.out.mono ?_
    rintro e _ ⟨rfl, rfl⟩
    clear x0 x1 x2
    obtain ⟨_, t0, t1, t2⟩ := HT0.out _ (Below.refl _ _)
    go_wp2_with fail
    obtain ⟨om, hom⟩ : ∃ om, runO (newC ⟨s, p, b⟩) l = om := ⟨_, rfl⟩
    rw [hom] at HMD
    have HC := Lib.hid (fun W (hb : Below W2.heap.size W2 W) => show W.cell? ⟨w.heap.size, 0, none⟩ = some (.int .i64 s) ∧ W.cell? ⟨w.heap.size, 1, none⟩ = some (.int .i64 p) ∧ W.cell? ⟨w.heap.size, 2, none⟩ = some (.int .i64 b) from by
      obtain ⟨_, t0, t1, t2⟩ := HT0.out W hb
      exact ⟨t0, t1, t2⟩)
    cases om with
    | none =>
      go_region_held3 (fun w' => w'.cell? ⟨w.heap.size, 0, none⟩ = some (.int .i64 s) ∧ w'.cell? ⟨w.heap.size, 1, none⟩ = some (.int .i64 p) ∧ w'.cell? ⟨w.heap.size, 2, none⟩ = some (.int .i64 b))
        (first | exact HC.out _ (Below.refl _ _) | exact HC.out _ (belowN (Below.refl _ _) _) | exact HC.out _ hb4 | exact HC.out _ hb3)
        (first
        | (go_at_call 13; refine (HMD.out _ (btr HB2.out hb3 (Nat.le_refl _)) H60.out).mono ?_; intro e w4 hm2; obtain ⟨rfl, hb4'⟩ := hm2.no; have hb4 := btr hb3 hb4' (Nat.le_refl _); clear hm2 hb4')
        | (go_at_call 13; refine (HMD.out _ (belowN HB2.out _) H60.out).mono ?_; intro e w3 hm1; obtain ⟨rfl, hb3'⟩ := hm1.no; have hb3 := btr (belowN (Below.refl W2.heap.size W2) _) hb3' (Nat.le_refl _); clear hm1 hb3'))
      have HB4 := Lib.hid (btr HB2.out hb4 (Nat.le_refl _))
      clear hb3 hb4 t0 t1 t2
      go_wp2_with fail
      refine (HAL.out _).mono ?_
      rintro e w2 ⟨rfl, hb⟩
      have HF := Lib.hid (btr HB4.out hb (Nat.le_refl _))
      clear hb
      go_wp2_with fail
      go_ret
      exact ⟨rfl, HF.out⟩
    | some c =>
      go_region_held3 (fun w' => w'.cell? ⟨w.heap.size, 0, none⟩ = some (.int .i64 s) ∧ w'.cell? ⟨w.heap.size, 1, none⟩ = some (.int .i64 p) ∧ w'.cell? ⟨w.heap.size, 2, none⟩ = some (.int .i64 b))
        (first | exact HC.out _ (Below.refl _ _) | exact HC.out _ (belowN (Below.refl _ _) _) | exact HC.out _ hb4 | exact HC.out _ hb3)
        (first
        | (go_at_call 13; refine (HMD.out _ (btr HB2.out hb3 (Nat.le_refl _)) H60.out).mono ?_; intro e w4 hm2; obtain ⟨B2, rfl, ho2⟩ := hm2.yes; have hb4 := btr hb3 ho2.2 (Nat.le_refl _); clear hm2)
        | (go_at_call 13; refine (HMD.out _ (belowN HB2.out _) H60.out).mono ?_; intro e w3 hm1; obtain ⟨B1, rfl, ho1⟩ := hm1.yes; have hb3 := btr (belowN (Below.refl W2.heap.size W2) _) ho1.2 (Nat.le_refl _); clear hm1))
      have h2 := Two.of (ho1.later (belowN (Below.refl W2.heap.size W2) _)) ho2
      have HTW := Lib.hid h2
      clear ho1 ho2 h2 t0 t1 t2 hb3 hb4
      clear hbig
      obtain ⟨i0, hi, hz0, hz1, hz2⟩ := info_parts info3
      obtain ⟨tn, htn⟩ : ∃ tn : Nat, t = tn := ⟨t.toNat, by omega⟩
      subst htn
      have HRL := Lib.hid (show (rot zs tn).length = n from by rw [(rot_perm zs tn).length_eq]; exact HN.out)
      have HRG := Lib.hid (fun k (hk : k < n) => show (rot zs tn)[k]? = zs[(k + tn) % n]? from by rw [← HN.out] at hk ⊢; exact rot_get hk)
      go_wp2_with fail
      go_loopw [11, 12] (fun tv i wr => ∃ k : Nat, k ≤ n ∧ i = .int .i64 k ∧ wr.ownsRow w4.heap.size 3 1 tv k (cellsZ ((rot zs tn).take k)) ∧ Below w4.heap.size w4 wr) (fun _ i _ => n - (intOf i).toNat)
      case atStart => exact ⟨0, by omega, rfl, World.ownsRow_nil _ _ _ _, Below.refl _ _⟩
      case round =>
        obtain ⟨k, hk, rfl, hrow, hb⟩ := hrel
        obtain ⟨A6, c6, rfl⟩ := owns_form hrow
        have HR := Lib.hid hrow
        have HB := Lib.hid hb
        by_cases hlt : k < n
        · obtain ⟨q, hq⟩ : ∃ q, (k + tn) % n = q := ⟨_, rfl⟩
          have hqn : q < n := by rw [← hq]; exact Nat.mod_lt _ (by omega)
          obtain ⟨x, hx⟩ : ∃ x, zs[q]? = some x := ⟨_, List.getElem?_eq_getElem (by have := HN.out; omega)⟩
          obtain ⟨_, bb, o, rfl, _, g1⟩ := (HZ.out.below (btr HB2.out (btr HTW.out.a.bel hb (Nat.le_refl _)) (Nat.le_refl _))) q x hx
          have hrem : ((k : Int) + (tn : Int)).tmod (n : Int) = (q : Nat) := by rw [← hq, ← Int.natCast_add, ← Int.ofNat_tmod]
          have HTK := Lib.hid (show (rot zs tn).take (k + 1) = (rot zs tn).take k ++ [x] from by rw [List.take_add_one, HRG.out k hlt, hq, hx]; rfl)
          have hbw := hb.size
          clear hrow hb hx hq
          go_wp2_with (at_builtin; refine wpList_append_own _ rfl _ _ 29 rfl w4.heap.size 3 i0 (.int .i64 0) 1 8 Try.underlying29 hi hz0 hz1 hz2 rfl (by decide) _ _ _ rfl (HR.out.alloc _) ⟨wr.heap.size, 0, none⟩ 1 1 [.int .i64 x] rfl rfl (cells1_new wr _ _) (by simp [Value.oneCell']) (by unfold maxLen; omega) (by omega) (by simp; omega) ?_; intro v' w5 hown' hgrow _; have HO5 := Lib.hid hown'; have HB5 := Lib.hid ((HB.out.alloc hbw _).grown hgrow (by simp; omega) (fun k e => (HR.out.lt k e).1)); clear hown' hgrow)
          go_roundw
          case rel => exact ⟨k + 1, by omega, by go_num, by rw [HTK.out]; unfold cellsZ; rw [List.map_append]; exact HO5.out, HB5.out⟩
          case measure => simp [intOf]; omega
        · obtain rfl : k = n := by omega
          have hall : (rot zs tn).take k = rot zs tn := List.take_of_length_le (by rw [HRL.out]; exact Nat.le_refl _)
          rw [hall] at hrow
          have HR := Lib.hid hrow
          have hpar : (tn : Int).tmod 2 = ((tn % 2 : Nat) : Int) := by rw [show (2 : Int) = ((2 : Nat) : Int) from rfl, ← Int.ofNat_tmod]
          have HP0 := Lib.hid (rot_perm zs tn)
          generalize rot zs tn = ro at *
          have hPO : ∀ ys : List Int, ys.Perm ro → ys.length = k := fun ys h => by rw [h.length_eq]; exact HRL.out
          have HPO := Lib.hid hPO
          by_cases hodd : tn % 2 = 1
          · rw [hodd] at hpar
            clear hrow hall hPO
            go_wp2_with fail
            go_loopw [13, 14] (fun i j wv => ∃ (q : Nat) (ys : List Int), i = .int .i64 q ∧ j = .int .i64 ((k : Int) - 1 - q) ∧ q ≤ k ∧ ys.Perm ro ∧ wv.ownsRow w4.heap.size 3 1 (.slice A6 k c6) k (cellsZ ys) ∧ Below w4.heap.size w4 wv) (fun i _ _ => k - (intOf i).toNat)
            case atStart => exact ⟨0, ro, rfl, by go_num, by omega, List.Perm.refl _, HR.out, HB.out⟩
            case round =>
              obtain ⟨q, ys, rfl, hj, hqk, hper, hrow, hbv⟩ := hrel
              have HPE := Lib.hid hper
              have HRV := Lib.hid hrow
              have HBV := Lib.hid hbv
              by_cases hc : 2 * q + 1 < k
              · obtain ⟨jn, hjn⟩ : ∃ jn : Nat, (k : Int) - 1 - q = jn := ⟨k - 1 - q, by omega⟩
                rw [hjn] at hj
                subst hj
                have hqj : q < jn := by omega
                have hjk : jn < k := by omega
                have HJN := Lib.hid hjn
                have hyl := HPO.out ys hper
                obtain ⟨a, ha⟩ : ∃ a, ys[q]? = some a := ⟨_, List.getElem?_eq_getElem (by omega)⟩
                obtain ⟨b', hb'⟩ : ∃ b', ys[jn]? = some b' := ⟨_, List.getElem?_eq_getElem (by omega)⟩
                obtain ⟨g, cap, e1, hg1, hg2, k1⟩ := owns_cell hrow (show (cellsZ ys)[q]? = some (.int .i64 a) from by unfold cellsZ; rw [List.getElem?_map, ha]; rfl)
                obtain ⟨g', cap', e2, _, _, k2⟩ := owns_cell hrow (show (cellsZ ys)[jn]? = some (.int .i64 b') from by unfold cellsZ; rw [List.getElem?_map, hb']; rfl)
                cases e1
                cases e2
                obtain ⟨_, _, cur, hgc⟩ := owns_at hrow (g := g) rfl
                have fr1 : wr.frozen? ⟨g, q, none⟩ = false := by simp [World.frozen?, hgc]
                have fr2 : wr.frozen? ⟨g, jn, none⟩ = false := by simp [World.frozen?, hgc]
                have HSW := Lib.hid (swap_perm ha hb' (by omega))
                have k1' : wr.drew.cell? ⟨g, q, none⟩ = some (.int .i64 a) := k1
                have k2' : wr.drew.cell? ⟨g, jn, none⟩ = some (.int .i64 b') := k2
                have fr1' : wr.drew.frozen? ⟨g, q, none⟩ = false := fr1
                have fr2' : wr.drew.frozen? ⟨g, jn, none⟩ = false := fr2
                have dq : decide ((q : Int) < (jn : Int)) = true := decide_eq_true (by omega)
                clear ha hb' hper hrow hbv hgc hyl hc hjn
                go_wp2_with fail
                go_region
                have hro := owns_below (owns_set (owns_set HRV.out (j := q) (u := .int .i64 b') (xs' := cellsZ (ys.set q b')) (by unfold cellsZ; rw [List.map_set])) (j := jn) (u := .int .i64 a) (xs' := cellsZ ((ys.set q b').set jn a)) (by simp only [cellsZ, List.map_set])) (Below.drew (Below.refl _ _))
                have hbe := Below.drew ((HBV.out.setCell (p := ⟨g, q, none⟩) hg1 (.int .i64 b')).setCell (p := ⟨g, jn, none⟩) hg1 (.int .i64 a))
                have HRO := Lib.hid (And.intro hro hbe)
                clear hro hbe
                go_wp2_with fail
                go_roundw
                case rel => exact ⟨q + 1, _, by go_num, by have := HJN.out; go_num, by omega, HSW.out.trans HPE.out, HRO.out.1, HRO.out.2⟩
                case measure => simp [intOf]; omega
              · subst hj
                have dq : decide ((q : Int) < (k : Int) - 1 - q) = false := decide_eq_false (by omega)
                have hrow' : wr.ownsRow w4.heap.size 3 1 (.slice A6 ys.length c6) ys.length (cellsZ ys) := by rw [HPO.out ys hper]; exact hrow
                have hyl := HPO.out ys hper
                have hpz := hper.trans HP0.out
                have hpt := order_tail HTW.out (HZ.out.below (btr HB2.out HTW.out.a.bel (Nat.le_refl _))) HB2.out.size hpz (by rw [HN.out]; exact hn60) hrow' hbv cp2
                rw [hyl, HN.out] at hpt
                obtain ⟨V, D, er, c', hV, hD, hpt⟩ := hpt
                subst hD
                have HPT := Lib.hid hpt
                clear hyl hpz hpt hper hrow hrow' hbv
                go_wp2_with fail
                refine HPT.out.mono ?_
                rintro e w6 ⟨P6, d6, rfl, hpt⟩
                have HP2 := Lib.hid hpt
                clear hpt HPT
                go_wp2_with fail
                refine HP2.out.mono ?_
                rintro e w7 ⟨P7, d7, rfl, O6, O7, h7, r6, r7⟩
                have HRE := Lib.hid (RunsEq_any P6 P7 d6 d7 V w7 hV r6 r7)
                have H7 := Lib.hid h7
                clear h7 r6 r7 HP2
                go_wp2_with fail
                refine HRE.out.mono ?_
                rintro e w8 ⟨rfl, hb⟩
                have H8 := Lib.hid (H7.out.below hb)
                clear hb HRE
                go_wp2_with fail
                refine (alike_any H8.out.a.ob H8.out.b.ob).mono ?_
                rintro e w9 ⟨rfl, hb⟩
                have HF := Lib.hid (btr (btr HB2.out H8.out.a.bel (Nat.le_refl _)) hb (Nat.le_refl _))
                clear hb
                go_wp2_with fail
                refine (HAL.out _).mono ?_
                rintro e w10 ⟨rfl, hb⟩
                have HF2 := Lib.hid (btr HF.out hb (Nat.le_refl _))
                clear hb
                go_wp2_with fail
                go_ret
                exact ⟨rfl, HF2.out⟩
          · have hodd : tn % 2 = 0 := by omega
            rw [hodd] at hpar
            clear hrow hall hPO hb
            go_wp2_with fail
            go_loopw [13, 14] (fun i j wv => i = .int .i64 0 ∧ j = .int .i64 ((k : Int) - 1) ∧ wv.ownsRow w4.heap.size 3 1 (.slice A6 k c6) k (cellsZ ro) ∧ Below w4.heap.size w4 wv) (fun _ _ _ => 0)
            case atStart => exact ⟨rfl, by go_num, HR.out, HB.out⟩
            case round =>
              obtain ⟨rfl, rfl, hrow, hb⟩ := hrel
              have hper : ro.Perm ro := List.Perm.refl _
              have hrow' : wr.ownsRow w4.heap.size 3 1 (.slice A6 ro.length c6) ro.length (cellsZ ro) := by rw [HRL.out]; exact hrow
              have hyl := HPO.out ro hper
              have hpz := hper.trans HP0.out
              have hpt := order_tail HTW.out (HZ.out.below (btr HB2.out HTW.out.a.bel (Nat.le_refl _))) HB2.out.size hpz (by rw [HN.out]; exact hn60) hrow' hb cp2
              rw [hyl, HN.out] at hpt
              obtain ⟨V, D, er, c', hV, hD, hpt⟩ := hpt
              subst hD
              have HPT := Lib.hid hpt
              clear hyl hpz hpt hper hrow hrow'
              go_wp2_with fail
              refine HPT.out.mono ?_
              rintro e w6 ⟨P6, d6, rfl, hpt⟩
              have HP2 := Lib.hid hpt
              clear hpt HPT
              go_wp2_with fail
              refine HP2.out.mono ?_
              rintro e w7 ⟨P7, d7, rfl, O6, O7, h7, r6, r7⟩
              have HRE := Lib.hid (RunsEq_any P6 P7 d6 d7 V w7 hV r6 r7)
              have H7 := Lib.hid h7
              clear h7 r6 r7 HP2
              go_wp2_with fail
              refine HRE.out.mono ?_
              rintro e w8 ⟨rfl, hb⟩
              have H8 := Lib.hid (H7.out.below hb)
              clear hb HRE
              go_wp2_with fail
              refine (alike_any H8.out.a.ob H8.out.b.ob).mono ?_
              rintro e w9 ⟨rfl, hb⟩
              have HF := Lib.hid (btr (btr HB2.out H8.out.a.bel (Nat.le_refl _)) hb (Nat.le_refl _))
              clear hb
              go_wp2_with fail
              refine (HAL.out _).mono ?_
              rintro e w10 ⟨rfl, hb⟩
              have HF2 := Lib.hid (btr HF.out hb (Nat.le_refl _))
              clear hb
              go_wp2_with fail
              go_ret
              exact ⟨rfl, HF2.out⟩

end Go.Proofs.Ytjacbkaeploabaa
