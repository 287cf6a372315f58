/- The statement: Drain returns all objects, and leaves the limits. -/
import Derived.Test.YticcjelaenhigaaWb
namespace Go.Proofs.Yticcjelaenhigaa
open Go.RowKit Go.Sort Go.Shelf Go.Lib

def limsK (c : Tc) (k : Nat) : List Int := (c.K.take k).map fun q => (q.lim : Int)
theorem limsK_succ {c : Tc} {k : Nat} {q : Kl} (h : c.K[k]? = some q) : limsK c (k + 1) = limsK c k ++ [(q.lim : Int)] := by
  unfold limsK
  rw [List.take_add_one, h]; simp
theorem limsK_at {c : Tc} {k i : Nat} {q : Kl} (h : c.K[i]? = some q) (hi : i < k) : (limsK c k)[i]? = some (q.lim : Int) := by
  unfold limsK
  rw [List.getElem?_map, List.getElem?_take, if_pos hi, h]; rfl
theorem drainV_eq (k : Kl) : drainV k = k.l := List.take_length
theorem drain_at {c : Tc} {i : Nat} {k : Kl} (h : c.K[i]? = some k) : (Tc.mk c.g (c.K.map drainK)).K[i]? = some (drainK k) := by
  show (c.K.map drainK)[i]? = _
  rw [List.getElem?_map, h]; rfl
theorem drainK_l (k : Kl) : (drainK k).l = [] ∧ (drainK k).lo = 0 ∧ (drainK k).lim = k.lim := by
  refine ⟨?_, ?_, rfl⟩
  · show k.l.drop k.l.length = []
    exact List.drop_length
  · show min k.lo (k.l.length - k.l.length) = 0
    omega
theorem drain_by (c : Tc) : byT (some ⟨c.g, c.K.map drainK⟩) = 0 := by
  show ((c.K.map drainK).map byK).sum = 0
  refine sum_zero _ fun x hx => ?_
  obtain ⟨k, hk, rfl⟩ := List.mem_map.1 hx
  obtain ⟨k0, _, rfl⟩ := List.mem_map.1 hk
  unfold byK
  rw [(drainK_l k0).1]; simp

/-- What the loop has gathered: batches and limits. -/
structure DrI (w1 wr : World) (c : Tc) (kv ks : Nat) (V S : Value) (X : List Bx) : Prop where
  b : Below w1.heap.size w1 wr
  row : wr.ownsRow w1.heap.size 61 2 V X.length (cellsX X)
  lim : wr.ownsRow w1.heap.size 3 1 S ks (cZ (limsK c ks))
  xs : X.map (fun x => (x.i, x.l)) = batQ (hK drainV c.K) (List.range kv)
  at' : ∀ x ∈ X, IAt (fun j => w1.heap.size ≤ j ∧ V.ownBlock ≠ some j ∧ S.ownBlock ≠ some j) wr x.A x.l
  ne : ∀ j, V.ownBlock = some j → S.ownBlock ≠ some j
section
variable {w1 wr w2 w3 : World} {c : Tc} {kv ks : Nat} {V S V' S' : Value} {X : List Bx} {k : Kl} {A' : Option Addr} {c' : Nat}
theorem DrI.start (w1 : World) (c : Tc) : DrI w1 w1 c 0 0 (.slice none 0 0) (.slice none 0 0) [] :=
  ⟨Below.refl _ _, World.ownsRow_nil _ _ _ _, World.ownsRow_nil _ _ _ _, rfl, fun x hx => (by cases hx), fun j hj => (by cases hj)⟩
theorem DrI.below (h : DrI w1 wr c kv ks V S X) (hb : Below wr.heap.size wr w2) : DrI w1 w2 c kv ks V S X :=
  ⟨btr h.b hb (Nat.le_refl _), own_keep h.row fun g hg => hb.block g (h.row.lt g hg).2, own_keep h.lim fun g hg => hb.block g (h.lim.lt g hg).2, h.xs, fun x hx => (h.at' x hx).below hb, h.ne⟩
theorem DrI.skip (h : DrI w1 wr c kv ks V S X) (hk : c.K[kv]? = some k) (hn : k.l = []) : DrI w1 wr c (kv + 1) ks V S X :=
  ⟨h.b, h.row, h.lim, by rw [h.xs, List.range_succ, batQ_snoc, show hK drainV c.K kv = [] from by unfold hK; rw [hk]; exact (drainV_eq k).trans hn, if_pos rfl, List.append_nil], h.at', h.ne⟩
theorem DrI.pushV (h : DrI w1 wr c kv ks V S X) (hk : c.K[kv]? = some k) (hn : k.l ≠ []) (hb : Below wr.heap.size wr w2) (hia : IAt (fun j => wr.heap.size ≤ j) w2 A' k.l) {tmp : Obj}
    (hrow : w3.ownsRow w1.heap.size 61 2 V' (X.length + 1) (cellsX X ++ [.int .i64 (kv : Nat), .slice A' k.l.length c'])) (hgr : (w2.alloc tmp).grownBy w3 V.ownBlock) (hat : V'.ownBlock = V.ownBlock ∨ V'.ownBlock = some (w2.alloc tmp).heap.size) : DrI w1 w3 c (kv + 1) ks V' S (X ++ [⟨kv, k.l, A', c'⟩]) := by
  have h2 := h.below hb
  have hs3 := hgr.size
  simp only [World.size_alloc] at hs3 hat
  have hsz := h.b.size
  have hsb := hb.size
  have hV : ∀ q, V.ownBlock = some q → w1.heap.size ≤ q ∧ q < wr.heap.size := fun q hq => h.row.lt q hq
  have hS : ∀ q, S.ownBlock = some q → w1.heap.size ≤ q ∧ q < wr.heap.size := fun q hq => h.lim.lt q hq
  have old : ∀ q, q < w2.heap.size → V.ownBlock ≠ some q → w3.heap[q]? = w2.heap[q]? := fun q hq hne => (hgr.block q (by simp; omega) (fun e => hne e.symm)).trans (Below.heap_alloc _ _ _ hq)
  have k3 : Keep (fun q => V.ownBlock = some q) w2 w3 := ⟨hgr.os, hgr.tape, hgr.output, by omega, fun q hq hne => old q hq hne⟩
  have hne' : ∀ q, q < w2.heap.size → V.ownBlock ≠ some q → V'.ownBlock ≠ some q := fun q hq hne => by
    rcases hat with e | e
    · rw [e]; exact hne
    · rw [e]; intro e2; injection e2 with e2; omega
  refine ⟨h2.b.trans (k3.below h2.b.size (fun q hq => (hV q hq).1)), ?_, own_keep h2.lim fun g hg => old g (by have := hS g hg; omega) (fun e => h.ne g e hg), ?_, fun x hx => ?_, fun j hj hs => ?_⟩
  · rw [List.length_append, cellsX_app]
    exact hrow
  · rw [List.map_append, h.xs, List.range_succ, batQ_snoc, show hK drainV c.K kv = k.l from by unfold hK; rw [hk]; exact drainV_eq k, if_neg hn]
    rfl
  · rcases List.mem_append.1 hx with h1 | h1
    · exact (((h2.at' x h1).mono (P' := fun q => (w1.heap.size ≤ q ∧ V'.ownBlock ≠ some q ∧ S.ownBlock ≠ some q) ∧ V.ownBlock ≠ some q) fun q hq h2 => ⟨⟨h2.1, hne' q hq h2.2.1, h2.2.2⟩, h2.2.1⟩).keep k3 (fun q h2 h3 => h2.2 h3)).mono fun q _ h2 => h2.1
    · rw [List.mem_singleton.1 h1]
      refine ((hia.mono (P' := fun q => (w1.heap.size ≤ q ∧ V'.ownBlock ≠ some q ∧ S.ownBlock ≠ some q) ∧ V.ownBlock ≠ some q) fun q hq h2 => ?_).keep k3 (fun q h2 h3 => h2.2 h3)).mono fun q _ h2 => h2.1
      have h2 : wr.heap.size ≤ q := h2
      have hVq : V.ownBlock ≠ some q := fun e => by have := hV q e; omega
      exact ⟨⟨by omega, hne' q hq hVq, fun e => by have := hS q e; omega⟩, hVq⟩
  · have := hS j hs
    rcases hat with e | e
    · rw [e] at hj; exact h.ne j hj hs
    · rw [e] at hj; injection hj with hj; omega
theorem DrI.pushS (h : DrI w1 wr c kv ks V S X) (hk : c.K[ks]? = some k) {tmp : Obj}
    (hrow : w3.ownsRow w1.heap.size 3 1 S' (ks + 1) (cZ (limsK c ks) ++ [.int .i64 (k.lim : Nat)])) (hgr : (wr.alloc tmp).grownBy w3 S.ownBlock) (hat : S'.ownBlock = S.ownBlock ∨ S'.ownBlock = some (wr.alloc tmp).heap.size) : DrI w1 w3 c kv (ks + 1) V S' X := by
  have hs3 := hgr.size
  simp only [World.size_alloc] at hs3 hat
  have hsz := h.b.size
  have hV : ∀ q, V.ownBlock = some q → w1.heap.size ≤ q ∧ q < wr.heap.size := fun q hq => h.row.lt q hq
  have hS : ∀ q, S.ownBlock = some q → w1.heap.size ≤ q ∧ q < wr.heap.size := fun q hq => h.lim.lt q hq
  have old : ∀ q, q < wr.heap.size → S.ownBlock ≠ some q → w3.heap[q]? = wr.heap[q]? := fun q hq hne => (hgr.block q (by simp; omega) (fun e => hne e.symm)).trans (Below.heap_alloc _ _ _ hq)
  have k3 : Keep (fun q => S.ownBlock = some q) wr w3 := ⟨hgr.os, hgr.tape, hgr.output, by omega, fun q hq hne => old q hq hne⟩
  have hne' : ∀ q, q < wr.heap.size → S.ownBlock ≠ some q → S'.ownBlock ≠ some q := fun q hq hne => by
    rcases hat with e | e
    · rw [e]; exact hne
    · rw [e]; intro e2; injection e2 with e2; omega
  refine ⟨h.b.trans (k3.below h.b.size (fun q hq => (hS q hq).1)), own_keep h.row fun g hg => old g (hV g hg).2 (h.ne g hg), ?_, h.xs, fun x hx => ?_, fun j hj => hne' j (hV j hj).2 (h.ne j hj)⟩
  · rw [limsK_succ hk, cZ_app]
    exact hrow
  · exact (((h.at' x hx).mono (P' := fun q => (w1.heap.size ≤ q ∧ V.ownBlock ≠ some q ∧ S'.ownBlock ≠ some q) ∧ S.ownBlock ≠ some q) fun q hq h2 => ⟨⟨h2.1, h2.2.1, hne' q hq h2.2.2⟩, h2.2.2⟩).keep k3 (fun q h2 h3 => h2.2 h3)).mono fun q _ h2 => h2.1
theorem DrI.len (h : DrI w1 wr c kv ks V S X) : X.length ≤ kv := by
  have h1 : X.length = (batQ (hK drainV c.K) (List.range kv)).length := by rw [← h.xs, List.length_map]
  have h2 := batQ_len (hK drainV c.K) (List.range kv)
  rw [List.length_range] at h2
  omega
/-- The batches as they lie. -/
theorem DrI.bat (h : DrI w1 wr c kv ks V S X) {A : Option Addr} {cc : Nat} (hV : V = .slice A X.length cc) (hkv : kv = c.K.length) : BAt (fun j => w1.heap.size ≤ j) wr A (batV drainV (some c)) ∧ X.length = (batV drainV (some c)).length := by
  have e : batV drainV (some c) = X.map (fun x => (x.i, x.l)) := by rw [h.xs, hkv]; rfl
  rw [e]
  refine ⟨fun i x hx => ?_, (List.length_map _).symm⟩
  rw [List.getElem?_map] at hx
  obtain ⟨y, hy, rfl⟩ : ∃ y, X[i]? = some y ∧ (y.i, y.l) = x := by
    cases hy : X[i]? with
    | none => rw [hy] at hx; cases hx
    | some y => rw [hy] at hx; exact ⟨y, rfl, by injection hx⟩
  have hlt := (List.getElem?_eq_some_iff.1 hy).1
  obtain ⟨g, rfl⟩ : ∃ g, A = some ⟨g, 0, none⟩ := by
    have hr := h.row
    rw [hV] at hr
    rcases hr.2 with ⟨_, h0⟩ | ⟨q, cap, cur, e, _⟩
    · omega
    · injection e with e _ _; exact ⟨q, e⟩
  have hr := h.row
  rw [hV] at hr
  obtain ⟨g1, g2, g3, _⟩ := owns_at hr
  refine ⟨g, 0, y.A, y.c, rfl, g2, g1, ?_, ?_, (h.at' y (List.mem_of_getElem? hy)).mono fun q _ hq => hq.1⟩
  · rw [Nat.zero_add]; exact g3 _ _ (cellsX_at X i y 0 hy (by omega))
  · rw [Nat.zero_add]; exact g3 _ _ (cellsX_at X i y 1 hy (by omega))
end

set_option maxRecDepth 100000 in
set_option maxHeartbeats 8000000 in
theorem drains_walk (A0 : Option Addr) (c0 : Nat) (t : List Cs) (g : Int) (A : Option Addr) (cp : Nat) (l : List Ak) (w : World) (ht : t.length ≤ 9223372036854775807) (hT : TabAt w w.heap.size A0 t) (hl : l.length ≤ 9223372036854775807) (hA : ActsAt w w.heap.size A l) :
    Calls Try.prog 11 #[.slice A0 t.length c0, .int .i64 g, .slice A l.length cp] w (Yes w) := by
  have HAL := Lib.hid alive_any
  have HT := Lib.hid hT
  have HG := Lib.hid (great_any A cp l w hl hA)
  obtain ⟨i0, hi, hz0, hz1, hz2⟩ := info_parts info3
  obtain ⟨j0, hj, hy0, hy1, hy2⟩ := info_parts infoBt
  by_cases hg : grB l = true
  · rw [hg] at HG
    generalize t.length = tn at *
    generalize l.length = ln at *
    clear hT hA hg
    go_enter Try.func11, Try.ntmps11
    go_wp2_with fail
    refine HG.out.mono ?_
    rintro e _ ⟨rfl, rfl⟩
    go_wp2_with fail
    refine (HAL.out _).mono ?_
    rintro e w2 ⟨rfl, hb⟩
    have HF := Lib.hid hb
    clear hb
    go_wp2_with fail
    go_ret
    exact ⟨rfl, HF.out⟩
  have hg' : grB l = false := by simpa using hg
  rw [hg'] at HG
  have HM := Lib.hid (made_law A0 c0 t g A cp l w ht hT (grB_no hg').1 (Nat.le_refl _) hA)
  cases hm : madeO t g l with
  | none =>
    rw [hm] at HM
    generalize t.length = tn at *
    generalize l.length = ln at *
    clear hT hA hg hg' hm
    go_enter Try.func11, Try.ntmps11
    go_wp2_with fail
    refine HG.out.mono ?_
    rintro e _ ⟨rfl, rfl⟩
    go_wp2_with fail
    refine HM.out.mono ?_
    intro e w1 hp
    obtain ⟨rfl, hb1⟩ := hp.no
    have HB1 := Lib.hid hb1
    clear hp hb1
    go_wp2_with fail
    refine (HAL.out _).mono ?_
    rintro e w2 ⟨rfl, hb⟩
    have HF := Lib.hid (btr HB1.out hb (Nat.le_refl _))
    clear hb
    go_wp2_with fail
    go_ret
    exact ⟨rfl, HF.out⟩
  | some c =>
    rw [hm] at HM
    have HKN := Lib.hid (made_kin hm)
    have HLN := Lib.hid HKN.out.2.2.len
    have ht40 := okT_len HKN.out.1
    obtain ⟨tn, htn⟩ : ∃ tn, t.length = tn := ⟨_, rfl⟩
    rw [htn] at HM HLN ht ht40 ⊢
    obtain ⟨ln, hln⟩ : ∃ ln, l.length = ln := ⟨_, rfl⟩
    rw [hln] at HG HM hl ⊢
    have HTN := Lib.hid htn
    clear hT hA hg hg' hm htn hln
    go_enter Try.func11, Try.ntmps11
    go_wp2_with fail
    refine HG.out.mono ?_
    rintro e _ ⟨rfl, rfl⟩
    go_wp2_with fail
    refine HM.out.mono ?_
    intro e w1 hp
    obtain ⟨B, O, rfl, ho⟩ := hp.yes
    have HO := Lib.hid ho
    have HWF := Lib.hid ho.ob.wf
    clear hp ho HM HG
    go_wp2_with fail
    go_loopw [8, 9, 10] (fun V S i wr => ∃ (k : Nat) (X : List Bx), k ≤ tn ∧ i = .int .i64 k ∧ DrI w1 wr c k k V S X) (fun _ _ i _ => tn - (intOf i).toNat)
    case atStart => exact ⟨0, [], by omega, rfl, DrI.start w1 c⟩
    case round =>
      obtain ⟨k, X, hk, rfl, hD⟩ := hrel
      have HD := Lib.hid hD
      obtain ⟨A3, c3, rfl⟩ := owns_form hD.row
      obtain ⟨A4, c4, rfl⟩ := owns_form hD.lim
      obtain ⟨m, hm⟩ : ∃ m, X.length = m := ⟨_, rfl⟩
      have HMM := Lib.hid hm
      have hmk := hD.len
      rw [hm] at hmk HD ⊢
      have hsz := hD.b.size
      have HOW := Lib.hid (HO.out.below hD.b)
      clear hD hm
      by_cases hlt : k < tn
      · obtain ⟨kl, hkl⟩ : ∃ kl, c.K[k]? = some kl := ⟨_, List.getElem?_eq_getElem (by rw [HLN.out]; exact hlt)⟩
        have hin : InR (k : Int) := InR.nat (by omega)
        have HC1 := Lib.hid (cLen_any HOW.out.ob hin)
        have HC2 := Lib.hid (cObjects_any HOW.out.ob hin)
        have HC3 := Lib.hid (fun (w' : World) (h : Below w1.heap.size w1 w') => cLimit_any (HO.out.below h).ob hin)
        rw [lenT_at hkl] at HC1
        rw [objT_at hkl] at HC2
        simp only [limT_at hkl] at HC3
        have HKL := Lib.hid hkl
        obtain ⟨lim, hlim⟩ : ∃ lim : Int, (kl.lim : Int) = lim := ⟨_, rfl⟩
        have HLM := Lib.hid hlim
        rw [hlim] at HC3
        clear hlim
        unfold ObjP at HC2
        obtain ⟨n, hn⟩ : ∃ n, kl.l.length = n := ⟨_, rfl⟩
        have HNN := Lib.hid hn
        rw [hn] at HC1 HC2
        have hn256 : n ≤ 256 := by rw [← hn]; exact (HWF.out.k kl (List.mem_of_getElem? hkl)).len
        clear hkl hn hin
        by_cases hn0 : n = 0
        · subst hn0
          have HX := Lib.hid (HD.out.skip HKL.out (List.length_eq_zero_iff.1 HNN.out))
          go_wp2_with fail
          refine HC1.out.mono ?_
          rintro e _ ⟨rfl, rfl⟩
          go_wp2_with fail
          refine (HC3.out _ HX.out.b).mono ?_
          rintro e _ ⟨rfl, rfl⟩
          go_wp2_with (at_builtin; refine wpList_append_own_at _ rfl _ _ 33 rfl w1.heap.size 3 i0 (.int .i64 0) 1 8 undInts hi hz0 hz1 hz2 rfl (by decide) (.slice A4 k c4) k (cZ (limsK c k)) rfl (HX.out.lim.alloc _) ⟨wr.heap.size, 0, none⟩ 1 1 [.int .i64 lim] rfl rfl (fun j u hu => by rw [Addr.add_lit, Nat.zero_add]; exact cell_block (heap_alloc_new wr _) (by simpa using hu)) (by simp [Value.oneCell']) (by unfold maxLen; omega) (by omega) (by have := HX.out.b.size; simp; omega) ?_; intro v' w9 hown hgr hnil hat; have HR := Lib.hid (And.intro hown (And.intro hgr hat)); obtain ⟨A9, c9, rfl⟩ := owns_form hown; clear hown hgr hnil hat)
          go_roundw
          case rel =>
            have hr := HR.out
            rw [← HLM.out] at hr
            have := HX.out.pushS HKL.out hr.1 hr.2.1 hr.2.2
            exact ⟨k + 1, X, by omega, by go_num, this⟩
          case measure => simp [intOf]; omega
        · have hd : decide ((0 : Int) < (n : Int)) = true := decide_eq_true (by omega)
          have hd2 : decide (0 < n) = true := decide_eq_true (by omega)
          have HN0 := Lib.hid hn0
          clear hn0
          go_wp2_with fail
          refine HC1.out.mono ?_
          rintro e _ ⟨rfl, rfl⟩
          go_wp2_with fail
          refine HC2.out.mono ?_
          rintro e w2 ⟨A5, c5, rfl, hi5, hb5⟩
          have HI5 := Lib.hid (And.intro hi5 (And.intro hb5 (HD.out.below hb5)))
          have hs2 := hb5.size
          clear hi5 hb5
          have HRW := Lib.hid (show w2.ownsRow w1.heap.size 61 2 (.slice A3 m c3) m (cellsX X) from by
            have := HI5.out.2.2.row
            rw [HMM.out] at this
            exact this)
          go_wp2_with (at_builtin; refine wpList_append_own_at _ rfl _ _ 58 rfl w1.heap.size 61 j0 (.agg #[.int .i64 0, .slice none 0 0]) 2 32 undBts hj hy0 hy1 hy2 rfl (by decide) (.slice A3 m c3) m (cellsX X) rfl (HRW.out.alloc _) ⟨w2.heap.size, 0, none⟩ 1 1 [.int .i64 (k : Nat), .slice A5 n c5] rfl rfl (cells2_new w2 _ _ _) (one2 _ _ _ _) (by unfold maxLen; omega) (by omega) (by simp; omega) ?_; intro v' w3 hown hgr hnil hat; have HR3 := Lib.hid (And.intro hown (And.intro hgr hat)); obtain ⟨A6, c6, rfl⟩ := owns_form hown; clear hown hgr hnil hat)
          have HX := Lib.hid (show DrI w1 w3 c (k + 1) k (.slice A6 (m + 1) c6) (.slice A4 k c4) (X ++ [⟨k, kl.l, A5, c5⟩]) from by
            exact HD.out.pushV (V' := .slice A6 (m + 1) c6) (A' := A5) (c' := c5) HKL.out (fun e => HN0.out (by rw [← HNN.out, e]; rfl)) HI5.out.2.1 HI5.out.1 (by rw [HMM.out, HNN.out]; exact HR3.out.1) HR3.out.2.1 HR3.out.2.2)
          go_wp2_with fail
          refine (HC3.out _ HX.out.b).mono ?_
          rintro e _ ⟨rfl, rfl⟩
          go_wp2_with (at_builtin; refine wpList_append_own_at _ rfl _ _ 33 rfl w1.heap.size 3 i0 (.int .i64 0) 1 8 undInts hi hz0 hz1 hz2 rfl (by decide) (.slice A4 k c4) k (cZ (limsK c k)) rfl (HX.out.lim.alloc _) ⟨w3.heap.size, 0, none⟩ 1 1 [.int .i64 lim] rfl rfl (fun j u hu => by rw [Addr.add_lit, Nat.zero_add]; exact cell_block (heap_alloc_new w3 _) (by simpa using hu)) (by simp [Value.oneCell']) (by unfold maxLen; omega) (by omega) (by have := HX.out.b.size; simp; omega) ?_; intro v' w9 hown hgr hnil hat; have HR := Lib.hid (And.intro hown (And.intro hgr hat)); obtain ⟨A9, c9, rfl⟩ := owns_form hown; clear hown hgr hnil hat)
          go_roundw
          case rel =>
            have hr := HR.out
            rw [← HLM.out] at hr
            have := HX.out.pushS HKL.out hr.1 hr.2.1 hr.2.2
            exact ⟨k + 1, (X ++ [⟨k, kl.l, A5, c5⟩]), by omega, by go_num, this⟩
          case measure => simp [intOf]; omega
      · obtain rfl : k = tn := by omega
        have HDR := Lib.hid (cDrain_any HOW.out.ob)
        unfold RmsP at HDR
        have HBT := Lib.hid (HD.out.bat (A := A3) (cc := c3) (by rw [HMM.out]) HLN.out.symm)
        have HLV := Lib.hid (batV_le HOW.out.ob drainV_le)
        have HXL := Lib.hid HBT.out.2
        rw [HMM.out] at HXL
        rw [← HXL.out] at HDR
        clear hmk
        go_wp2_with fail
        refine HDR.out.mono ?_
        rintro e w2 ⟨A5, c5, rfl, O5, m1, m2, m3, m4⟩
        have H5 := Lib.hid (HOW.out.turn m1 m2 m3)
        have HG5 := Lib.hid m4
        have HK5 := Lib.hid m3
        have HS5 := Lib.hid (HD.out.lim)
        have HW5 := Lib.hid (HBT.out.1.keep m3 (fun g h1 h2 => by have h1 : w1.heap.size ≤ g := h1; have := HO.out.ob.lt g h2; omega))
        have hA4 : ∃ g4, A4 = some ⟨g4, 0, none⟩ := by
          rcases HD.out.lim.2 with ⟨_, h0⟩ | ⟨q, cap, cur, e, _⟩
          · omega
          · injection e with e _ _; exact ⟨q, e⟩
        obtain ⟨g4, rfl⟩ := hA4
        obtain ⟨hg4, hg5, hcells, _⟩ := owns_at HD.out.lim
        have HCE := Lib.hid (fun (i : Nat) (q : Kl) (hq : c.K[i]? = some q) (hi : i < k) => show w2.cell? ⟨g4, i, none⟩ = some (.int .i64 (q.lim : Nat)) from
          (World.cell?_of_block (a := ⟨g4, i, none⟩) (m3.block g4 hg5 (fun ho => by have := HO.out.ob.lt g4 ho; omega))).trans (hcells i _ (cZ_at (limsK_at hq hi))))
        have HG4 := Lib.hid (show g4 < w2.heap.size from Nat.lt_of_lt_of_le hg5 m3.size)
        clear m1 m2 m3 m4 hg4 hg5 hcells HD HDR HOW HBT
        go_wp2_with fail
        go_loopw [12] (fun i wx => ∃ k2 : Nat, k2 ≤ k ∧ i = .int .i64 k2 ∧ Below w2.heap.size w2 wx) (fun i _ => k - (intOf i).toNat)
        case atStart => exact ⟨0, by omega, rfl, Below.refl _ _⟩
        case round =>
          obtain ⟨k2, hk2, rfl, hB⟩ := hrel
          have HB9 := Lib.hid hB
          have H9 := Lib.hid (H5.out.below hB)
          have hsz9 := hB.size
          clear hB
          by_cases hlt2 : k2 < k
          · obtain ⟨kl, hkl⟩ : ∃ kl, c.K[k2]? = some kl := ⟨_, List.getElem?_eq_getElem (by rw [HLN.out]; exact hlt2)⟩
            have hin : InR (k2 : Int) := InR.nat (by omega)
            have hdk := drain_at hkl
            obtain ⟨z1, z2, z3⟩ := drainK_l kl
            have HQ1 := Lib.hid (fun (nn : CW wr.heap.size wr) => show Calls Try.prog 29 #[.pointer (some ⟨B, 0, none⟩), .int .i64 k2] nn.wd (fun e w' => e = .returned (.int .i64 (kl.lim : Nat)) ∧ Below nn.wd.heap.size nn.wd w') from roB (by
              have := cLimit_any (H9.out.below nn.bel).ob hin
              rw [show limT (mapK drainK (some c)) k2 = kl.lim from (limT_at hdk).trans z3] at this
              exact this))
            have HQ2 := Lib.hid (fun (nn : CW wr.heap.size wr) => show Calls Try.prog 28 #[.pointer (some ⟨B, 0, none⟩), .int .i64 k2] nn.wd (fun e w' => e = .returned (.int .i64 0) ∧ Below nn.wd.heap.size nn.wd w') from roB (by
              have := cLen_any (H9.out.below nn.bel).ob hin
              rw [show lenT (mapK drainK (some c)) k2 = 0 from (lenT_at hdk).trans (by rw [z1]; rfl)] at this
              exact this))
            have HQ3 := Lib.hid (fun (nn : CW wr.heap.size wr) => show Calls Try.prog 31 #[.pointer (some ⟨B, 0, none⟩), .int .i64 k2] nn.wd (fun e w' => e = .returned (.int .i64 0) ∧ Below nn.wd.heap.size nn.wd w') from roB (by
              have := cLow_any (H9.out.below nn.bel).ob hin
              rw [show lowT (mapK drainK (some c)) k2 = 0 from (lowT_at hdk).trans z2] at this
              exact this))
            have G1 := CW.cell (N := wr.heap.size) (a := ⟨g4, _, none⟩) (Nat.lt_of_lt_of_le HG4.out hsz9) ((HB9.out.cell (p := ⟨g4, _, none⟩) HG4.out).trans (HCE.out k2 kl hkl hlt2))
            clear hdk z1 z2 z3 hkl hin
            generalize kl.lim = lm at *
            go_wp2_with fail
            refine region_below wr.heap.size (by kernel_rfl) (by kernel_rfl) ?_
            repeat (first | go_big_quiet_step (first | (go_at_call 29; exact quietB (Nat.le_refl _) (HQ1.out _)) | (go_at_call 28; exact quietB (Nat.le_refl _) (HQ2.out _)) | (go_at_call 31; exact quietB (Nat.le_refl _) (HQ3.out _))) | quiet_step (first | (go_at_call 29; exact quietB (Nat.le_refl _) (HQ1.out _)) | (go_at_call 28; exact quietB (Nat.le_refl _) (HQ2.out _)) | (go_at_call 31; exact quietB (Nat.le_refl _) (HQ3.out _))))
            refine wpQuiet_nil ?_
            rintro _ ⟨nq, rfl⟩
            have HQ := Lib.hid (btr HB9.out nq.bel (Nat.le_refl _))
            generalize nq.wd = wq at *
            go_wp2_with fail
            go_roundw
            case rel => exact ⟨k2 + 1, by omega, by go_num, HQ.out⟩
            case measure => simp [intOf]; omega
          · have HSA := Lib.hid (show Calls Try.prog 36 #[.slice A5 m c5, .slice A3 m c3] wr (Yes wr) from by
              have := rSame_any A5 A3 c5 c3 (batV drainV (some c)) wr HLV.out.1 (fun x hx => (HLV.out.2 x hx).2) (HG5.out.below HB9.out) (HW5.out.below HB9.out)
              rw [← HXL.out] at this
              exact this)
            have HBY := Lib.hid (fun (w' : World) (h : Below wr.heap.size wr w') => show Calls Try.prog 33 #[.pointer (some ⟨B, 0, none⟩)] w' (fun e w'' => e = .returned (.int .i64 0) ∧ Below w'.heap.size w' w'') from by
              have := cBytes_any (H9.out.below h).ob
              rw [show byT (mapK drainK (some c)) = 0 from drain_by c] at this
              exact this)
            go_wp2_with fail
            refine HSA.out.mono ?_
            rintro e w6 ⟨rfl, hb6⟩
            have H6 := Lib.hid hb6
            clear hb6
            go_wp2_with fail
            refine (HBY.out _ H6.out).mono ?_
            rintro e w7 ⟨rfl, hb7⟩
            have H7 := Lib.hid (btr H9.out.bel (btr H6.out hb7 (Nat.le_refl _)) (Nat.le_refl _))
            clear hb7
            go_wp2_with fail
            refine (HAL.out _).mono ?_
            rintro e w9 ⟨rfl, hb⟩
            have HF := Lib.hid (btr H7.out hb (Nat.le_refl _))
            clear hb
            go_wp2_with fail
            go_ret
            exact ⟨rfl, HF.out⟩
end Go.Proofs.Yticcjelaenhigaa
