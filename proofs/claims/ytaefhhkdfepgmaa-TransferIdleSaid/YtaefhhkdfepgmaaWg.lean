/- The statement about stacks: whole batches, just once. -/
import Derived.Test.YtaefhhkdfepgmaaWf
namespace Go.Proofs.Ytaefhhkdfepgmaa
open Go.RowKit Go.Lib

/-- Small numbers in memory, in blocks below N. -/
def BysAt (w : World) (N : Nat) (A : Option Addr) (l : List Nat) : Prop := ∀ (i x : Nat), l[i]? = some x → x ≤ 255 ∧ ∃ b o : Nat, A = some ⟨b, o, none⟩ ∧ b < N ∧ w.cell? ⟨b, o + i, none⟩ = some (.int .u8 x)
theorem BysAt.below {w w' : World} {N : Nat} {A : Option Addr} {l : List Nat} (h : BysAt w N A l) (hb : Below N w w') : BysAt w' N A l := fun i x hi => by
  obtain ⟨h1, b, o, e, h2, h3⟩ := h i x hi
  exact ⟨h1, b, o, e, h2, (hb.cell (p := ⟨b, _, none⟩) h2).trans h3⟩
theorem cs_some {w : World} {p q : Addr} {x v : Value} (h : w.cell? q = some v) : ∃ v', (w.setCell p x).cell? q = some v' := by
  by_cases e : p = q
  · exact ⟨x, by rw [← e] at h ⊢; exact World.cell?_setCell_same w p x h⟩
  · exact ⟨v, (World.cell?_setCell_other w p q x e).trans h⟩
theorem run_append_zero {P : Program} (w : World) (t ty e : TypeId) (i : TypeInfo) (ht : P.underlying t = some (.slice e)) (hi : P.info? e = some i) (A6 A7 : Option Addr) (q cap c : Nat) (hq : q ≤ cap) : (Builtin.append_ #[t, t] ty #[.slice A6 q cap, .slice A7 0 c]).run P w = .ok (.slice A6 q cap) w := by
  have hf : (Builtin.firstCells i.size 0 (.slice A7 0 c)).run P w = .ok #[] w := by
    cases A7 with
    | none => exact run_firstCells_none w i.size 0 0 c
    | some a => exact run_firstCells_some w i.size 0 a 0 c [] (by simp) (fun j v h => by simp at h)
  cases A6 <;> simp [Builtin.append_, run_underlying ht, sizeOf, typeInfo, hi, Builtin.lenOf, hq, hf, storeCells]

/-- Values that are lists of numbers in memory. -/
def VP (w : World) (vs : List Value) (L : List (List Int)) : Prop := vs.length = L.length ∧ ∀ (j : Nat) (u : Value) (l : List Int), vs[j]? = some u → L[j]? = some l → ∃ A' c', u = .slice A' l.length c' ∧ IAt (fun _ => True) w A' l
theorem LAt.vp {P : Nat → Prop} {w : World} {A : Option Addr} {L : List (List Int)} (h : LAt P w A L) : ∃ vs : List Value, VP w vs L ∧ (∀ b, A = some b → ∀ j u, vs[j]? = some u → w.cell? (b.add j) = some u) ∧ (∀ u ∈ vs, u.oneCell' = true) ∧ (A = none → L = []) := by
  obtain ⟨vs, h1, h2, h3⟩ := h.vals
  refine ⟨vs, ⟨h1, fun j u l hj hl => ?_⟩, h2, vals_one h1 h3, fun hA => ?_⟩
  · obtain ⟨A', c', e, hi⟩ := h3 j u l hj hl
    exact ⟨A', c', e, hi.mono fun _ _ _ => trivial⟩
  · cases L with
    | nil => rfl
    | cons l t =>
      obtain ⟨g, o, _, _, e, _⟩ := h 0 l rfl
      rw [hA] at e
      cases e
theorem VP.app {w : World} {vs us : List Value} {L M : List (List Int)} (h : VP w vs L) (k : VP w us M) : VP w (vs ++ us) (L ++ M) := by
  refine ⟨by rw [List.length_append, List.length_append, h.1, k.1], fun j u l hj hl => ?_⟩
  rcases Nat.lt_or_ge j vs.length with hlt | hge
  · rw [List.getElem?_append_left hlt] at hj
    rw [List.getElem?_append_left (by rw [← h.1]; exact hlt)] at hl
    exact h.2 j u l hj hl
  · rw [List.getElem?_append_right hge] at hj
    rw [List.getElem?_append_right (by rw [← h.1]; exact hge), ← h.1] at hl
    exact k.2 _ u l hj hl
theorem VP.below {w w' : World} {vs : List Value} {L : List (List Int)} (h : VP w vs L) (hb : Below w.heap.size w w') : VP w' vs L := ⟨h.1, fun j u l hj hl => by
  obtain ⟨A', c', e, hi⟩ := h.2 j u l hj hl
  exact ⟨A', c', e, hi.below hb⟩⟩
theorem VP.lat {w : World} {vs : List Value} {L : List (List Int)} {A : Option Addr} {n c : Nat} (h : VP w vs L) (hr : OffR w 32 (.slice A n c) vs) : LAt (fun _ => True) w A L := lat_vals hr (fun _ _ h => h) h.1 h.2
theorem below_grown {w w' : World} (h : w.grownBy w' none) : Below w.heap.size w w' := ⟨h.os, h.tape, h.output, h.size, fun k hk => h.block k hk (fun e => nomatch e)⟩
theorem StM.lat {w wr : World} {v V : Value} {c : Tc} {O : Nat → Prop} {Y : List Bt} (h : StM w wr v c O V Y) {A : Option Addr} {n : Nat} {cp : Nat} (e : V = .slice A n cp) (q : Nat) (hq : q ≤ Y.length) (hqc : q ≤ cp) : LAt (fun _ => True) wr A ((Y.take q).map (·.l)) := by
  subst e
  have hc := h.row.cut q (by rw [bV_len]; exact hq) cp hqc (Nat.le_refl _)
  rw [bV_take] at hc
  exact lat_of (g := 0) (o := 0) hc (fun _ _ => trivial) (fun y hy => ⟨h.bt y (List.mem_of_mem_take hy), trivial⟩)

set_option maxRecDepth 100000 in
set_option maxHeartbeats 16000000 in
theorem stack_walk (a b : Nat) (ha : a ≤ 255) (hb : b ≤ 255) (A : Option Addr) (cp : Nat) (l : List Nat) (w : World) (hl : l.length ≤ 9223372036854775807) (hA : BysAt w w.heap.size A l) :
    Calls Try.prog 5 #[.int .u8 a, .int .u8 b, .slice A l.length cp] w (Yes w) := by
  obtain ⟨j0, hj, hy0, hy1, hy2⟩ := info_parts infoInts
  have HAL := Lib.hid alive_any
  have HA := Lib.hid hA
  obtain ⟨L, hL⟩ : ∃ L, l.length = L := ⟨_, rfl⟩
  have HL := Lib.hid hL
  rw [hL] at hl ⊢
  obtain ⟨N1, hN1⟩ : ∃ N1, a % 32 = N1 := ⟨_, rfl⟩
  obtain ⟨M, hM⟩ : ∃ M, b % 9 = M := ⟨_, rfl⟩
  have hN31 : N1 ≤ 31 := by omega
  have hM8 : M ≤ 8 := by omega
  obtain ⟨N, hN⟩ : ∃ N, N1 + 1 = N := ⟨_, rfl⟩
  have hok : okN (N : Int) (M : Int) = true := by unfold okN; rw [decide_eq_true_eq]; omega
  have HM1 := Lib.hid (show Calls Try.prog 17 #[.int .i64 N, .int .i64 M, .slice none 0 0] w (MadeP w (some ⟨N, M, 0, []⟩)) from by
    have := made_law N M none 0 [] w (by decide) (fun k x h => by simp at h) (Nat.le_refl _) (ActsAt.nil w w.heap.size none)
    rw [show madeO (N : Int) (M : Int) [] = some ⟨N, M, 0, []⟩ from by unfold madeO; rw [if_pos hok]; show newT _ _ = _; unfold newT; rw [if_pos hok]; simp] at this
    exact this)
  have E1 := Lib.hid (show IntKind.i64.wrap (a : Int) = a ∧ (a : Int).tmod 32 = (N1 : Int) ∧ (a : Int) % 32 = (N1 : Int) ∧ IntKind.i64.wrap (N1 : Int) = N1 ∧ (N1 : Int) + 1 = (N : Int) ∧ IntKind.i64.wrap (N : Int) = N ∧ wrap64 (N : Int) = N ∧ wrap64 (a : Int) = a ∧ wrap64 (N1 : Int) = N1 from
    ⟨(w64 _ (by omega)).2, by rw [Int.tmod_eq_emod_of_nonneg (by omega)]; omega, by omega, (w64 _ (by omega)).2, by omega, (w64 _ (by omega)).2, (w64 _ (by omega)).1, (w64 _ (by omega)).1, (w64 _ (by omega)).1⟩)
  have E2 := Lib.hid (show IntKind.i64.wrap (b : Int) = b ∧ (b : Int).tmod 9 = (M : Int) ∧ (b : Int) % 9 = (M : Int) ∧ IntKind.i64.wrap (M : Int) = M ∧ wrap64 (b : Int) = b ∧ wrap64 (M : Int) = M from
    ⟨(w64 _ (by omega)).2, by rw [Int.tmod_eq_emod_of_nonneg (by omega)]; omega, by omega, (w64 _ (by omega)).2, (w64 _ (by omega)).1, (w64 _ (by omega)).1⟩)
  clear hA hL hN1 hM ha hb hok
  obtain ⟨f1, f2, f3, f4, f5, f6, f7, f8, f9⟩ := E1.out
  obtain ⟨g1, g2, g3, g4, g5, g6⟩ := E2.out
  clear E1 E2
  go_enter Try.func5, Try.ntmps5
  go_wp2_with fail
  clear f1 f2 f3 f4 f5 f6 f7 f8 f9 g1 g2 g3 g4 g5 g6
  refine HM1.out.mono ?_
  intro e w3 hm
  obtain ⟨B, O1, rfl, ho1⟩ := hm.yes
  have HO1 := Lib.hid ho1
  clear hm ho1 HM1
  by_cases h60 : 60 < L
  · go_wp2_with fail
    refine (HAL.out _).mono ?_
    rintro e w5 ⟨rfl, hb⟩
    have HF := Lib.hid (btr HO1.out.bel hb (Nat.le_refl _))
    clear hb
    go_wp2_with fail
    go_ret
    exact ⟨rfl, HF.out⟩
  have hL60 : L ≤ 60 := by omega
  clear h60 hl
  go_wp2_with fail
  go_loopw [10, 11] (fun va i wr => ∃ (k : Nat) (c : Tc) (O : Nat → Prop) (Y : List Bt), k ≤ L ∧ i = .int .i64 k ∧ StM w wr (.pointer (some ⟨B, 0, none⟩)) c O va Y ∧ Hid (Y.map (·.l) = c.L ∧ c.b = N ∧ c.r = M)) (fun _ i _ => L - (intOf i).toNat)
  case atStart => exact ⟨0, _, _, [], by omega, rfl, ⟨HO1.out, OffR.nil _ _, (fun g hg => nomatch hg), (fun y hy => by cases hy), (fun y hy => by cases hy)⟩, Lib.hid ⟨rfl, rfl, rfl⟩⟩
  case round =>
    clear HO1
    obtain ⟨k, c, O, Y, hk, rfl, hS, HC⟩ := hrel
    have HS := Lib.hid hS
    by_cases hlt : k < L
    · obtain ⟨x, hx⟩ : ∃ x, l[k]? = some x := ⟨_, List.getElem?_eq_getElem (by have := HL.out; omega)⟩
      have HX := Lib.hid (fun W (hb : Below w.heap.size w W) => (HA.out.below hb) k x hx)
      obtain ⟨hx255, bb, o, rfl, hB, gx⟩ := HX.out _ hS.own.bel
      have hw := hS.own.ob.wf
      have HWF := Lib.hid hw
      have hYL : Y.length = c.L.length := by rw [← HC.out.1, List.length_map]
      have hY8 : Y.length ≤ 8 ∧ Y.length ≤ M := by have h1 := hw.len; have h2 := HC.out.2.2; omega
      obtain ⟨A5, c5, hV, hc5, hc6⟩ := hS.row.form
      rw [bV_len] at hV hc5
      subst hV
      obtain ⟨YL, hYLe⟩ : ∃ YL, Y.length = YL := ⟨_, rfl⟩
      have HYL := Lib.hid (And.intro hYLe (show c.L.length = YL from by rw [← hYL, hYLe]))
      rw [hYLe] at HS hc5 hY8 ⊢
      have hR : x % 6 = 0 ∨ x % 6 = 1 ∨ x % 6 = 2 ∨ x % 6 = 3 ∨ x % 6 = 4 ∨ x % 6 = 5 := by omega
      have HR := Lib.hid (show ∀ R : Nat, x % 6 = R → (x : Int).tmod 6 = (R : Int) ∧ (x : Int) % 6 = (R : Int) from fun R h => ⟨by rw [Int.tmod_eq_emod_of_nonneg (by omega)]; omega, by omega⟩)
      clear hS hw hYL hYLe hx hx255
      rcases hR with h | h | h | h | h | h
      · obtain ⟨t1, t2⟩ := HR.out 0 h
        clear h
        have HBA := Lib.hid (fun W => batch_any N (100 * (k : Int)) W (by omega) (by omega) (by omega))
        have hbl := btL_len (100 * (k : Int)) N
        generalize btL (100 * (k : Int)) N = z at *
        have HZ := Lib.hid hbl
        by_cases hf : YL < M
        · have hiv : insV (some c) z = true := decide_eq_true ⟨by rw [HC.out.2.1]; exact HZ.out, by rw [HC.out.2.2, HYL.out.2]; exact hf⟩
          have hie : insE (some c) z = 0 := if_pos (by rw [HC.out.2.1]; exact HZ.out)
          have hid' : insD (some c) z = some { c with L := c.L ++ [z] } := if_pos ⟨by rw [HC.out.2.1]; exact HZ.out, by rw [HC.out.2.2, HYL.out.2]; exact hf⟩
          clear hbl
          obtain ⟨e1, e2⟩ := w64 (100 * (k : Int)) (by omega)
          go_wp2_with fail
          clear t1 t2
          refine (HBA.out wr).mono ?_
          rintro e wa ⟨ga, ca, rfl, hga, hba, hfa, hbb⟩
          have HSa := Lib.hid (HS.out.below hbb)
          have Ha := Lib.hid (And.intro hga hba)
          clear hga hba hfa hbb
          go_wp2_with fail
          clear e1 e2
          refine (HBA.out wa).mono ?_
          rintro e wb ⟨gb, cb, rfl, hgb, hbb2, hfr, hbb⟩
          have HSb := Lib.hid (HSa.out.below hbb)
          have Hb := Lib.hid (And.intro hgb (And.intro hbb2 (And.intro hfr (Ha.out.2.block (hbb.block _ Ha.out.2.lt)))))
          have HG := Lib.hid (And.intro (show ga < wa.heap.size from Ha.out.2.lt) (And.intro (show gb < wb.heap.size from hbb2.lt) hbb.size))
          clear hgb hbb2 hfr hbb
          have hI := cInsert_any HSb.out.own.ob (some ⟨gb, 0, none⟩) cb z (by rw [HZ.out]; omega) (Hb.out.2.1.iat (P := fun _ => True) trivial)
          unfold InsP at hI
          rw [HZ.out, hiv, hie, hid'] at hI
          have HI := Lib.hid hI
          clear hiv hie hid' hI
          go_wp2_with fail
          refine HI.out.mono ?_
          rintro e wc ⟨rfl, hM', hM''⟩
          clear hM''
          have nO : ∀ g, wr.heap.size ≤ g → ¬ O g := fun g hg ho => by have := HS.out.own.ob.lt g ho; omega
          have HSc := Lib.hid (HSb.out.call hM' (fun _ h => h))
          have HGW := Lib.hid (show wr.heap.size ≤ ga ∧ wr.heap.size ≤ gb ∧ ga ≠ gb from by
            have h1 := Ha.out.1
            have h2 := HG.out.1
            have h3 := Hb.out.1
            exact ⟨h1, by omega, by omega⟩)
          have hgbO : ¬ O gb := nO gb HGW.out.2.1
          have hgaO : ¬ O ga := nO ga HGW.out.1
          have hkb : wc.heap[gb]? = wb.heap[gb]? := hM'.2.block gb HG.out.2.1 hgbO
          have hka : wc.heap[ga]? = wb.heap[ga]? := hM'.2.block ga (Nat.lt_of_lt_of_le HG.out.1 HG.out.2.2) hgaO
          have Hc := Lib.hid (And.intro (Hb.out.2.2.2.block hka) (And.intro (show ¬ Ext O wb wc gb from fun hx => by
            rcases hx with hx | hx
            · exact hgbO hx
            · have := HG.out.2.1; omega) (show ¬ Ext O wb wc ga from fun hx => by
            rcases hx with hx | hx
            · exact hgaO hx
            · have := HG.out.1; have := HG.out.2.2; omega)))
          obtain ⟨z0, hz0⟩ : ∃ z0, z[0]? = some z0 := ⟨_, List.getElem?_eq_getElem (by rw [HZ.out]; omega)⟩
          obtain ⟨zn, hzn⟩ : ∃ zn, z[N1]? = some zn := ⟨_, List.getElem?_eq_getElem (by rw [HZ.out]; omega)⟩
          have y0 : wc.cell? ⟨gb, 0, none⟩ = some (.int .i64 z0) := (World.cell?_of_block (a := ⟨gb, 0, none⟩) hkb).trans (Hb.out.2.1.cell 0 z0 hz0).1
          have yn : wc.cell? ⟨gb, N1, none⟩ = some (.int .i64 zn) := (World.cell?_of_block (a := ⟨gb, N1, none⟩) hkb).trans (Hb.out.2.1.cell N1 zn hzn).1
          have x0 : wc.frozen? ⟨gb, 0, none⟩ = false := (World.frozen?_of_block (a := ⟨gb, 0, none⟩) hkb).trans (Hb.out.2.2.1 0)
          have xn : wc.frozen? ⟨gb, N1, none⟩ = false := (World.frozen?_of_block (a := ⟨gb, N1, none⟩) hkb).trans (Hb.out.2.2.1 N1)
          obtain ⟨wd, hwd⟩ : ∃ wd, wc.setCell ⟨gb, N1, none⟩ (.int .i64 (-1)) = wd := ⟨_, rfl⟩
          obtain ⟨y0', hy0'⟩ : ∃ v', wd.cell? ⟨gb, 0, none⟩ = some v' := by rw [← hwd]; exact cs_some y0
          have x0' : wd.frozen? ⟨gb, 0, none⟩ = false := by rw [← hwd, World.frozen?_setCell]; exact x0
          have HKd := Lib.hid (show Keep (fun q => q = gb) wc (wd.setCell ⟨gb, 0, none⟩ (.int .i64 (-1))) from by
            rw [← hwd]
            exact keep_set (F := fun q => q = gb) (keep_set (F := fun q => q = gb) (Keep.refl _ _) rfl _) rfl _)
          have HSd := Lib.hid (HSc.out.keep HKd.out (fun q h1 h2 => by subst h2; exact Hc.out.2.1 h1) (fun q h1 => by subst h1; exact Nat.le_trans HS.out.own.bel.size HGW.out.2.1) (fun g hg h1 => by subst h1; have := HS.out.row.lt _ hg; have := HGW.out.2.1; omega) (fun y hy h1 => by have := (HS.out.bt y hy).lt; have := HGW.out.2.1; omega))
          have HXd := Lib.hid (Hc.out.1.block (HKd.out.block _ Hc.out.1.lt (fun h => HGW.out.2.2 h)))
          have m3 : (N : Int) - 1 = (N1 : Int) := by omega
          have m4 : N1 < N := by omega
          have m5 : 0 < N := by omega
          have d1 : decide ((YL : Int) < (M : Int)) = true := decide_eq_true (by omega)
          obtain ⟨m1, m2⟩ := w64 (N1 : Int) (by omega)
          clear hM' hkb hka hz0 hzn hgbO hgaO nO y0
          have HCN0 := Lib.hid (show ((wd.setCell ⟨gb, 0, none⟩ (.int .i64 (-1))).alloc (.cells #[.slice (some ⟨ga, 0, none⟩) N ca] 32)).cell? ⟨wd.heap.size, 0, none⟩ = some (.slice (some ⟨ga, 0, none⟩) N ca) from by
            have := cells1_new (wd.setCell ⟨gb, 0, none⟩ (.int .i64 (-1))) (.slice (some ⟨ga, 0, none⟩) N ca) 32
            rwa [World.size_setCell] at this)
          go_wp2_with (at_builtin; refine wpList_append_off _ rfl _ _ 40 rfl 32 j0 (.slice none 0 0) 24 undLL hj hy0 hy1 hy2 rfl (.slice A5 YL c5) (bV Y) rfl (HSd.out.row.below (bnew _ (.cells #[.slice (some ⟨ga, 0, none⟩) N ca] 32))) ⟨wd.heap.size, 0, none⟩ 1 (.slice (some ⟨ga, 0, none⟩) N ca) rfl HCN0.out (add0 _) rfl (by rw [bV_len, HYL.out.1]; unfold maxLen; omega) (by rw [bV_len, HYL.out.1]; omega) ?_; intro g5 q5 cp5 w5 hown' hgrow hat; rw [bV_len, HYL.out.1] at hown' hat ⊢; have HA5 := Lib.hid (And.intro hown' (And.intro hgrow hat)); clear hown' hgrow hat)
          have HF := Lib.hid (HSd.out.push (x := ⟨ga, z, ca⟩) HXd.out ⟨Hc.out.2.2, fun e => by have := HS.out.row.lt ga e; have := HGW.out.1; omega⟩ (by rw [show (⟨ga, z, ca⟩ : Bt).v = .slice (some ⟨ga, 0, none⟩) N ca from by rw [← HZ.out]; rfl]; exact HA5.out.1) HA5.out.2.1 HA5.out.2.2)
          have HCN := Lib.hid (show (Y ++ [(⟨ga, z, ca⟩ : Bt)]).map (·.l) = c.L ++ [z] ∧ c.b = N ∧ c.r = M from ⟨by rw [List.map_append, HC.out.1]; rfl, HC.out.2⟩)
          have HLn := cLen_any HF.out.own.ob
          rw [show lenT (some { c with L := c.L ++ [z] }) = YL + 1 from by show (c.L ++ [z]).length = _; rw [List.length_append, HYL.out.2]; rfl] at HLn
          have HLn := Lib.hid HLn
          clear m1 m2 d1
          refine HLn.out.mono ?_
          rintro e _ ⟨rfl, rfl⟩
          go_wp2_with fail
          refine HLn.out.mono ?_
          rintro e _ ⟨rfl, rfl⟩
          go_wp2_with fail
          go_roundw
          case rel => exact ⟨k + 1, _, _, _, by omega, by go_num, HF.out, HCN⟩
          case measure => simp [intOf]; omega
        · have hiv : insV (some c) z = false := decide_eq_false (fun h => hf (by have h2 := h.2; rw [HC.out.2.2, HYL.out.2] at h2; exact h2))
          have hie : insE (some c) z = 0 := if_pos (by rw [HC.out.2.1]; exact HZ.out)
          have hid' : insD (some c) z = some c := if_neg (fun h => hf (by have h2 := h.2; rw [HC.out.2.2, HYL.out.2] at h2; exact h2))
          clear hbl
          obtain ⟨e1, e2⟩ := w64 (100 * (k : Int)) (by omega)
          go_wp2_with fail
          clear t1 t2
          refine (HBA.out wr).mono ?_
          rintro e wa ⟨ga, ca, rfl, hga, hba, hfa, hbb⟩
          have HSa := Lib.hid (HS.out.below hbb)
          have Ha := Lib.hid (And.intro hga hba)
          clear hga hba hfa hbb
          go_wp2_with fail
          clear e1 e2
          refine (HBA.out wa).mono ?_
          rintro e wb ⟨gb, cb, rfl, hgb, hbb2, hfr, hbb⟩
          have HSb := Lib.hid (HSa.out.below hbb)
          have Hb := Lib.hid (And.intro hgb (And.intro hbb2 (And.intro hfr (Ha.out.2.block (hbb.block _ Ha.out.2.lt)))))
          have HG := Lib.hid (And.intro (show ga < wa.heap.size from Ha.out.2.lt) (And.intro (show gb < wb.heap.size from hbb2.lt) hbb.size))
          clear hgb hbb2 hfr hbb
          have hI := cInsert_any HSb.out.own.ob (some ⟨gb, 0, none⟩) cb z (by rw [HZ.out]; omega) (Hb.out.2.1.iat (P := fun _ => True) trivial)
          unfold InsP at hI
          rw [HZ.out, hiv, hie, hid'] at hI
          have HI := Lib.hid hI
          clear hiv hie hid' hI
          go_wp2_with fail
          refine HI.out.mono ?_
          rintro e wc ⟨rfl, hM', hM''⟩
          clear hM''
          have nO : ∀ g, wr.heap.size ≤ g → ¬ O g := fun g hg ho => by have := HS.out.own.ob.lt g ho; omega
          have HSc := Lib.hid (HSb.out.call hM' (fun _ h => h))
          have HGW := Lib.hid (show wr.heap.size ≤ ga ∧ wr.heap.size ≤ gb ∧ ga ≠ gb from by
            have h1 := Ha.out.1
            have h2 := HG.out.1
            have h3 := Hb.out.1
            exact ⟨h1, by omega, by omega⟩)
          have hgbO : ¬ O gb := nO gb HGW.out.2.1
          have hgaO : ¬ O ga := nO ga HGW.out.1
          have hkb : wc.heap[gb]? = wb.heap[gb]? := hM'.2.block gb HG.out.2.1 hgbO
          have hka : wc.heap[ga]? = wb.heap[ga]? := hM'.2.block ga (Nat.lt_of_lt_of_le HG.out.1 HG.out.2.2) hgaO
          have Hc := Lib.hid (And.intro (Hb.out.2.2.2.block hka) (And.intro (show ¬ Ext O wb wc gb from fun hx => by
            rcases hx with hx | hx
            · exact hgbO hx
            · have := HG.out.2.1; omega) (show ¬ Ext O wb wc ga from fun hx => by
            rcases hx with hx | hx
            · exact hgaO hx
            · have := HG.out.1; have := HG.out.2.2; omega)))
          obtain ⟨z0, hz0⟩ : ∃ z0, z[0]? = some z0 := ⟨_, List.getElem?_eq_getElem (by rw [HZ.out]; omega)⟩
          obtain ⟨zn, hzn⟩ : ∃ zn, z[N1]? = some zn := ⟨_, List.getElem?_eq_getElem (by rw [HZ.out]; omega)⟩
          have y0 : wc.cell? ⟨gb, 0, none⟩ = some (.int .i64 z0) := (World.cell?_of_block (a := ⟨gb, 0, none⟩) hkb).trans (Hb.out.2.1.cell 0 z0 hz0).1
          have yn : wc.cell? ⟨gb, N1, none⟩ = some (.int .i64 zn) := (World.cell?_of_block (a := ⟨gb, N1, none⟩) hkb).trans (Hb.out.2.1.cell N1 zn hzn).1
          have x0 : wc.frozen? ⟨gb, 0, none⟩ = false := (World.frozen?_of_block (a := ⟨gb, 0, none⟩) hkb).trans (Hb.out.2.2.1 0)
          have xn : wc.frozen? ⟨gb, N1, none⟩ = false := (World.frozen?_of_block (a := ⟨gb, N1, none⟩) hkb).trans (Hb.out.2.2.1 N1)
          obtain ⟨wd, hwd⟩ : ∃ wd, wc.setCell ⟨gb, N1, none⟩ (.int .i64 (-1)) = wd := ⟨_, rfl⟩
          obtain ⟨y0', hy0'⟩ : ∃ v', wd.cell? ⟨gb, 0, none⟩ = some v' := by rw [← hwd]; exact cs_some y0
          have x0' : wd.frozen? ⟨gb, 0, none⟩ = false := by rw [← hwd, World.frozen?_setCell]; exact x0
          have HKd := Lib.hid (show Keep (fun q => q = gb) wc (wd.setCell ⟨gb, 0, none⟩ (.int .i64 (-1))) from by
            rw [← hwd]
            exact keep_set (F := fun q => q = gb) (keep_set (F := fun q => q = gb) (Keep.refl _ _) rfl _) rfl _)
          have HSd := Lib.hid (HSc.out.keep HKd.out (fun q h1 h2 => by subst h2; exact Hc.out.2.1 h1) (fun q h1 => by subst h1; exact Nat.le_trans HS.out.own.bel.size HGW.out.2.1) (fun g hg h1 => by subst h1; have := HS.out.row.lt _ hg; have := HGW.out.2.1; omega) (fun y hy h1 => by have := (HS.out.bt y hy).lt; have := HGW.out.2.1; omega))
          have HXd := Lib.hid (Hc.out.1.block (HKd.out.block _ Hc.out.1.lt (fun h => HGW.out.2.2 h)))
          have m3 : (N : Int) - 1 = (N1 : Int) := by omega
          have m4 : N1 < N := by omega
          have m5 : 0 < N := by omega
          have d1 : decide ((YL : Int) < (M : Int)) = false := decide_eq_false (by omega)
          obtain ⟨m1, m2⟩ := w64 (N1 : Int) (by omega)
          clear hM' hkb hka hz0 hzn hgbO hgaO nO y0
          go_wp2_with fail
          have HLn := cLen_any HSd.out.own.ob
          rw [show lenT (some c) = YL from HYL.out.2] at HLn
          have HLn := Lib.hid HLn
          clear m1 m2 d1
          refine HLn.out.mono ?_
          rintro e _ ⟨rfl, rfl⟩
          go_wp2_with fail
          refine HLn.out.mono ?_
          rintro e _ ⟨rfl, rfl⟩
          go_wp2_with fail
          go_roundw
          case rel => exact ⟨k + 1, _, _, _, by omega, by go_num, HSd.out, HC⟩
          case measure => simp [intOf]; omega
      · obtain ⟨t1, t2⟩ := HR.out 1 h
        clear h
        have HBA := Lib.hid (fun W => batch_any N (100 * (k : Int)) W (by omega) (by omega) (by omega))
        have hbl := btL_len (100 * (k : Int)) N
        generalize btL (100 * (k : Int)) N = z at *
        have HZ := Lib.hid hbl
        by_cases hf : YL < M
        · have hiv : insV (some c) z = true := decide_eq_true ⟨by rw [HC.out.2.1]; exact HZ.out, by rw [HC.out.2.2, HYL.out.2]; exact hf⟩
          have hie : insE (some c) z = 0 := if_pos (by rw [HC.out.2.1]; exact HZ.out)
          have hid' : insD (some c) z = some { c with L := c.L ++ [z] } := if_pos ⟨by rw [HC.out.2.1]; exact HZ.out, by rw [HC.out.2.2, HYL.out.2]; exact hf⟩
          clear hbl
          obtain ⟨e1, e2⟩ := w64 (100 * (k : Int)) (by omega)
          go_wp2_with fail
          clear t1 t2
          refine (HBA.out wr).mono ?_
          rintro e wa ⟨ga, ca, rfl, hga, hba, hfa, hbb⟩
          have HSa := Lib.hid (HS.out.below hbb)
          have Ha := Lib.hid (And.intro hga hba)
          clear hga hba hfa hbb
          go_wp2_with fail
          clear e1 e2
          refine (HBA.out wa).mono ?_
          rintro e wb ⟨gb, cb, rfl, hgb, hbb2, hfr, hbb⟩
          have HSb := Lib.hid (HSa.out.below hbb)
          have Hb := Lib.hid (And.intro hgb (And.intro hbb2 (And.intro hfr (Ha.out.2.block (hbb.block _ Ha.out.2.lt)))))
          have HG := Lib.hid (And.intro (show ga < wa.heap.size from Ha.out.2.lt) (And.intro (show gb < wb.heap.size from hbb2.lt) hbb.size))
          clear hgb hbb2 hfr hbb
          have hI := cInsert_any HSb.out.own.ob (some ⟨gb, 0, none⟩) cb z (by rw [HZ.out]; omega) (Hb.out.2.1.iat (P := fun _ => True) trivial)
          unfold InsP at hI
          rw [HZ.out, hiv, hie, hid'] at hI
          have HI := Lib.hid hI
          clear hiv hie hid' hI
          go_wp2_with fail
          refine HI.out.mono ?_
          rintro e wc ⟨rfl, hM', hM''⟩
          clear hM''
          have nO : ∀ g, wr.heap.size ≤ g → ¬ O g := fun g hg ho => by have := HS.out.own.ob.lt g ho; omega
          have HSc := Lib.hid (HSb.out.call hM' (fun _ h => h))
          have HGW := Lib.hid (show wr.heap.size ≤ ga ∧ wr.heap.size ≤ gb ∧ ga ≠ gb from by
            have h1 := Ha.out.1
            have h2 := HG.out.1
            have h3 := Hb.out.1
            exact ⟨h1, by omega, by omega⟩)
          have hgbO : ¬ O gb := nO gb HGW.out.2.1
          have hgaO : ¬ O ga := nO ga HGW.out.1
          have hkb : wc.heap[gb]? = wb.heap[gb]? := hM'.2.block gb HG.out.2.1 hgbO
          have hka : wc.heap[ga]? = wb.heap[ga]? := hM'.2.block ga (Nat.lt_of_lt_of_le HG.out.1 HG.out.2.2) hgaO
          have Hc := Lib.hid (And.intro (Hb.out.2.2.2.block hka) (And.intro (show ¬ Ext O wb wc gb from fun hx => by
            rcases hx with hx | hx
            · exact hgbO hx
            · have := HG.out.2.1; omega) (show ¬ Ext O wb wc ga from fun hx => by
            rcases hx with hx | hx
            · exact hgaO hx
            · have := HG.out.1; have := HG.out.2.2; omega)))
          obtain ⟨z0, hz0⟩ : ∃ z0, z[0]? = some z0 := ⟨_, List.getElem?_eq_getElem (by rw [HZ.out]; omega)⟩
          obtain ⟨zn, hzn⟩ : ∃ zn, z[N1]? = some zn := ⟨_, List.getElem?_eq_getElem (by rw [HZ.out]; omega)⟩
          have y0 : wc.cell? ⟨gb, 0, none⟩ = some (.int .i64 z0) := (World.cell?_of_block (a := ⟨gb, 0, none⟩) hkb).trans (Hb.out.2.1.cell 0 z0 hz0).1
          have yn : wc.cell? ⟨gb, N1, none⟩ = some (.int .i64 zn) := (World.cell?_of_block (a := ⟨gb, N1, none⟩) hkb).trans (Hb.out.2.1.cell N1 zn hzn).1
          have x0 : wc.frozen? ⟨gb, 0, none⟩ = false := (World.frozen?_of_block (a := ⟨gb, 0, none⟩) hkb).trans (Hb.out.2.2.1 0)
          have xn : wc.frozen? ⟨gb, N1, none⟩ = false := (World.frozen?_of_block (a := ⟨gb, N1, none⟩) hkb).trans (Hb.out.2.2.1 N1)
          obtain ⟨wd, hwd⟩ : ∃ wd, wc.setCell ⟨gb, N1, none⟩ (.int .i64 (-1)) = wd := ⟨_, rfl⟩
          obtain ⟨y0', hy0'⟩ : ∃ v', wd.cell? ⟨gb, 0, none⟩ = some v' := by rw [← hwd]; exact cs_some y0
          have x0' : wd.frozen? ⟨gb, 0, none⟩ = false := by rw [← hwd, World.frozen?_setCell]; exact x0
          have HKd := Lib.hid (show Keep (fun q => q = gb) wc (wd.setCell ⟨gb, 0, none⟩ (.int .i64 (-1))) from by
            rw [← hwd]
            exact keep_set (F := fun q => q = gb) (keep_set (F := fun q => q = gb) (Keep.refl _ _) rfl _) rfl _)
          have HSd := Lib.hid (HSc.out.keep HKd.out (fun q h1 h2 => by subst h2; exact Hc.out.2.1 h1) (fun q h1 => by subst h1; exact Nat.le_trans HS.out.own.bel.size HGW.out.2.1) (fun g hg h1 => by subst h1; have := HS.out.row.lt _ hg; have := HGW.out.2.1; omega) (fun y hy h1 => by have := (HS.out.bt y hy).lt; have := HGW.out.2.1; omega))
          have HXd := Lib.hid (Hc.out.1.block (HKd.out.block _ Hc.out.1.lt (fun h => HGW.out.2.2 h)))
          have m3 : (N : Int) - 1 = (N1 : Int) := by omega
          have m4 : N1 < N := by omega
          have m5 : 0 < N := by omega
          have d1 : decide ((YL : Int) < (M : Int)) = true := decide_eq_true (by omega)
          obtain ⟨m1, m2⟩ := w64 (N1 : Int) (by omega)
          clear hM' hkb hka hz0 hzn hgbO hgaO nO y0
          have HCN0 := Lib.hid (show ((wd.setCell ⟨gb, 0, none⟩ (.int .i64 (-1))).alloc (.cells #[.slice (some ⟨ga, 0, none⟩) N ca] 32)).cell? ⟨wd.heap.size, 0, none⟩ = some (.slice (some ⟨ga, 0, none⟩) N ca) from by
            have := cells1_new (wd.setCell ⟨gb, 0, none⟩ (.int .i64 (-1))) (.slice (some ⟨ga, 0, none⟩) N ca) 32
            rwa [World.size_setCell] at this)
          go_wp2_with (at_builtin; refine wpList_append_off _ rfl _ _ 40 rfl 32 j0 (.slice none 0 0) 24 undLL hj hy0 hy1 hy2 rfl (.slice A5 YL c5) (bV Y) rfl (HSd.out.row.below (bnew _ (.cells #[.slice (some ⟨ga, 0, none⟩) N ca] 32))) ⟨wd.heap.size, 0, none⟩ 1 (.slice (some ⟨ga, 0, none⟩) N ca) rfl HCN0.out (add0 _) rfl (by rw [bV_len, HYL.out.1]; unfold maxLen; omega) (by rw [bV_len, HYL.out.1]; omega) ?_; intro g5 q5 cp5 w5 hown' hgrow hat; rw [bV_len, HYL.out.1] at hown' hat ⊢; have HA5 := Lib.hid (And.intro hown' (And.intro hgrow hat)); clear hown' hgrow hat)
          have HF := Lib.hid (HSd.out.push (x := ⟨ga, z, ca⟩) HXd.out ⟨Hc.out.2.2, fun e => by have := HS.out.row.lt ga e; have := HGW.out.1; omega⟩ (by rw [show (⟨ga, z, ca⟩ : Bt).v = .slice (some ⟨ga, 0, none⟩) N ca from by rw [← HZ.out]; rfl]; exact HA5.out.1) HA5.out.2.1 HA5.out.2.2)
          have HCN := Lib.hid (show (Y ++ [(⟨ga, z, ca⟩ : Bt)]).map (·.l) = c.L ++ [z] ∧ c.b = N ∧ c.r = M from ⟨by rw [List.map_append, HC.out.1]; rfl, HC.out.2⟩)
          have HLn := cLen_any HF.out.own.ob
          rw [show lenT (some { c with L := c.L ++ [z] }) = YL + 1 from by show (c.L ++ [z]).length = _; rw [List.length_append, HYL.out.2]; rfl] at HLn
          have HLn := Lib.hid HLn
          clear m1 m2 d1
          refine HLn.out.mono ?_
          rintro e _ ⟨rfl, rfl⟩
          go_wp2_with fail
          refine HLn.out.mono ?_
          rintro e _ ⟨rfl, rfl⟩
          go_wp2_with fail
          go_roundw
          case rel => exact ⟨k + 1, _, _, _, by omega, by go_num, HF.out, HCN⟩
          case measure => simp [intOf]; omega
        · have hiv : insV (some c) z = false := decide_eq_false (fun h => hf (by have h2 := h.2; rw [HC.out.2.2, HYL.out.2] at h2; exact h2))
          have hie : insE (some c) z = 0 := if_pos (by rw [HC.out.2.1]; exact HZ.out)
          have hid' : insD (some c) z = some c := if_neg (fun h => hf (by have h2 := h.2; rw [HC.out.2.2, HYL.out.2] at h2; exact h2))
          clear hbl
          obtain ⟨e1, e2⟩ := w64 (100 * (k : Int)) (by omega)
          go_wp2_with fail
          clear t1 t2
          refine (HBA.out wr).mono ?_
          rintro e wa ⟨ga, ca, rfl, hga, hba, hfa, hbb⟩
          have HSa := Lib.hid (HS.out.below hbb)
          have Ha := Lib.hid (And.intro hga hba)
          clear hga hba hfa hbb
          go_wp2_with fail
          clear e1 e2
          refine (HBA.out wa).mono ?_
          rintro e wb ⟨gb, cb, rfl, hgb, hbb2, hfr, hbb⟩
          have HSb := Lib.hid (HSa.out.below hbb)
          have Hb := Lib.hid (And.intro hgb (And.intro hbb2 (And.intro hfr (Ha.out.2.block (hbb.block _ Ha.out.2.lt)))))
          have HG := Lib.hid (And.intro (show ga < wa.heap.size from Ha.out.2.lt) (And.intro (show gb < wb.heap.size from hbb2.lt) hbb.size))
          clear hgb hbb2 hfr hbb
          have hI := cInsert_any HSb.out.own.ob (some ⟨gb, 0, none⟩) cb z (by rw [HZ.out]; omega) (Hb.out.2.1.iat (P := fun _ => True) trivial)
          unfold InsP at hI
          rw [HZ.out, hiv, hie, hid'] at hI
          have HI := Lib.hid hI
          clear hiv hie hid' hI
          go_wp2_with fail
          refine HI.out.mono ?_
          rintro e wc ⟨rfl, hM', hM''⟩
          clear hM''
          have nO : ∀ g, wr.heap.size ≤ g → ¬ O g := fun g hg ho => by have := HS.out.own.ob.lt g ho; omega
          have HSc := Lib.hid (HSb.out.call hM' (fun _ h => h))
          have HGW := Lib.hid (show wr.heap.size ≤ ga ∧ wr.heap.size ≤ gb ∧ ga ≠ gb from by
            have h1 := Ha.out.1
            have h2 := HG.out.1
            have h3 := Hb.out.1
            exact ⟨h1, by omega, by omega⟩)
          have hgbO : ¬ O gb := nO gb HGW.out.2.1
          have hgaO : ¬ O ga := nO ga HGW.out.1
          have hkb : wc.heap[gb]? = wb.heap[gb]? := hM'.2.block gb HG.out.2.1 hgbO
          have hka : wc.heap[ga]? = wb.heap[ga]? := hM'.2.block ga (Nat.lt_of_lt_of_le HG.out.1 HG.out.2.2) hgaO
          have Hc := Lib.hid (And.intro (Hb.out.2.2.2.block hka) (And.intro (show ¬ Ext O wb wc gb from fun hx => by
            rcases hx with hx | hx
            · exact hgbO hx
            · have := HG.out.2.1; omega) (show ¬ Ext O wb wc ga from fun hx => by
            rcases hx with hx | hx
            · exact hgaO hx
            · have := HG.out.1; have := HG.out.2.2; omega)))
          obtain ⟨z0, hz0⟩ : ∃ z0, z[0]? = some z0 := ⟨_, List.getElem?_eq_getElem (by rw [HZ.out]; omega)⟩
          obtain ⟨zn, hzn⟩ : ∃ zn, z[N1]? = some zn := ⟨_, List.getElem?_eq_getElem (by rw [HZ.out]; omega)⟩
          have y0 : wc.cell? ⟨gb, 0, none⟩ = some (.int .i64 z0) := (World.cell?_of_block (a := ⟨gb, 0, none⟩) hkb).trans (Hb.out.2.1.cell 0 z0 hz0).1
          have yn : wc.cell? ⟨gb, N1, none⟩ = some (.int .i64 zn) := (World.cell?_of_block (a := ⟨gb, N1, none⟩) hkb).trans (Hb.out.2.1.cell N1 zn hzn).1
          have x0 : wc.frozen? ⟨gb, 0, none⟩ = false := (World.frozen?_of_block (a := ⟨gb, 0, none⟩) hkb).trans (Hb.out.2.2.1 0)
          have xn : wc.frozen? ⟨gb, N1, none⟩ = false := (World.frozen?_of_block (a := ⟨gb, N1, none⟩) hkb).trans (Hb.out.2.2.1 N1)
          obtain ⟨wd, hwd⟩ : ∃ wd, wc.setCell ⟨gb, N1, none⟩ (.int .i64 (-1)) = wd := ⟨_, rfl⟩
          obtain ⟨y0', hy0'⟩ : ∃ v', wd.cell? ⟨gb, 0, none⟩ = some v' := by rw [← hwd]; exact cs_some y0
          have x0' : wd.frozen? ⟨gb, 0, none⟩ = false := by rw [← hwd, World.frozen?_setCell]; exact x0
          have HKd := Lib.hid (show Keep (fun q => q = gb) wc (wd.setCell ⟨gb, 0, none⟩ (.int .i64 (-1))) from by
            rw [← hwd]
            exact keep_set (F := fun q => q = gb) (keep_set (F := fun q => q = gb) (Keep.refl _ _) rfl _) rfl _)
          have HSd := Lib.hid (HSc.out.keep HKd.out (fun q h1 h2 => by subst h2; exact Hc.out.2.1 h1) (fun q h1 => by subst h1; exact Nat.le_trans HS.out.own.bel.size HGW.out.2.1) (fun g hg h1 => by subst h1; have := HS.out.row.lt _ hg; have := HGW.out.2.1; omega) (fun y hy h1 => by have := (HS.out.bt y hy).lt; have := HGW.out.2.1; omega))
          have HXd := Lib.hid (Hc.out.1.block (HKd.out.block _ Hc.out.1.lt (fun h => HGW.out.2.2 h)))
          have m3 : (N : Int) - 1 = (N1 : Int) := by omega
          have m4 : N1 < N := by omega
          have m5 : 0 < N := by omega
          have d1 : decide ((YL : Int) < (M : Int)) = false := decide_eq_false (by omega)
          obtain ⟨m1, m2⟩ := w64 (N1 : Int) (by omega)
          clear hM' hkb hka hz0 hzn hgbO hgaO nO y0
          go_wp2_with fail
          have HLn := cLen_any HSd.out.own.ob
          rw [show lenT (some c) = YL from HYL.out.2] at HLn
          have HLn := Lib.hid HLn
          clear m1 m2 d1
          refine HLn.out.mono ?_
          rintro e _ ⟨rfl, rfl⟩
          go_wp2_with fail
          refine HLn.out.mono ?_
          rintro e _ ⟨rfl, rfl⟩
          go_wp2_with fail
          go_roundw
          case rel => exact ⟨k + 1, _, _, _, by omega, by go_num, HSd.out, HC⟩
          case measure => simp [intOf]; omega
      · obtain ⟨t1, t2⟩ := HR.out 2 h
        clear h
        have HBA := Lib.hid (fun W => batch_any N (100 * (k : Int)) W (by omega) (by omega) (by omega))
        have hbl := btL_len (100 * (k : Int)) N
        generalize btL (100 * (k : Int)) N = z at *
        have HZ := Lib.hid hbl
        by_cases hf : YL < M
        · have hiv : insV (some c) z = true := decide_eq_true ⟨by rw [HC.out.2.1]; exact HZ.out, by rw [HC.out.2.2, HYL.out.2]; exact hf⟩
          have hie : insE (some c) z = 0 := if_pos (by rw [HC.out.2.1]; exact HZ.out)
          have hid' : insD (some c) z = some { c with L := c.L ++ [z] } := if_pos ⟨by rw [HC.out.2.1]; exact HZ.out, by rw [HC.out.2.2, HYL.out.2]; exact hf⟩
          clear hbl
          obtain ⟨e1, e2⟩ := w64 (100 * (k : Int)) (by omega)
          go_wp2_with fail
          clear t1 t2
          refine (HBA.out wr).mono ?_
          rintro e wa ⟨ga, ca, rfl, hga, hba, hfa, hbb⟩
          have HSa := Lib.hid (HS.out.below hbb)
          have Ha := Lib.hid (And.intro hga hba)
          clear hga hba hfa hbb
          go_wp2_with fail
          clear e1 e2
          refine (HBA.out wa).mono ?_
          rintro e wb ⟨gb, cb, rfl, hgb, hbb2, hfr, hbb⟩
          have HSb := Lib.hid (HSa.out.below hbb)
          have Hb := Lib.hid (And.intro hgb (And.intro hbb2 (And.intro hfr (Ha.out.2.block (hbb.block _ Ha.out.2.lt)))))
          have HG := Lib.hid (And.intro (show ga < wa.heap.size from Ha.out.2.lt) (And.intro (show gb < wb.heap.size from hbb2.lt) hbb.size))
          clear hgb hbb2 hfr hbb
          have hI := cInsert_any HSb.out.own.ob (some ⟨gb, 0, none⟩) cb z (by rw [HZ.out]; omega) (Hb.out.2.1.iat (P := fun _ => True) trivial)
          unfold InsP at hI
          rw [HZ.out, hiv, hie, hid'] at hI
          have HI := Lib.hid hI
          clear hiv hie hid' hI
          go_wp2_with fail
          refine HI.out.mono ?_
          rintro e wc ⟨rfl, hM', hM''⟩
          clear hM''
          have nO : ∀ g, wr.heap.size ≤ g → ¬ O g := fun g hg ho => by have := HS.out.own.ob.lt g ho; omega
          have HSc := Lib.hid (HSb.out.call hM' (fun _ h => h))
          have HGW := Lib.hid (show wr.heap.size ≤ ga ∧ wr.heap.size ≤ gb ∧ ga ≠ gb from by
            have h1 := Ha.out.1
            have h2 := HG.out.1
            have h3 := Hb.out.1
            exact ⟨h1, by omega, by omega⟩)
          have hgbO : ¬ O gb := nO gb HGW.out.2.1
          have hgaO : ¬ O ga := nO ga HGW.out.1
          have hkb : wc.heap[gb]? = wb.heap[gb]? := hM'.2.block gb HG.out.2.1 hgbO
          have hka : wc.heap[ga]? = wb.heap[ga]? := hM'.2.block ga (Nat.lt_of_lt_of_le HG.out.1 HG.out.2.2) hgaO
          have Hc := Lib.hid (And.intro (Hb.out.2.2.2.block hka) (And.intro (show ¬ Ext O wb wc gb from fun hx => by
            rcases hx with hx | hx
            · exact hgbO hx
            · have := HG.out.2.1; omega) (show ¬ Ext O wb wc ga from fun hx => by
            rcases hx with hx | hx
            · exact hgaO hx
            · have := HG.out.1; have := HG.out.2.2; omega)))
          obtain ⟨z0, hz0⟩ : ∃ z0, z[0]? = some z0 := ⟨_, List.getElem?_eq_getElem (by rw [HZ.out]; omega)⟩
          obtain ⟨zn, hzn⟩ : ∃ zn, z[N1]? = some zn := ⟨_, List.getElem?_eq_getElem (by rw [HZ.out]; omega)⟩
          have y0 : wc.cell? ⟨gb, 0, none⟩ = some (.int .i64 z0) := (World.cell?_of_block (a := ⟨gb, 0, none⟩) hkb).trans (Hb.out.2.1.cell 0 z0 hz0).1
          have yn : wc.cell? ⟨gb, N1, none⟩ = some (.int .i64 zn) := (World.cell?_of_block (a := ⟨gb, N1, none⟩) hkb).trans (Hb.out.2.1.cell N1 zn hzn).1
          have x0 : wc.frozen? ⟨gb, 0, none⟩ = false := (World.frozen?_of_block (a := ⟨gb, 0, none⟩) hkb).trans (Hb.out.2.2.1 0)
          have xn : wc.frozen? ⟨gb, N1, none⟩ = false := (World.frozen?_of_block (a := ⟨gb, N1, none⟩) hkb).trans (Hb.out.2.2.1 N1)
          obtain ⟨wd, hwd⟩ : ∃ wd, wc.setCell ⟨gb, N1, none⟩ (.int .i64 (-1)) = wd := ⟨_, rfl⟩
          obtain ⟨y0', hy0'⟩ : ∃ v', wd.cell? ⟨gb, 0, none⟩ = some v' := by rw [← hwd]; exact cs_some y0
          have x0' : wd.frozen? ⟨gb, 0, none⟩ = false := by rw [← hwd, World.frozen?_setCell]; exact x0
          have HKd := Lib.hid (show Keep (fun q => q = gb) wc (wd.setCell ⟨gb, 0, none⟩ (.int .i64 (-1))) from by
            rw [← hwd]
            exact keep_set (F := fun q => q = gb) (keep_set (F := fun q => q = gb) (Keep.refl _ _) rfl _) rfl _)
          have HSd := Lib.hid (HSc.out.keep HKd.out (fun q h1 h2 => by subst h2; exact Hc.out.2.1 h1) (fun q h1 => by subst h1; exact Nat.le_trans HS.out.own.bel.size HGW.out.2.1) (fun g hg h1 => by subst h1; have := HS.out.row.lt _ hg; have := HGW.out.2.1; omega) (fun y hy h1 => by have := (HS.out.bt y hy).lt; have := HGW.out.2.1; omega))
          have HXd := Lib.hid (Hc.out.1.block (HKd.out.block _ Hc.out.1.lt (fun h => HGW.out.2.2 h)))
          have m3 : (N : Int) - 1 = (N1 : Int) := by omega
          have m4 : N1 < N := by omega
          have m5 : 0 < N := by omega
          have d1 : decide ((YL : Int) < (M : Int)) = true := decide_eq_true (by omega)
          obtain ⟨m1, m2⟩ := w64 (N1 : Int) (by omega)
          clear hM' hkb hka hz0 hzn hgbO hgaO nO y0
          have HCN0 := Lib.hid (show ((wd.setCell ⟨gb, 0, none⟩ (.int .i64 (-1))).alloc (.cells #[.slice (some ⟨ga, 0, none⟩) N ca] 32)).cell? ⟨wd.heap.size, 0, none⟩ = some (.slice (some ⟨ga, 0, none⟩) N ca) from by
            have := cells1_new (wd.setCell ⟨gb, 0, none⟩ (.int .i64 (-1))) (.slice (some ⟨ga, 0, none⟩) N ca) 32
            rwa [World.size_setCell] at this)
          go_wp2_with (at_builtin; refine wpList_append_off _ rfl _ _ 40 rfl 32 j0 (.slice none 0 0) 24 undLL hj hy0 hy1 hy2 rfl (.slice A5 YL c5) (bV Y) rfl (HSd.out.row.below (bnew _ (.cells #[.slice (some ⟨ga, 0, none⟩) N ca] 32))) ⟨wd.heap.size, 0, none⟩ 1 (.slice (some ⟨ga, 0, none⟩) N ca) rfl HCN0.out (add0 _) rfl (by rw [bV_len, HYL.out.1]; unfold maxLen; omega) (by rw [bV_len, HYL.out.1]; omega) ?_; intro g5 q5 cp5 w5 hown' hgrow hat; rw [bV_len, HYL.out.1] at hown' hat ⊢; have HA5 := Lib.hid (And.intro hown' (And.intro hgrow hat)); clear hown' hgrow hat)
          have HF := Lib.hid (HSd.out.push (x := ⟨ga, z, ca⟩) HXd.out ⟨Hc.out.2.2, fun e => by have := HS.out.row.lt ga e; have := HGW.out.1; omega⟩ (by rw [show (⟨ga, z, ca⟩ : Bt).v = .slice (some ⟨ga, 0, none⟩) N ca from by rw [← HZ.out]; rfl]; exact HA5.out.1) HA5.out.2.1 HA5.out.2.2)
          have HCN := Lib.hid (show (Y ++ [(⟨ga, z, ca⟩ : Bt)]).map (·.l) = c.L ++ [z] ∧ c.b = N ∧ c.r = M from ⟨by rw [List.map_append, HC.out.1]; rfl, HC.out.2⟩)
          have HLn := cLen_any HF.out.own.ob
          rw [show lenT (some { c with L := c.L ++ [z] }) = YL + 1 from by show (c.L ++ [z]).length = _; rw [List.length_append, HYL.out.2]; rfl] at HLn
          have HLn := Lib.hid HLn
          clear m1 m2 d1
          refine HLn.out.mono ?_
          rintro e _ ⟨rfl, rfl⟩
          go_wp2_with fail
          refine HLn.out.mono ?_
          rintro e _ ⟨rfl, rfl⟩
          go_wp2_with fail
          go_roundw
          case rel => exact ⟨k + 1, _, _, _, by omega, by go_num, HF.out, HCN⟩
          case measure => simp [intOf]; omega
        · have hiv : insV (some c) z = false := decide_eq_false (fun h => hf (by have h2 := h.2; rw [HC.out.2.2, HYL.out.2] at h2; exact h2))
          have hie : insE (some c) z = 0 := if_pos (by rw [HC.out.2.1]; exact HZ.out)
          have hid' : insD (some c) z = some c := if_neg (fun h => hf (by have h2 := h.2; rw [HC.out.2.2, HYL.out.2] at h2; exact h2))
          clear hbl
          obtain ⟨e1, e2⟩ := w64 (100 * (k : Int)) (by omega)
          go_wp2_with fail
          clear t1 t2
          refine (HBA.out wr).mono ?_
          rintro e wa ⟨ga, ca, rfl, hga, hba, hfa, hbb⟩
          have HSa := Lib.hid (HS.out.below hbb)
          have Ha := Lib.hid (And.intro hga hba)
          clear hga hba hfa hbb
          go_wp2_with fail
          clear e1 e2
          refine (HBA.out wa).mono ?_
          rintro e wb ⟨gb, cb, rfl, hgb, hbb2, hfr, hbb⟩
          have HSb := Lib.hid (HSa.out.below hbb)
          have Hb := Lib.hid (And.intro hgb (And.intro hbb2 (And.intro hfr (Ha.out.2.block (hbb.block _ Ha.out.2.lt)))))
          have HG := Lib.hid (And.intro (show ga < wa.heap.size from Ha.out.2.lt) (And.intro (show gb < wb.heap.size from hbb2.lt) hbb.size))
          clear hgb hbb2 hfr hbb
          have hI := cInsert_any HSb.out.own.ob (some ⟨gb, 0, none⟩) cb z (by rw [HZ.out]; omega) (Hb.out.2.1.iat (P := fun _ => True) trivial)
          unfold InsP at hI
          rw [HZ.out, hiv, hie, hid'] at hI
          have HI := Lib.hid hI
          clear hiv hie hid' hI
          go_wp2_with fail
          refine HI.out.mono ?_
          rintro e wc ⟨rfl, hM', hM''⟩
          clear hM''
          have nO : ∀ g, wr.heap.size ≤ g → ¬ O g := fun g hg ho => by have := HS.out.own.ob.lt g ho; omega
          have HSc := Lib.hid (HSb.out.call hM' (fun _ h => h))
          have HGW := Lib.hid (show wr.heap.size ≤ ga ∧ wr.heap.size ≤ gb ∧ ga ≠ gb from by
            have h1 := Ha.out.1
            have h2 := HG.out.1
            have h3 := Hb.out.1
            exact ⟨h1, by omega, by omega⟩)
          have hgbO : ¬ O gb := nO gb HGW.out.2.1
          have hgaO : ¬ O ga := nO ga HGW.out.1
          have hkb : wc.heap[gb]? = wb.heap[gb]? := hM'.2.block gb HG.out.2.1 hgbO
          have hka : wc.heap[ga]? = wb.heap[ga]? := hM'.2.block ga (Nat.lt_of_lt_of_le HG.out.1 HG.out.2.2) hgaO
          have Hc := Lib.hid (And.intro (Hb.out.2.2.2.block hka) (And.intro (show ¬ Ext O wb wc gb from fun hx => by
            rcases hx with hx | hx
            · exact hgbO hx
            · have := HG.out.2.1; omega) (show ¬ Ext O wb wc ga from fun hx => by
            rcases hx with hx | hx
            · exact hgaO hx
            · have := HG.out.1; have := HG.out.2.2; omega)))
          obtain ⟨z0, hz0⟩ : ∃ z0, z[0]? = some z0 := ⟨_, List.getElem?_eq_getElem (by rw [HZ.out]; omega)⟩
          obtain ⟨zn, hzn⟩ : ∃ zn, z[N1]? = some zn := ⟨_, List.getElem?_eq_getElem (by rw [HZ.out]; omega)⟩
          have y0 : wc.cell? ⟨gb, 0, none⟩ = some (.int .i64 z0) := (World.cell?_of_block (a := ⟨gb, 0, none⟩) hkb).trans (Hb.out.2.1.cell 0 z0 hz0).1
          have yn : wc.cell? ⟨gb, N1, none⟩ = some (.int .i64 zn) := (World.cell?_of_block (a := ⟨gb, N1, none⟩) hkb).trans (Hb.out.2.1.cell N1 zn hzn).1
          have x0 : wc.frozen? ⟨gb, 0, none⟩ = false := (World.frozen?_of_block (a := ⟨gb, 0, none⟩) hkb).trans (Hb.out.2.2.1 0)
          have xn : wc.frozen? ⟨gb, N1, none⟩ = false := (World.frozen?_of_block (a := ⟨gb, N1, none⟩) hkb).trans (Hb.out.2.2.1 N1)
          obtain ⟨wd, hwd⟩ : ∃ wd, wc.setCell ⟨gb, N1, none⟩ (.int .i64 (-1)) = wd := ⟨_, rfl⟩
          obtain ⟨y0', hy0'⟩ : ∃ v', wd.cell? ⟨gb, 0, none⟩ = some v' := by rw [← hwd]; exact cs_some y0
          have x0' : wd.frozen? ⟨gb, 0, none⟩ = false := by rw [← hwd, World.frozen?_setCell]; exact x0
          have HKd := Lib.hid (show Keep (fun q => q = gb) wc (wd.setCell ⟨gb, 0, none⟩ (.int .i64 (-1))) from by
            rw [← hwd]
            exact keep_set (F := fun q => q = gb) (keep_set (F := fun q => q = gb) (Keep.refl _ _) rfl _) rfl _)
          have HSd := Lib.hid (HSc.out.keep HKd.out (fun q h1 h2 => by subst h2; exact Hc.out.2.1 h1) (fun q h1 => by subst h1; exact Nat.le_trans HS.out.own.bel.size HGW.out.2.1) (fun g hg h1 => by subst h1; have := HS.out.row.lt _ hg; have := HGW.out.2.1; omega) (fun y hy h1 => by have := (HS.out.bt y hy).lt; have := HGW.out.2.1; omega))
          have HXd := Lib.hid (Hc.out.1.block (HKd.out.block _ Hc.out.1.lt (fun h => HGW.out.2.2 h)))
          have m3 : (N : Int) - 1 = (N1 : Int) := by omega
          have m4 : N1 < N := by omega
          have m5 : 0 < N := by omega
          have d1 : decide ((YL : Int) < (M : Int)) = false := decide_eq_false (by omega)
          obtain ⟨m1, m2⟩ := w64 (N1 : Int) (by omega)
          clear hM' hkb hka hz0 hzn hgbO hgaO nO y0
          go_wp2_with fail
          have HLn := cLen_any HSd.out.own.ob
          rw [show lenT (some c) = YL from HYL.out.2] at HLn
          have HLn := Lib.hid HLn
          clear m1 m2 d1
          refine HLn.out.mono ?_
          rintro e _ ⟨rfl, rfl⟩
          go_wp2_with fail
          refine HLn.out.mono ?_
          rintro e _ ⟨rfl, rfl⟩
          go_wp2_with fail
          go_roundw
          case rel => exact ⟨k + 1, _, _, _, by omega, by go_num, HSd.out, HC⟩
          case measure => simp [intOf]; omega
      · obtain ⟨t1, t2⟩ := HR.out 3 h
        clear h
        have hR := cRemove_any HS.out.own.ob
        unfold RmP at hR
        rcases Nat.eq_zero_or_pos YL with hz | hz
        · have he : c.L = [] := List.length_eq_zero_iff.1 (by rw [HYL.out.2]; exact hz)
          rw [show rmV (some c) = [] from by show c.L[_]?.getD [] = []; rw [he]; rfl, show rmE (some c) = 4 from if_pos he, rmD_nil HWF.out he] at hR
          have hR := Lib.hid hR
          clear he
          subst hz
          go_wp2_with fail
          clear t1 t2
          refine hR.out.mono ?_
          rintro e w6 ⟨A6, c6, rfl, hi, hM'⟩
          have HF := Lib.hid (HS.out.call hM' HS.out.own.ob.isB)
          clear hi hM'
          go_wp2_with fail
          go_roundw
          case rel => exact ⟨k + 1, _, _, _, by omega, by go_num, HF.out, HC⟩
          case measure => simp [intOf]; omega
        · obtain ⟨K, hK⟩ : ∃ K, YL = K + 1 := ⟨YL - 1, by omega⟩
          have hne : c.L ≠ [] := fun e => by have := HYL.out.2; rw [e] at this; simp at this; omega
          obtain ⟨y, hy⟩ : ∃ y, Y[K]? = some y := ⟨_, List.getElem?_eq_getElem (by have := HYL.out.1; omega)⟩
          have hlv : rmV (some c) = y.l := by
            have h1 := last_at hne
            rw [HYL.out.2, hK, show K + 1 - 1 = K from rfl, ← HC.out.1, List.getElem?_map, hy] at h1
            injection h1 with h1
            exact h1.symm
          rw [hlv, show rmE (some c) = 0 from if_neg hne] at hR
          have hyl : y.l.length = N := by rw [← hlv]; have := HWF.out.sz _ (List.mem_of_getElem? (last_at hne)); rw [this]; exact HC.out.2.1
          have HYL2 := Lib.hid hyl
          have HYB := Lib.hid (show y ∈ Y from List.mem_of_getElem? hy)
          rw [hyl] at hR
          have hR := Lib.hid hR
          obtain ⟨g5, o5, cap5, hV5, hs5, _⟩ := HS.out.row.slot (bV_at hy)
          have hV5' : A5 = some ⟨g5, o5, none⟩ := by injection hV5
          subst hV5'
          have HY2 := Lib.hid hy
          have hcut := HS.out.row.cut K (by rw [bV_len, HYL.out.1]; omega) c5 (by omega) (Nat.le_refl _)
          rw [bV_take] at hcut
          have HSUB := Lib.hid hcut
          have hsl := sl_to (some ⟨g5, o5, none⟩) YL c5 K (by omega)
          have e3 : (YL : Int) - 1 = (K : Int) := by omega
          have e4 : ((YL : Int) == 0) = false := by simp; omega
          have e5 : K < YL := by omega
          have HKY := Lib.hid hK
          obtain ⟨e6, e7⟩ := w64 (K : Int) (by omega)
          clear hlv hyl hne hz hV5 hs5 hcut hy hK
          go_wp2_with fail
          clear t1 t2
          refine hR.out.mono ?_
          rintro e w6 ⟨A6, c6, rfl, hi, hM'⟩
          have HF0 := Lib.hid (HS.out.call hM' HS.out.own.ob.isB)
          have HI6 := Lib.hid hi
          obtain ⟨g6, o6, cap6, hV6, hs6, _⟩ := HF0.out.row.slot (bV_at HY2.out)
          have hg6 : g6 = g5 ∧ o6 = o5 := by
            injection hV6 with q1
            injection q1 with q1
            injection q1 with q1 q2
            exact ⟨q1.symm, q2.symm⟩
          rw [hg6.1, hg6.2] at hs6
          rw [show y.v = .slice (some ⟨y.g, 0, none⟩) N y.c from by rw [← HYL2.out]; rfl] at hs6
          have hIn := Ints_any A6 (some ⟨y.g, 0, none⟩) c6 y.c y.l w6 (by rw [HYL2.out]; omega) HI6.out ((HF0.out.bt y HYB.out).iat (P := fun _ => True) trivial)
          rw [HYL2.out] at hIn
          have HIn := Lib.hid hIn
          clear hi hM' hIn hV6 hg6
          go_wp2_with fail
          refine HIn.out.mono ?_
          rintro e w7 ⟨rfl, hb7⟩
          have HF1 := Lib.hid (HF0.out.below hb7)
          have HKE := Lib.hid (show (Value.slice (some ⟨g5, o5, none⟩) K c5).ownBlock = (Value.slice (some ⟨g5, o5, none⟩) YL c5).ownBlock from rfl)
          clear hb7 hs6
          go_wp2_with fail
          clear e3 e4 e6 e7 hsl
          have hcut2 := HF1.out.row.cut K (by rw [bV_len, HYL.out.1]; omega) c5 (by omega) (Nat.le_refl _)
          rw [bV_take] at hcut2
          have HF := Lib.hid (HF1.out.sub (fun z hz => List.mem_of_mem_take hz) hcut2 (fun g hg => by rw [← HKE.out]; exact hg))
          have HCN := Lib.hid (show (Y.take K).map (·.l) = c.L.dropLast ∧ c.b = N ∧ c.r = M from ⟨by rw [dl_take, List.map_take, HC.out.1, HYL.out.2, HKY.out]; rfl, HC.out.2⟩)
          clear hcut2
          have HLn := cLen_any HF.out.own.ob
          rw [show lenT (some { c with L := c.L.dropLast, lo := min c.lo (c.L.length - 1) }) = K from by show c.L.dropLast.length = K; rw [List.length_dropLast, HYL.out.2, HKY.out]; rfl] at HLn
          have HLn := Lib.hid HLn
          refine HLn.out.mono ?_
          rintro e _ ⟨rfl, rfl⟩
          go_wp2_with fail
          refine HLn.out.mono ?_
          rintro e _ ⟨rfl, rfl⟩
          go_wp2_with fail
          go_roundw
          case rel => exact ⟨k + 1, _, _, _, by omega, by go_num, HF.out, HCN⟩
          case measure => simp [intOf]; omega
      · obtain ⟨t1, t2⟩ := HR.out 4 h
        clear h
        have hT := cTick_any HS.out.own.ob
        unfold OutP at hT
        rw [tk_out, show half (some c) = (c.lo + 1) / 2 from rfl] at hT
        have hqY : (c.lo + 1) / 2 ≤ YL := by have := half_le HWF.out; rw [HYL.out.2] at this; exact this
        obtain ⟨q, hq⟩ : ∃ q, (c.lo + 1) / 2 = q := ⟨_, rfl⟩
        rw [hq] at hT hqY
        have hlv : (outV q (some c)).length = q := by show (c.L.take q).length = q; rw [List.length_take, HYL.out.2]; omega
        rw [hlv] at hT
        have hT := Lib.hid hT
        have HTK := Lib.hid (show (tk c).L = c.L.drop q from by show c.L.drop _ = _; rw [hq])
        clear hlv hq
        go_wp2_with fail
        refine hT.out.mono ?_
        rintro e w6 ⟨A6, c6, rfl, h5, hl6, hM'⟩
        have HC6 := Lib.hid (h5 trivial)
        have HF0 := Lib.hid (HS.out.call hM' HS.out.own.ob.isB)
        have HL6 := Lib.hid (show LAt _ w6 A6 (c.L.take q) from hl6)
        obtain ⟨_, bb', o', e', _, gx2⟩ := HX.out _ HF0.out.own.bel
        cases e'
        clear h5 hl6 hM' gx
        have hsl := sl_to A5 YL c5 q (by omega)
        have hsf := sl_from A5 YL c5 q hqY
        have hS1 := rSame_any A6 A5 c6 c5 (c.L.take q) w6 (by rw [List.length_take, HYL.out.2]; omega) (fun x hx => by rw [HWF.out.sz x (List.mem_of_mem_take hx), HC.out.2.1]; omega) HL6.out (by
          have := HF0.out.lat rfl q (by rw [HYL.out.1]; exact hqY) (by omega)
          rw [List.map_take, HC.out.1] at this
          exact this)
        rw [show (c.L.take q).length = q from by rw [List.length_take, HYL.out.2]; omega] at hS1
        have HS1 := Lib.hid hS1
        obtain ⟨hfr1, hfr2⟩ := HF0.out.row.from q (by rw [bV_len, HYL.out.1]; exact hqY)
        rw [bV_drop] at hfr1
        have d1 : decide ((YL : Int) < (q : Int)) = false := decide_eq_false (by omega)
        obtain ⟨V6, hV6⟩ : ∃ V6, (if c5 = q then A5 else A5.map (·.add q)) = V6 := ⟨_, rfl⟩
        rw [hV6] at hfr1 hfr2 hsf
        have HFR := Lib.hid (And.intro hfr1 hfr2)
        obtain ⟨D, hD⟩ : ∃ D, YL - q = D := ⟨_, rfl⟩
        rw [hD] at hsf HFR
        have HDD := Lib.hid hD
        clear hS1 hfr1 hfr2 hV6 hD
        go_wp2_with fail
        refine HS1.out.mono ?_
        rintro e w7 ⟨rfl, hb7⟩
        have HF := Lib.hid ((HF0.out.sub (fun z hz => List.mem_of_mem_drop hz) HFR.out.1 HFR.out.2).below hb7)
        have HCN := Lib.hid (show (Y.drop q).map (·.l) = (tk c).L ∧ (tk c).b = N ∧ (tk c).r = M from ⟨by rw [HTK.out, List.map_drop, HC.out.1], HC.out.2⟩)
        clear hb7 t1 t2 gx2
        go_wp2_with fail
        clear hsl hsf d1
        have hDM : D ≤ M := by have := HDD.out; omega
        have HLn := cLen_any HF.out.own.ob
        rw [show lenT (some (tk c)) = D from by show (tk c).L.length = D; rw [HTK.out, List.length_drop, HYL.out.2, HDD.out]] at HLn
        have HLn := Lib.hid HLn
        refine HLn.out.mono ?_
        rintro e _ ⟨rfl, rfl⟩
        go_wp2_with fail
        refine HLn.out.mono ?_
        rintro e _ ⟨rfl, rfl⟩
        go_wp2_with fail
        go_roundw
        case rel => exact ⟨k + 1, _, _, _, by omega, by go_num, HF.out, HCN⟩
        case measure => simp [intOf]; omega
      · obtain ⟨t1, t2⟩ := HR.out 5 h
        clear h
        have hT := cTick_any HS.out.own.ob
        unfold OutP at hT
        rw [tk_out, show half (some c) = (c.lo + 1) / 2 from rfl] at hT
        have hqY : (c.lo + 1) / 2 ≤ YL := by have := half_le HWF.out; rw [HYL.out.2] at this; exact this
        obtain ⟨q, hq⟩ : ∃ q, (c.lo + 1) / 2 = q := ⟨_, rfl⟩
        rw [hq] at hT hqY
        have hlv : (outV q (some c)).length = q := by show (c.L.take q).length = q; rw [List.length_take, HYL.out.2]; omega
        rw [hlv] at hT
        have hT := Lib.hid hT
        have HTK := Lib.hid (show (tk c).L = c.L.drop q from by show c.L.drop _ = _; rw [hq])
        clear hlv hq
        go_wp2_with fail
        refine hT.out.mono ?_
        rintro e w6 ⟨A6, c6, rfl, h5, hl6, hM'⟩
        have HC6 := Lib.hid (h5 trivial)
        have HF0 := Lib.hid (HS.out.call hM' HS.out.own.ob.isB)
        have HL6 := Lib.hid (show LAt _ w6 A6 (c.L.take q) from hl6)
        obtain ⟨_, bb', o', e', _, gx2⟩ := HX.out _ HF0.out.own.bel
        cases e'
        clear h5 hl6 hM' gx
        have hD := cDrain_any HF0.out.own.ob
        unfold OutP at hD
        have hll : lenT (some (tk c)) = YL - q := by show (tk c).L.length = _; rw [HTK.out, List.length_drop, HYL.out.2]
        obtain ⟨m, hm⟩ : ∃ m, YL - q = m := ⟨_, rfl⟩
        rw [hll, hm] at hD
        have hov : outV m (some (tk c)) = c.L.drop q := by
          show (tk c).L.take m = _
          rw [HTK.out]
          exact List.take_of_length_le (by rw [List.length_drop, HYL.out.2]; omega)
        have hodl : (c.L.drop q).length = m := by rw [List.length_drop, HYL.out.2]; exact hm
        rw [hov, hodl] at hD
        have HD := Lib.hid hD
        have HMM := Lib.hid (And.intro hm hodl)
        have hqm : q + m = YL := by omega
        have HDE := Lib.hid (show ∃ c', outD m (some (tk c)) = some c' ∧ c'.L = [] ∧ c'.b = c.b ∧ c'.r = c.r from ⟨_, rfl, List.drop_eq_nil_of_le (by rw [HTK.out, hodl]; exact Nat.le_refl _), rfl, rfl⟩)
        clear hD hll hov hodl hm
        go_wp2_with fail
        refine HD.out.mono ?_
        rintro e w7 ⟨A7, c7, rfl, h5, hl7, hM'⟩
        obtain ⟨c', hc', hcL, hcb, hcr⟩ := HDE.out
        rw [hc'] at hM'
        have HF1 := Lib.hid (HF0.out.call hM' HF0.out.own.ob.isB)
        have hl67 := HL6.out.keep hM'.2 (fun k h1 h2 => h1.2 h2)
        have HCC := Lib.hid (And.intro hcL (And.intro (hcb.trans HC.out.2.1) (hcr.trans HC.out.2.2)))
        obtain ⟨vs, hvs1, hvs2, hvs3, hvs4⟩ := hl67.vp
        obtain ⟨us, hus1, hus2, hus3, hus4⟩ := hl7.vp
        have hvl : vs.length = q := by rw [hvs1.1, List.length_take, HYL.out.2]; omega
        have hul : us.length = m := by rw [hus1.1]; exact HMM.out.2
        have hLL : c.L.take q ++ c.L.drop q = c.L := List.take_append_drop q c.L
        have HVU := Lib.hid (show VP w7 (vs ++ us) c.L from by
          have h6 := hvs1.app hus1
          rw [hLL] at h6
          exact h6)
        have HVS := Lib.hid (And.intro hvl (And.intro hul (And.intro hvs2 (And.intro hvs4 (And.intro hus2 (And.intro hus3 hus4))))))
        have HL67 := Lib.hid hl67
        have hsl := sl_to A5 YL c5 YL hc5
        have hsf := sl_from A5 YL c5 YL (Nat.le_refl _)
        obtain ⟨V6, hV6⟩ : ∃ V6, (if c5 = YL then A5 else A5.map (·.add YL)) = V6 := ⟨_, rfl⟩
        have HFR := Lib.hid (show (OffR w7 32 (.slice V6 (YL - YL) (c5 - YL)) (bV ([] : List Bt))) ∧ ∀ g, (Value.slice V6 (YL - YL) (c5 - YL)).ownBlock = some g → (Value.slice A5 YL c5).ownBlock = some g from by
          have h6 := HF1.out.row.from YL (by rw [bV_len, HYL.out.1]; exact Nat.le_refl _)
          rw [hV6, bV_drop, List.drop_eq_nil_of_le (by rw [HYL.out.1]; exact Nat.le_refl _)] at h6
          exact h6)
        rw [hV6] at hsf
        rw [Nat.sub_self] at hsf HFR
        have d1 : decide ((YL : Int) < (YL : Int)) = false := decide_eq_false (by omega)
        have hqm2 : (q : Int) + (m : Int) = (YL : Int) := by omega
        have HSX := Lib.hid (fun (W : World) (hbW : Below w7.heap.size w7 W) (A9 : Option Addr) (c9 : Nat) (h9 : LAt (fun _ => True) W A9 c.L) => show Calls Try.prog 24 #[.slice A9 YL c9, .slice A5 YL c5] W (Yes W) from by
          have h6 := rSame_any A9 A5 c9 c5 c.L W (by rw [HYL.out.2]; omega) (fun x hx => by rw [HWF.out.sz x hx, HC.out.2.1]; omega) h9 (by
            have h7 := (HF1.out.below hbW).lat rfl YL (by rw [HYL.out.1]; exact Nat.le_refl _) hc5
            rw [List.take_of_length_le (by rw [HYL.out.1]; exact Nat.le_refl _), HC.out.1] at h7
            exact h7)
          rw [HYL.out.2] at h6
          exact h6)
        clear h5 hl7 hM' hl67 hvs1 hvs2 hvs3 hvs4 hus1 hus2 hus3 hus4 hvl hul hLL hc' hcL hcb hcr hV6
        rcases Nat.eq_zero_or_pos m with hm0 | hm0
        · subst hm0
          have hqY2 : q = YL := by omega
          have HRZ := Lib.hid (fun ty => run_append_zero (P := Try.prog) w7 40 ty 32 j0 undLL hj A6 A7 q c6 c7 (by rw [HC6.out]; exact Nat.le_refl _))
          have HL9 := Lib.hid (show LAt (fun _ => True) w7 A6 c.L from by
            have h6 := HL67.out
            rw [List.take_of_length_le (by rw [HYL.out.2, hqY2]; exact Nat.le_refl _)] at h6
            exact h6.mono fun _ _ _ => trivial)
          subst hqY2
          go_wp2_with (at_builtin; refine Lib.wpList_append_run _ rfl _ _ _ _ rfl _ _ rfl rfl _ _ (HRZ.out _) ?_)
          refine (HSX.out w7 (Below.refl _ _) A6 c6 HL9.out).mono ?_
          rintro e w9 ⟨rfl, hb9⟩
          have HF := Lib.hid ((HF1.out.sub (Z := []) (fun z hz => by cases hz) HFR.out.1 HFR.out.2).below hb9)
          have HCN := Lib.hid (show ([] : List Bt).map (·.l) = c'.L ∧ c'.b = N ∧ c'.r = M from ⟨HCC.out.1.symm, HCC.out.2⟩)
          clear hb9 t1 t2 gx2
          go_wp2_with fail
          clear hsl hsf d1 hqm2
          have HLn := cLen_any HF.out.own.ob
          rw [show lenT (some c') = 0 from by show c'.L.length = 0; rw [HCC.out.1]; rfl] at HLn
          have HLn := Lib.hid HLn
          refine HLn.out.mono ?_
          rintro e _ ⟨rfl, rfl⟩
          go_wp2_with fail
          refine HLn.out.mono ?_
          rintro e _ ⟨rfl, rfl⟩
          go_wp2_with fail
          go_roundw
          case rel => exact ⟨k + 1, _, _, _, by omega, by go_num, HF.out, HCN⟩
          case measure => simp [intOf]; omega
        · obtain ⟨b7, rfl⟩ : ∃ b7, A7 = some b7 := by
            cases A7 with
            | some b => exact ⟨b, rfl⟩
            | none => exact absurd (HVS.out.2.2.2.2.2.2 rfl) (fun e => by have := HMM.out.2; rw [e] at this; simp at this; omega)
          have HNN := Lib.hid (show A6 = none → q = 0 ∧ c6 = 0 from fun e => by
            have h6 := HVS.out.2.2.2.1 e
            have h7 := congrArg List.length h6
            rw [List.length_take, HYL.out.2] at h7
            simp at h7
            exact ⟨by omega, by rw [HC6.out]; omega⟩)
          have HFU := Lib.hid (show c6 < q + m from by rw [HC6.out]; omega)
          have HQM := Lib.hid hqm
          have HY8 := Lib.hid (show q + m ≤ 8 from by omega)
          go_wp2_with (at_builtin; refine wpList_append_grows _ rfl _ _ 40 rfl 32 j0 (.slice none 0 0) 1 24 undLL hj hy0 hy1 hy2 rfl (by decide) A6 q c6 vs rfl HNN.out (by rw [HVS.out.1, Nat.mul_one]) HVS.out.2.2.1 b7 m c7 us rfl (by rw [HVS.out.2.1, Nat.mul_one]) (HVS.out.2.2.2.2.1 b7 rfl) HVS.out.2.2.2.2.2.1 HFU.out (by unfold maxLen; have := HY8.out; omega) (by have := HY8.out; omega) ?_; intro v8 w8 hown' hgr8; rw [HQM.out] at hown'; obtain ⟨g8, cp8, rfl, _⟩ := hown'.form (by omega); have HB8 := Lib.hid (below_grown hgr8); have HW8 := Lib.hid (OffR.of_own hown'); clear hown' hgr8)
          have HL9 := Lib.hid ((HVU.out.below HB8.out).lat HW8.out)
          refine (HSX.out w8 HB8.out _ _ HL9.out).mono ?_
          rintro e w9 ⟨rfl, hb9⟩
          have HF := Lib.hid ((HF1.out.sub (Z := []) (fun z hz => by cases hz) HFR.out.1 HFR.out.2).below (btr HB8.out hb9 (Nat.le_refl _)))
          have HCN := Lib.hid (show ([] : List Bt).map (·.l) = c'.L ∧ c'.b = N ∧ c'.r = M from ⟨HCC.out.1.symm, HCC.out.2⟩)
          clear hb9 t1 t2 gx2
          go_wp2_with fail
          clear hsl hsf d1 hqm2
          have HLn := cLen_any HF.out.own.ob
          rw [show lenT (some c') = 0 from by show c'.L.length = 0; rw [HCC.out.1]; rfl] at HLn
          have HLn := Lib.hid HLn
          refine HLn.out.mono ?_
          rintro e _ ⟨rfl, rfl⟩
          go_wp2_with fail
          refine HLn.out.mono ?_
          rintro e _ ⟨rfl, rfl⟩
          go_wp2_with fail
          go_roundw
          case rel => exact ⟨k + 1, _, _, _, by omega, by go_num, HF.out, HCN⟩
          case measure => simp [intOf]; omega
    · clear hS
      go_wp2_with fail
      refine (HAL.out _).mono ?_
      rintro e w9 ⟨rfl, hb⟩
      have HF2 := Lib.hid (btr HS.out.own.bel hb (Nat.le_refl _))
      clear hb
      go_wp2_with fail
      go_ret
      exact ⟨rfl, HF2.out⟩
end Go.Proofs.Ytaefhhkdfepgmaa
