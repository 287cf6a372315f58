/- Package cache: the walks of Scavenge and Drain. -/
import Derived.Test.YticcjelaenhigaaPe
namespace Go.Proofs.Yticcjelaenhigaa
open Go.RowKit Go.Sort Go.Shelf Go.Lib

theorem sortNil_any (A : Option Addr) (c : Nat) (w : World) : Calls Try.prog 73 #[.slice A 0 c, .func (.func 74) #[] #[]] w fun e w' => e = .returned (.tuple #[]) ∧ w' = w :=
  AnyF.slices_SortFunc_none Try.sortBt A c (.func (.func 74) #[] #[]) w
theorem fst_nodup {L : List (Nat × List Int)} (h : L.Pairwise (fun x y => x.1 < y.1)) : (L.map (·.1)).Nodup := by
  rw [List.Nodup, List.pairwise_map]
  exact h.imp fun h e => by omega
/-- The batches in order are those of the classes in order. -/
theorem rkd_eq {X Y : List Bx} {h : Nat → List Int} {D : List Nat} {n : Nat} (hr : Rkd X Y) (hx : X.map (fun x => (x.i, x.l)) = batQ h D) (hp : D.Perm (List.range n)) : Y.map (fun x => (x.i, x.l)) = batQ h (List.range n) := by
  have h1 : (Y.map (fun x => (x.i, x.l))).Perm (batQ h (List.range n)) := by
    have := hr.1.map (fun x : Bx => (x.i, x.l))
    rw [hx] at this
    exact this.trans (batQ_perm h hp)
  refine sorted_uniq h1 ?_ (batQ_sorted h n)
  have h2 : ((Y.map (fun x => (x.i, x.l))).map (·.1)).Nodup := (h1.map (·.1)).nodup_iff.2 (fst_nodup (batQ_sorted h n))
  rw [List.Nodup, List.pairwise_map, List.pairwise_map] at h2
  rw [List.pairwise_map]
  refine (hr.2.and h2).imp fun {a b} ⟨h3, h4⟩ => ?_
  rw [ltX, decide_eq_false_iff_not] at h3
  have h4 : a.i ≠ b.i := h4
  show a.i < b.i
  omega
section
variable {w wr w5 : World} {O : Nat → Prop} {B M R : Nat} {Q D : List Nat} {p : Nat → Nat} {F : Nat → Nat → Prop} {c : Tc} {f : Kl → List Int} {g : Kl → Kl} {V : Value} {X Y : List Bx} {A : Option Addr} {cc : Nat}
theorem ColI.done (h : ColI w wr O B M R Q D p F c f g V X) (hall : ∀ i ∈ Q, i ∈ D) : D.Perm (List.range c.K.length) ∧ onK g D c.K = c.K.map g := by
  have h1 := h.pc.perm
  rw [show (onK g D c.K).length = c.K.length from onK_len _ _ _] at h1
  refine ⟨(h.it.all hall).trans h1, onK_all fun i hi => hall i (h1.mem_iff.2 (List.mem_range.2 hi))⟩
theorem ColI.end0 (h : ColI w wr O B M R Q D p F c f g (.slice A 0 cc) []) (hall : ∀ i ∈ Q, i ∈ D) : RmsP false w O (.pointer (some ⟨B, 0, none⟩)) f g (some c) (.returned (.slice A 0 cc)) wr := by
  obtain ⟨h1, h2⟩ := h.done hall
  have h3 : batV f (some c) = [] := by
    have := (batQ_perm (hK f c.K) h1).length_eq
    rw [← h.xs] at this
    exact List.length_eq_zero_iff.1 this.symm
  have hpc := h.pc
  rw [h2] at hpc
  exact ⟨A, cc, by rw [h3]; rfl, O, ⟨B, M, Q, p, F, rfl, hpc⟩, fun j hj => .inl hj, h.kp, by rw [h3]; exact BAt.nil _ _ _⟩
theorem ColI.end1 {q : Nat} (h : ColI w wr O B M R Q D p F c f g (.slice (some ⟨q, 0, none⟩) X.length cc) X) (hO : ∀ j, O j → j < w.heap.size) (hall : ∀ i ∈ Q, i ∈ D) (hr : Rkd X Y) (hY : RkAt w5 q Y) (hk : Keep (fun j => j = q) wr w5) : RmsP false w O (.pointer (some ⟨B, 0, none⟩)) f g (some c) (.returned (.slice (some ⟨q, 0, none⟩) X.length cc)) w5 := by
  obtain ⟨h1, h2⟩ := h.done hall
  have h3 : Y.map (fun x => (x.i, x.l)) = batV f (some c) := rkd_eq hr h.xs h1
  have h4 : X.length = (batV f (some c)).length := by rw [← h3, List.length_map, hr.1.length_eq]
  obtain ⟨hq1, hq2, _⟩ := owns_at h.row
  have hpc := h.pc
  rw [h2] at hpc
  have hqO : ∀ j, O j → j = q → False := fun j hj e => by have := hO j hj; omega
  refine ⟨some ⟨q, 0, none⟩, cc, by rw [← h4], O, ⟨B, M, Q, p, F, rfl, hpc.keep hk hqO⟩, fun j hj => .inl hj, h.kp.trans (hk.mono fun j hj e => .inr ⟨by omega, hj⟩), fun i x hx => ?_⟩
  rw [← h3, List.getElem?_map] at hx
  cases hy : Y[i]? with
  | none => rw [hy] at hx; cases hx
  | some y =>
    rw [hy] at hx
    injection hx with hx
    subst hx
    obtain ⟨c0, c1⟩ := hY i y hy
    have hyX : y ∈ X := hr.1.mem_iff.1 (List.mem_of_getElem? hy)
    refine ⟨q, 0, y.A, y.c, rfl, Nat.lt_of_lt_of_le hq2 hk.size, ⟨hq1, fun ho => hqO q ho rfl⟩, by rw [Nat.zero_add]; exact c0, by rw [Nat.zero_add]; exact c1, ?_⟩
    exact ((h.at' y hyX).keep hk (fun j h5 h6 => h5.2.1 (by rw [h6]; rfl))).mono fun j _ h5 => ⟨h5.1, fun ho => by have := hO j ho; omega⟩
end
theorem cells2_one (w : World) (a b : Value) (t : TypeId) (B : Nat) (hB : w.heap.size = B) : ∀ j u, [a, b][j]? = some u → (w.alloc (.cells #[a, b] t)).cell? ((⟨B, 0, none⟩ : Addr).add j) = some u := by
  subst hB
  exact cells2_new w a b t
theorem one2 (n : Int) (A : Option Addr) (m c : Nat) : ∀ u ∈ [Value.int .i64 n, .slice A m c], u.oneCell' = true := by
  intro u hu
  simp at hu
  rcases hu with rfl | rfl <;> rfl

/-- The range's count stays. -/
theorem rl_blk {w w' : World} {b r : Nat} (h1 : w'.heap[b]? = w.heap[b]?) (h2 : w'.heap[r]? = w.heap[r]?) : w'.rangeLeft b r = w.rangeLeft b r := by unfold World.rangeLeft; rw [h1, h2]
theorem rl_keep {w wr w1 w2 : World} {O : Nat → Prop} {B M R i : Nat} {Q D D' : List Nat} {p : Nat → Nat} {F : Nat → Nat → Prop} {c : Tc} {f : Kl → List Int} {g : Kl → Kl} {V : Value} {X : List Bx} {k : Kl} (hk : Keep (F i) w1 w2) (h : ColI w wr O B M R Q D p F c f g V X) (h0 : ∀ j, O j → j < w.heap.size) (hi : c.K[i]? = some k) (hit : Itr w1 M R Q D' p) : w2.rangeLeft M R = w1.rangeLeft M R := by
  have hil : i < (onK g D c.K).length := by rw [onK_len]; exact (List.getElem?_eq_some_iff.1 hi).1
  exact rl_blk (hk.block _ hit.map.lt (fun hx => (h.pc.sub i hil _ hx).2.2 rfl)) (hk.block _ hit.lt (fun hx => by have := h0 _ (h.pc.sub i hil _ hx).1; have := h.rR; omega))
theorem rl_grown {w2 w3 : World} {M R n : Nat} {Q D' : List Nat} {p : Nat → Nat} {V : Value} {tmp : Obj} (hg : (w2.alloc tmp).grownBy w3 V.ownBlock) (hit : Itr w2 M R Q D' p) (hM : V.ownBlock ≠ some M) (hR : V.ownBlock ≠ some R) (he : w2.rangeLeft M R = n) : w3.rangeLeft M R = n := by
  have h1 := hit.map.lt
  have h2 := hit.lt
  rw [← he]
  exact rl_blk ((hg.block _ (by simp; omega) (fun e => hM e.symm)).trans (Below.heap_alloc _ _ _ h1)) ((hg.block _ (by simp; omega) (fun e => hR e.symm)).trans (Below.heap_alloc _ _ _ h2))
theorem ColI.vM {w wr : World} {O : Nat → Prop} {B M R : Nat} {Q D : List Nat} {p : Nat → Nat} {F : Nat → Nat → Prop} {c : Tc} {f : Kl → List Int} {g : Kl → Kl} {V : Value} {X : List Bx} (h : ColI w wr O B M R Q D p F c f g V X) (h0 : ∀ j, O j → j < w.heap.size) : V.ownBlock ≠ some M := fun e => by
  have h1 := (h.row.lt _ e).1
  have h2 := h0 _ h.pc.om
  omega

set_option maxRecDepth 100000 in
set_option maxHeartbeats 4000000 in
theorem collectS_any {w : World} {O : Nat → Prop} {B M : Nat} {Q : List Nat} {p : Nat → Nat} {F : Nat → Nat → Prop} {c : Tc} (h : PcA w O B M Q p F c) :
    Calls Try.prog 61 #[.pointer (some ⟨B, 0, none⟩), .func (.func 62) #[] #[]] w (RmsP false w O (.pointer (some ⟨B, 0, none⟩)) scavV scavK (some c)) := by
  obtain ⟨i0, hi, hz0, hz1, hz2⟩ := info_parts infoBt
  have HM := Lib.hid (cmade_any h)
  have c1 := h.cells.2
  have HMP := Lib.hid h.mp
  have HO := Lib.hid h.lt
  have H0 := Lib.hid (fun (w1 : World) (hit : Itr w1 M w.heap.size Q [] p) (hb : Below w.heap.size w w1) => show ColI w w1 O B M w.heap.size Q [] p F c scavV scavK (.slice none 0 0) [] from
    ⟨hit, by rw [onK_nil]; exact h.below hb, Nat.le_refl _, Keep.of hb, World.ownsRow_nil _ _ _ _, rfl, fun x hx => (by cases hx), fun e => (by cases e)⟩)
  clear h
  go_enter Try.func61, Try.ntmps61
  go_wp2_with (first
    | (go_at_call 41; refine HM.out.mono ?_; rintro e w1 ⟨rfl, rfl⟩)
    | (at_range; refine wpList_range_itr _ rfl _ rfl rfl HMP.out ?_; intro w0 hit hb hs0; have H1 := Lib.hid (H0.out _ hit hb); clear hit hb hs0))
  go_frame
  go_loopw [5] (fun V wr => ∃ D X, ColI w wr O B M w.heap.size Q D p F c scavV scavK V X) (fun _ wr => wr.rangeLeft M w.heap.size)
  case atStart => exact ⟨[], [], H1.out⟩
  case round =>
    clear H0 HM HMP c1
    obtain ⟨D, X, hC⟩ := hrel
    have HC := Lib.hid hC
    obtain ⟨A, cc, rfl⟩ := owns_form hC.row
    obtain ⟨m, hm⟩ : ∃ m, X.length = m := ⟨_, rfl⟩
    have HMM := Lib.hid hm
    have h40 := hC.len
    have hit := hC.it
    rw [hm] at h40
    rw [hm]
    clear hC hm
    go_wp2_with (first
      | (at_next; refine wpList_next_itr _ rfl _ rfl rfl hit ?_ ?_)
      | go_in)
    · intro hall
      have HA := Lib.hid hall
      clear hall hit
      rcases Nat.eq_zero_or_pos m with rfl | hpos
      · have HS := Lib.hid (fun W => sortNil_any A cc W)
        have hX : X = [] := List.length_eq_zero_iff.1 HMM.out
        subst hX
        have HE := Lib.hid (HC.out.end0 HA.out)
        go_wp2_with (go_at_call 73; refine (HS.out _).mono ?_; rintro e w5 ⟨rfl, rfl⟩)
        go_ret
        exact HE.out
      · have hrow := HC.out.row
        obtain ⟨q, rfl⟩ : ∃ q, A = some ⟨q, 0, none⟩ := by
          rcases hrow.2 with ⟨_, h0⟩ | ⟨q, cap, cur, e, _⟩
          · have := HMM.out; omega
          · injection e with e _ _; exact ⟨q, e⟩
        have HS := sort_any X (by have := HMM.out; omega) hrow
        have HE := Lib.hid (fun (w5 : World) (Y : List Bx) (h1 : Rkd X Y) (h2 : RkAt w5 q Y) (h3 : Keep (fun j => j = q) wr w5) => HC.out.end1 HO.out HA.out h1 h2 h3)
        rw [HMM.out] at HS HE
        have HS := Lib.hid HS
        clear hrow
        go_wp2_with (go_at_call 73; refine HS.out.mono ?_; rintro e w5 ⟨rfl, Y, h1, h2, h3⟩; have HY := Lib.hid (And.intro h1 (And.intro h2 h3)); clear h1 h2 h3)
        go_ret
        exact HE.out _ _ HY.out.1 HY.out.2.1 HY.out.2.2
    · intro i w1 hiQ hiD hit1 hlt hg hs1 hen
      obtain ⟨k, hk⟩ := HC.out.fk hiQ
      have hko := HC.out.next HO.out hk hiD hg
      have HCL := Lib.hid (scav1_any hko)
      have HN := Lib.hid (And.intro hk (And.intro hiD (And.intro hit1 hg)))
      have HLT := Lib.hid hlt
      have HKW := Lib.hid hko.wf
      clear hit hiQ hiD hit1 hlt hg hs1 hk hko
      obtain ⟨n, hn⟩ : ∃ n, (scavV k).length = n := ⟨_, rfl⟩
      have HNN := Lib.hid hn
      unfold RmP at HCL
      rw [hn] at HCL
      clear hn
      rcases Nat.eq_zero_or_pos n with rfl | hpos
      · go_wp2_with (go_at_call 62; refine HCL.out.mono ?_; rintro e w2 ⟨A2, c2, rfl, h1, h2, h3⟩; have HT := Lib.hid (HC.out.step0 HO.out HN.out.1 HN.out.2.1 HN.out.2.2.1 HN.out.2.2.2 h2 h3 (List.length_eq_zero_iff.1 HNN.out)); have HRL := Lib.hid (rl_keep h3 HC.out HO.out HN.out.1 HN.out.2.2.1); clear h1 h2 h3)
        go_roundw
        case rel => exact ⟨D ++ [i], X, by have := HT.out; rw [HMM.out] at this; exact this⟩
        case measure => rw [HRL.out]; exact HLT.out
      · have hnpos : ¬ (n : Int) ≤ 0 := by omega
        go_wp2_with (first
          | (go_at_call 62; refine HCL.out.mono ?_; rintro e w2 ⟨A2, c2, rfl, h1, h2, h3⟩; have HT := Lib.hid (And.intro h1 (And.intro h2 h3)); have HTU := HC.out.turn HO.out HN.out.1 HN.out.2.1 HN.out.2.2.1 HN.out.2.2.2 h2 h3; have HRW := Lib.hid HTU.2.2.2.1; have HIT := Lib.hid HTU.1; clear HTU; have HRL := Lib.hid (rl_keep h3 HC.out HO.out HN.out.1 HN.out.2.2.1); have HSZ := Lib.hid (Nat.le_trans HC.out.kp.size (Nat.le_trans HN.out.2.2.2.size h3.size)); clear h1 h2 h3)
          | (at_builtin; refine wpList_append_own_at _ rfl _ _ 58 rfl w.heap.size 61 i0 (.agg #[.int .i64 0, .slice none 0 0]) 2 32 undBts hi hz0 hz1 hz2 rfl (by decide) (.slice A m cc) m (cellsX X) rfl (by have := HRW.out; rw [HMM.out] at this; exact this.alloc _) ⟨w2.heap.size, 0, none⟩ 1 1 [.int .i64 (i : Nat), .slice A2 n c2] rfl rfl (cells2_new w2 _ _ _) (one2 _ _ _ _) (by unfold maxLen; omega) (by omega) (by have := HSZ.out; simp; omega) ?_; intro v' w3 hown hgr hnil hat; have HR := Lib.hid (And.intro hown (And.intro hgr hat)); obtain ⟨A9, c9, rfl⟩ := owns_form hown; clear hown hgr hnil hat))
        go_roundw
        case rel =>
          refine ⟨D ++ [i], X ++ [⟨i, scavV k, A2, c2⟩], ?_⟩
          have hr := HR.out
          rw [← HMM.out, ← HNN.out] at hr
          have := HC.out.step1 HO.out HN.out.1 HN.out.2.1 HN.out.2.2.1 HN.out.2.2.2 HT.out.2.1 HT.out.2.2 (fun e => by have := HNN.out; rw [e] at this; simp at this; omega) HT.out.1 hr.1 hr.2.1 hr.2.2
          rw [HMM.out] at this
          exact this
        case measure =>
          have hv := HC.out.vM HO.out
          have hr := HC.out.rne
          rw [HMM.out] at hv hr
          have e9 := rl_grown HR.out.2.1 HIT.out hv hr HRL.out
          rw [e9]
          exact HLT.out

set_option maxRecDepth 100000 in
set_option maxHeartbeats 4000000 in
theorem collectD_any {w : World} {O : Nat → Prop} {B M : Nat} {Q : List Nat} {p : Nat → Nat} {F : Nat → Nat → Prop} {c : Tc} (h : PcA w O B M Q p F c) :
    Calls Try.prog 61 #[.pointer (some ⟨B, 0, none⟩), .func (.func 64) #[] #[]] w (RmsP false w O (.pointer (some ⟨B, 0, none⟩)) drainV drainK (some c)) := by
  obtain ⟨i0, hi, hz0, hz1, hz2⟩ := info_parts infoBt
  have HM := Lib.hid (cmade_any h)
  have c1 := h.cells.2
  have HMP := Lib.hid h.mp
  have HO := Lib.hid h.lt
  have H0 := Lib.hid (fun (w1 : World) (hit : Itr w1 M w.heap.size Q [] p) (hb : Below w.heap.size w w1) => show ColI w w1 O B M w.heap.size Q [] p F c drainV drainK (.slice none 0 0) [] from
    ⟨hit, by rw [onK_nil]; exact h.below hb, Nat.le_refl _, Keep.of hb, World.ownsRow_nil _ _ _ _, rfl, fun x hx => (by cases hx), fun e => (by cases e)⟩)
  clear h
  go_enter Try.func61, Try.ntmps61
  go_wp2_with (first
    | (go_at_call 41; refine HM.out.mono ?_; rintro e w1 ⟨rfl, rfl⟩)
    | (at_range; refine wpList_range_itr _ rfl _ rfl rfl HMP.out ?_; intro w0 hit hb hs0; have H1 := Lib.hid (H0.out _ hit hb); clear hit hb hs0))
  go_frame
  go_loopw [5] (fun V wr => ∃ D X, ColI w wr O B M w.heap.size Q D p F c drainV drainK V X) (fun _ wr => wr.rangeLeft M w.heap.size)
  case atStart => exact ⟨[], [], H1.out⟩
  case round =>
    clear H0 HM HMP c1
    obtain ⟨D, X, hC⟩ := hrel
    have HC := Lib.hid hC
    obtain ⟨A, cc, rfl⟩ := owns_form hC.row
    obtain ⟨m, hm⟩ : ∃ m, X.length = m := ⟨_, rfl⟩
    have HMM := Lib.hid hm
    have h40 := hC.len
    have hit := hC.it
    rw [hm] at h40
    rw [hm]
    clear hC hm
    go_wp2_with (first
      | (at_next; refine wpList_next_itr _ rfl _ rfl rfl hit ?_ ?_)
      | go_in)
    · intro hall
      have HA := Lib.hid hall
      clear hall hit
      rcases Nat.eq_zero_or_pos m with rfl | hpos
      · have HS := Lib.hid (fun W => sortNil_any A cc W)
        have hX : X = [] := List.length_eq_zero_iff.1 HMM.out
        subst hX
        have HE := Lib.hid (HC.out.end0 HA.out)
        go_wp2_with (go_at_call 73; refine (HS.out _).mono ?_; rintro e w5 ⟨rfl, rfl⟩)
        go_ret
        exact HE.out
      · have hrow := HC.out.row
        obtain ⟨q, rfl⟩ : ∃ q, A = some ⟨q, 0, none⟩ := by
          rcases hrow.2 with ⟨_, h0⟩ | ⟨q, cap, cur, e, _⟩
          · have := HMM.out; omega
          · injection e with e _ _; exact ⟨q, e⟩
        have HS := sort_any X (by have := HMM.out; omega) hrow
        have HE := Lib.hid (fun (w5 : World) (Y : List Bx) (h1 : Rkd X Y) (h2 : RkAt w5 q Y) (h3 : Keep (fun j => j = q) wr w5) => HC.out.end1 HO.out HA.out h1 h2 h3)
        rw [HMM.out] at HS HE
        have HS := Lib.hid HS
        clear hrow
        go_wp2_with (go_at_call 73; refine HS.out.mono ?_; rintro e w5 ⟨rfl, Y, h1, h2, h3⟩; have HY := Lib.hid (And.intro h1 (And.intro h2 h3)); clear h1 h2 h3)
        go_ret
        exact HE.out _ _ HY.out.1 HY.out.2.1 HY.out.2.2
    · intro i w1 hiQ hiD hit1 hlt hg hs1 hen
      obtain ⟨k, hk⟩ := HC.out.fk hiQ
      have hko := HC.out.next HO.out hk hiD hg
      have HCL := Lib.hid (drain1_any hko)
      have HN := Lib.hid (And.intro hk (And.intro hiD (And.intro hit1 hg)))
      have HLT := Lib.hid hlt
      have HKW := Lib.hid hko.wf
      clear hit hiQ hiD hit1 hlt hg hs1 hk hko
      obtain ⟨n, hn⟩ : ∃ n, (drainV k).length = n := ⟨_, rfl⟩
      have HNN := Lib.hid hn
      unfold RmP at HCL
      rw [hn] at HCL
      clear hn
      rcases Nat.eq_zero_or_pos n with rfl | hpos
      · go_wp2_with (go_at_call 64; refine HCL.out.mono ?_; rintro e w2 ⟨A2, c2, rfl, h1, h2, h3⟩; have HT := Lib.hid (HC.out.step0 HO.out HN.out.1 HN.out.2.1 HN.out.2.2.1 HN.out.2.2.2 h2 h3 (List.length_eq_zero_iff.1 HNN.out)); have HRL := Lib.hid (rl_keep h3 HC.out HO.out HN.out.1 HN.out.2.2.1); clear h1 h2 h3)
        go_roundw
        case rel => exact ⟨D ++ [i], X, by have := HT.out; rw [HMM.out] at this; exact this⟩
        case measure => rw [HRL.out]; exact HLT.out
      · have hnpos : ¬ (n : Int) ≤ 0 := by omega
        go_wp2_with (first
          | (go_at_call 64; refine HCL.out.mono ?_; rintro e w2 ⟨A2, c2, rfl, h1, h2, h3⟩; have HT := Lib.hid (And.intro h1 (And.intro h2 h3)); have HTU := HC.out.turn HO.out HN.out.1 HN.out.2.1 HN.out.2.2.1 HN.out.2.2.2 h2 h3; have HRW := Lib.hid HTU.2.2.2.1; have HIT := Lib.hid HTU.1; clear HTU; have HRL := Lib.hid (rl_keep h3 HC.out HO.out HN.out.1 HN.out.2.2.1); have HSZ := Lib.hid (Nat.le_trans HC.out.kp.size (Nat.le_trans HN.out.2.2.2.size h3.size)); clear h1 h2 h3)
          | (at_builtin; refine wpList_append_own_at _ rfl _ _ 58 rfl w.heap.size 61 i0 (.agg #[.int .i64 0, .slice none 0 0]) 2 32 undBts hi hz0 hz1 hz2 rfl (by decide) (.slice A m cc) m (cellsX X) rfl (by have := HRW.out; rw [HMM.out] at this; exact this.alloc _) ⟨w2.heap.size, 0, none⟩ 1 1 [.int .i64 (i : Nat), .slice A2 n c2] rfl rfl (cells2_new w2 _ _ _) (one2 _ _ _ _) (by unfold maxLen; omega) (by omega) (by have := HSZ.out; simp; omega) ?_; intro v' w3 hown hgr hnil hat; have HR := Lib.hid (And.intro hown (And.intro hgr hat)); obtain ⟨A9, c9, rfl⟩ := owns_form hown; clear hown hgr hnil hat))
        go_roundw
        case rel =>
          refine ⟨D ++ [i], X ++ [⟨i, drainV k, A2, c2⟩], ?_⟩
          have hr := HR.out
          rw [← HMM.out, ← HNN.out] at hr
          have := HC.out.step1 HO.out HN.out.1 HN.out.2.1 HN.out.2.2.1 HN.out.2.2.2 HT.out.2.1 HT.out.2.2 (fun e => by have := HNN.out; rw [e] at this; simp at this; omega) HT.out.1 hr.1 hr.2.1 hr.2.2
          rw [HMM.out] at this
          exact this
        case measure =>
          have hv := HC.out.vM HO.out
          have hr := HC.out.rne
          rw [HMM.out] at hv hr
          have e9 := rl_grown HR.out.2.1 HIT.out hv hr HRL.out
          rw [e9]
          exact HLT.out

set_option maxHeartbeats 1000000 in
theorem collectN_any {O : Nat → Prop} {v fv : Value} {w : World} (h : NoT false w O v) : Calls Try.prog 61 #[v, fv] w fun e w' => e = .returned (.slice none 0 0) ∧ w = w' := by
  have HM := Lib.hid (cmade_no h)
  clear h
  go_enter Try.func61, Try.ntmps61
  go_wp2_with (go_at_call 41; refine HM.out.mono ?_; rintro e w1 ⟨rfl, rfl⟩)
  go_ret
  exact ⟨rfl, rfl⟩
set_option maxHeartbeats 1000000 in
theorem cScavenge_any {O : Nat → Prop} {v : Value} {om : Option Tc} {w : World} (h : TOb false w O v om) : Calls Try.prog 30 #[v] w (RmsP false w O v scavV scavK om) := by
  cases om with
  | none =>
    have HC := Lib.hid (collectN_any (fv := .func (.func 62) #[] #[]) h.1)
    have HP := Lib.hid (rms_no (f := scavV) (g := scavK) h (Below.refl _ _))
    clear h
    go_enter Try.func30, Try.ntmps30
    go_wp2_with (go_at_call 61; refine HC.out.mono ?_; rintro e w1 ⟨rfl, rfl⟩)
    go_ret
    exact HP.out
  | some c =>
    obtain ⟨B, M, Q, p, F, rfl, h⟩ := h
    have HC := Lib.hid (collectS_any h)
    clear h
    go_enter Try.func30, Try.ntmps30
    go_wp2_with (go_at_call 61; refine HC.out.mono ?_; rintro e w1 ⟨A1, c1, rfl, h2⟩; have HP := Lib.hid h2; clear h2)
    go_ret
    exact ⟨A1, c1, rfl, HP.out⟩
set_option maxHeartbeats 1000000 in
theorem cDrain_any {O : Nat → Prop} {v : Value} {om : Option Tc} {w : World} (h : TOb false w O v om) : Calls Try.prog 35 #[v] w (RmsP false w O v drainV drainK om) := by
  cases om with
  | none =>
    have HC := Lib.hid (collectN_any (fv := .func (.func 64) #[] #[]) h.1)
    have HP := Lib.hid (rms_no (f := drainV) (g := drainK) h (Below.refl _ _))
    clear h
    go_enter Try.func35, Try.ntmps35
    go_wp2_with (go_at_call 61; refine HC.out.mono ?_; rintro e w1 ⟨rfl, rfl⟩)
    go_ret
    exact HP.out
  | some c =>
    obtain ⟨B, M, Q, p, F, rfl, h⟩ := h
    have HC := Lib.hid (collectD_any h)
    clear h
    go_enter Try.func35, Try.ntmps35
    go_wp2_with (go_at_call 61; refine HC.out.mono ?_; rintro e w1 ⟨A1, c1, rfl, h2⟩; have HP := Lib.hid h2; clear h2)
    go_ret
    exact ⟨A1, c1, rfl, HP.out⟩
end Go.Proofs.Yticcjelaenhigaa
