/- The document's cache: Put; what Scavenge and Drain have removed so far. -/
import Derived.Test.YticcjelaenhigaaRi
import Derived.Test.YticcjelaenhigaaRj
namespace Go.Proofs.Yticcjelaenhigaa
open Go.RowKit Go.Lib

set_option maxRecDepth 100000 in
set_option maxHeartbeats 4000000 in
theorem dPut_any {O : Nat → Prop} {v : Value} {om : Option Tc} {w : World} {x a : Int} (h : TOb true w O v om) (ha : InR a) : Calls Try.prog 47 #[v, .int .i64 x, .int .i64 a] w (PtP true w O v om x a) := by
  cases hk : atK om x with
  | none =>
    have HH := Lib.hid (dwrong_any x h)
    have HP := Lib.hid (pt_no (a := a) h (Below.refl _ _) hk)
    obtain ⟨er, he, e1, e2, _⟩ := errK_ne om x hk
    rw [he] at HH HP
    clear h hk he
    go_enter Try.func47, Try.ntmps47
    go_wp2_with (go_at_call 69; refine HH.out.mono ?_; rintro e w1 ⟨rfl, rfl⟩)
    go_ret2
    exact HP.out
  | some k =>
    cases om with
    | none => cases hk
    | some c =>
      have HT := Lib.hid h
      obtain ⟨B, t, l, i, j, ct, cl, ci, cj, V, rfl, h⟩ := h
      obtain ⟨h0, _, hK, _⟩ := h.wf.at hk
      obtain ⟨n, rfl⟩ : ∃ n : Nat, x = (n : Int) := ⟨x.toNat, by omega⟩
      rw [Int.toNat_natCast] at hK
      by_cases h256 : 256 < k.l.length + 1
      · have HH := Lib.hid (dwrong_any (n : Int) HT.out)
        rw [show errK (some c) n = 0 from by unfold errK; rw [hk]; rfl] at HH
        have HP := Lib.hid (show PtP true w O (.pointer (some ⟨B, 0, none⟩)) (some c) n a (.returned (.tuple #[.slice none 0 0, .int .i64 6])) w from by
          have e1 : ptV (some c) n a = [] := by unfold ptV; rw [hk]; exact if_pos h256
          have e2 : ptE (some c) n = 6 := by unfold ptE; rw [hk]; exact if_pos h256
          have e3 : ptD (some c) n a = some c := by unfold ptD; rw [hk]; exact if_pos h256
          exact ⟨none, 0, by rw [e1, e2]; rfl, O, by rw [e3]; exact HT.out, fun j hj => .inl hj, Keep.refl _ _, by rw [e1]; exact IAt.nil _ _ _⟩)
        have hn := (List.getElem?_eq_some_iff.1 hK).1
        have c2 := h.cells.2.2.1
        obtain ⟨A, cp, c7, _, _, _, _⟩ := h.listc hK
        generalize k.l.length = N at *
        generalize c.K.length = L at *
        have hn2 : (n : Int) < (L : Int) := by omega
        have hn0 : (0 : Int) ≤ (n : Int) := by omega
        have d1 : decide ((N : Int) ≥ 256) = true := decide_eq_true (by omega)
        have d2 : decide ((256 : Int) ≤ (N : Int)) = true := decide_eq_true (by omega)
        clear h hk hK h0 HT
        go_enter Try.func47, Try.ntmps47
        go_wp2_with (go_at_call 69; refine HH.out.mono ?_; rintro e w1 ⟨rfl, rfl⟩)
        go_ret2
        exact HP.out
      · by_cases hle : k.l.length + 1 ≤ k.lim
        · exact dPut_few h hK ha h256 hle
        · exact dPut_over h hK ha h256 hle

/-- The rounds so far: what they have removed, and where it is. -/
structure ScI (w wr : World) (O : Nat → Prop) (B t l i j ct cl ci cj : Nat) (c : Tc) (f : Kl → List Int) (K' : List Kl) (D : List Nat) (V : Value) (X : List Bx) (O' : Nat → Prop) (V' : Nat → Value) : Prop where
  rc : RcA wr O' B t l i j ct cl ci cj V' { c with K := K' }
  sub : ∀ q, O' q → Ext O w wr q
  kp : Keep O w wr
  row : wr.ownsRow w.heap.size 61 2 V X.length (cellsX X)
  xs : X.map (fun x => (x.i, x.l)) = batQ (hK f c.K) D
  at' : ∀ x ∈ X, IAt (fun q => w.heap.size ≤ q ∧ V.ownBlock ≠ some q ∧ ¬ O' q) wr x.A x.l
  nv : ∀ q, V.ownBlock = some q → ¬ O' q
section
variable {w wr w3 : World} {O O' O3 : Nat → Prop} {B t l i j ct cl ci cj : Nat} {c : Tc} {f : Kl → List Int} {K' K3 : List Kl} {D : List Nat} {V V2 : Value} {X : List Bx} {V' V3 : Nat → Value} {x m n : Nat} {k : Kl} {A' : Option Addr} {c' : Nat}
/-- The lists are turned. -/
theorem ScI.turn (h : ScI w wr O B t l i j ct cl ci cj c f K' D V X O' V') (hr : RcA w3 O3 B t l i j ct cl ci cj V3 { c with K := K3 }) (hs : ∀ q, O3 q → Ext O' wr w3 q) (hk : Keep O' wr w3) : ScI w w3 O B t l i j ct cl ci cj c f K3 D V X O3 V3 := by
  have s1 := h.kp.size
  have s2 := hk.size
  refine ⟨hr, fun q hq => ?_, h.kp.trans (hk.mono fun q _ e => h.sub q e), own_keep h.row fun g hg => hk.block g (h.row.lt g hg).2 (h.nv g hg), h.xs, fun y hy => ?_, fun q hq => ?_⟩
  · rcases hs q hq with h1 | h1
    · rcases h.sub q h1 with h2 | h2
      · exact .inl h2
      · exact .inr ⟨h2.1, by omega⟩
    · exact .inr ⟨by omega, h1.2⟩
  · refine (((h.at' y hy).mono (P' := fun q => (w.heap.size ≤ q ∧ V.ownBlock ≠ some q ∧ ¬ O3 q) ∧ ¬ O' q) fun q hq h1 => ⟨⟨h1.1, h1.2.1, fun ho => ?_⟩, h1.2.2⟩).keep hk (fun q h1 h2 => h1.2 h2)).mono fun q _ h1 => h1.1
    rcases hs q ho with h2 | h2
    · exact h1.2.2 h2
    · omega
  · intro ho
    rcases hs q ho with h2 | h2
    · exact h.nv q hq h2
    · have := (h.row.lt q hq).2; omega
/-- A class's oldest objects are removed. -/
theorem ScI.old (h : ScI w wr O B t l i j ct cl ci cj c f K' D V X O' V') {A1 : Option Addr} {c1 : Nat} (ho : OldP wr O' B t l i j ct cl ci cj { c with K := K' } x m k (.returned (.slice A1 m c1)) w3) :
    (∃ O3 V3, ScI w w3 O B t l i j ct cl ci cj c f (K'.set x (outK k m)) D V X O3 V3 ∧ IAt (fun q => w.heap.size ≤ q ∧ V.ownBlock ≠ some q ∧ ¬ O3 q) w3 A1 (k.l.take m)) := by
  obtain ⟨_, _, he, O3, V3, hr, hs, hk, hi⟩ := ho
  injection he with he
  injection he with ea _ ec
  subst ea ec
  obtain ⟨_, _, ol, _, oj⟩ := h.rc.ob
  refine ⟨O3, V3, h.turn hr hs (hk.mono fun q _ e => by rcases e with e | e <;> rw [e] <;> assumption), hi.mono fun q _ h1 => ⟨Nat.le_trans h.kp.size h1.1, fun e => ?_, h1.2⟩⟩
  have := (h.row.lt q e).2
  have := h1.1
  omega
/-- No batch. -/
theorem ScI.none (h : ScI w wr O B t l i j ct cl ci cj c f K' D V X O' V') (hk : c.K[x]? = some k) (hf : f k = []) : ScI w wr O B t l i j ct cl ci cj c f K' (D ++ [x]) V X O' V' :=
  ⟨h.rc, h.sub, h.kp, h.row, by rw [h.xs, batQ_snoc, show hK f c.K x = [] from by unfold hK; rw [hk]; exact hf, if_pos rfl, List.append_nil], h.at', h.nv⟩
/-- A batch more. -/
theorem ScI.one (h : ScI w wr O B t l i j ct cl ci cj c f K' D V X O' V') (hk : c.K[x]? = some k) (hf : f k ≠ []) (hia : IAt (fun q => w.heap.size ≤ q ∧ V.ownBlock ≠ some q ∧ ¬ O' q) wr A' (f k)) {tmp : Obj}
    (hrow : w3.ownsRow w.heap.size 61 2 V2 (X.length + 1) (cellsX X ++ [.int .i64 (x : Nat), .slice A' (f k).length c'])) (hgr : (wr.alloc tmp).grownBy w3 V.ownBlock) (hat : V2.ownBlock = V.ownBlock ∨ V2.ownBlock = some (wr.alloc tmp).heap.size) :
    ScI w w3 O B t l i j ct cl ci cj c f K' (D ++ [x]) V2 (X ++ [⟨x, f k, A', c'⟩]) O' V' := by
  have hs3 := hgr.size
  simp only [World.size_alloc] at hs3 hat
  have hVl : ∀ q, V.ownBlock = some q → w.heap.size ≤ q ∧ q < wr.heap.size := fun q hq => h.row.lt q hq
  have k3 : Keep (fun q => V.ownBlock = some q) wr w3 := ⟨hgr.os, hgr.tape, hgr.output, by omega, fun q hq hne => (hgr.block q (by simp; omega) (fun e => hne e.symm)).trans (Below.heap_alloc _ _ _ hq)⟩
  have hV2 : ∀ q, q < wr.heap.size → V.ownBlock ≠ some q → V2.ownBlock ≠ some q := fun q hq hne => by
    rcases hat with e | e
    · rw [e]; exact hne
    · rw [e]; intro e2; injection e2 with e2; omega
  refine ⟨h.rc.keep k3 (fun q h1 h2 => h.nv q h2 h1), fun q hq => ?_, h.kp.trans (k3.mono fun q hq e => .inr ⟨(hVl q e).1, hq⟩), ?_, ?_, fun y hy => ?_, fun q hq => ?_⟩
  · rcases h.sub q hq with h1 | h1
    · exact .inl h1
    · exact .inr ⟨h1.1, by omega⟩
  · rw [List.length_append, cellsX_app]
    exact hrow
  · rw [List.map_append, h.xs, batQ_snoc, show hK f c.K x = f k from by unfold hK; rw [hk]; rfl, if_neg hf]
    rfl
  · rcases List.mem_append.1 hy with h1 | h1
    · exact (((h.at' y h1).mono (P' := fun q => (w.heap.size ≤ q ∧ V2.ownBlock ≠ some q ∧ ¬ O' q) ∧ V.ownBlock ≠ some q) fun q hq h2 => ⟨⟨h2.1, hV2 q hq h2.2.1, h2.2.2⟩, h2.2.1⟩).keep k3 (fun q h2 h3 => h2.2 h3)).mono fun q _ h2 => h2.1
    · rw [List.mem_singleton.1 h1]
      exact ((hia.mono (P' := fun q => (w.heap.size ≤ q ∧ V2.ownBlock ≠ some q ∧ ¬ O' q) ∧ V.ownBlock ≠ some q) fun q hq h2 => ⟨⟨h2.1, hV2 q hq h2.2.1, h2.2.2⟩, h2.2.1⟩).keep k3 (fun q h2 h3 => h2.2 h3)).mono fun q _ h2 => h2.1
  · intro ho
    have hl := h.rc.lt q ho
    rcases hat with e | e
    · rw [e] at hq; exact h.nv q hq ho
    · rw [e] at hq; injection hq with hq; omega
theorem ScI.len (h : ScI w wr O B t l i j ct cl ci cj c f K' (List.range n) V X O' V') (hn : n ≤ 40) : X.length ≤ 40 := by
  have h1 : X.length = (batQ (hK f c.K) (List.range n)).length := by rw [← h.xs, List.length_map]
  have h2 := batQ_len (hK f c.K) (List.range n)
  rw [List.length_range] at h2
  omega
theorem range_on {g : Kl → Kl} {K : List Kl} : onK g (List.range K.length) K = K.map g := onK_all fun _ hi => List.mem_range.2 hi
theorem ScI.end {g : Kl → Kl} {A : Option Addr} {cc : Nat} (h : ScI w wr O B t l i j ct cl ci cj c f (onK g (List.range c.K.length) c.K) (List.range c.K.length) (.slice A X.length cc) X O' V') : RmsP true w O (.pointer (some ⟨B, 0, Option.none⟩)) f g (some c) (.returned (.slice A X.length cc)) wr := by
  have h3 : X.map (fun x => (x.i, x.l)) = batV f (some c) := h.xs
  have h4 : X.length = (batV f (some c)).length := by rw [← h3, List.length_map]
  have hrc := h.rc
  rw [range_on] at hrc
  refine ⟨A, cc, by rw [← h4], O', ⟨B, t, l, i, j, ct, cl, ci, cj, V', rfl, hrc⟩, h.sub, h.kp, fun y x hx => ?_⟩
  rw [← h3, List.getElem?_map] at hx
  cases hy : X[y]? with
  | none => rw [hy] at hx; cases hx
  | some z =>
    rw [hy] at hx
    injection hx with hx
    subst hx
    have hpos : 0 < X.length := by have := (List.getElem?_eq_some_iff.1 hy).1; omega
    obtain ⟨q, rfl⟩ : ∃ q, A = some ⟨q, 0, Option.none⟩ := by
      rcases h.row.2 with ⟨_, h0⟩ | ⟨q, cap, cur, e, _⟩
      · omega
      · injection e with e _ _; exact ⟨q, e⟩
    obtain ⟨hq1, hq2, hc, _⟩ := owns_at h.row
    have c0 := hc (y * 2 + 0) _ ((cellsX_at X y z 0 hy (by omega)).trans rfl)
    have c1 := hc (y * 2 + 1) _ ((cellsX_at X y z 1 hy (by omega)).trans rfl)
    exact ⟨q, 0, z.A, z.c, rfl, hq2, ⟨hq1, h.nv q rfl⟩, by rw [Nat.zero_add]; exact c0, by rw [Nat.zero_add]; exact c1, (h.at' z (List.mem_of_getElem? hy)).mono fun q _ h5 => ⟨h5.1, h5.2.2⟩⟩
theorem ScI.below (h : ScI w wr O B t l i j ct cl ci cj c f K' D V X O' V') (hb : Below wr.heap.size wr w3) : ScI w w3 O B t l i j ct cl ci cj c f K' D V X O' V' :=
  h.turn (h.rc.keep (Keep.of (O := fun _ => False) hb) (fun _ _ h => h)) (fun _ h => .inl h) (Keep.of hb)
/-- What a class has in memory. -/
theorem ScI.cls (h : ScI w wr O B t l i j ct cl ci cj c f K' D V X O' V') {N : Nat} (hN : K'.length = N) (hk : K'[n]? = some k) :
    wr.cell? ⟨B, 0, Option.none⟩ = some (.slice (some ⟨t, 0, Option.none⟩) N ct) ∧ wr.cell? ⟨B, 2, Option.none⟩ = some (.slice (some ⟨l, 0, Option.none⟩) N cl) ∧ wr.cell? ⟨B, 3, Option.none⟩ = some (.slice (some ⟨i, 0, Option.none⟩) N ci) ∧ wr.cell? ⟨B, 4, Option.none⟩ = some (.slice (some ⟨j, 0, Option.none⟩) N cj) ∧ (∃ A cp, wr.cell? ⟨l, n, Option.none⟩ = some (.slice A k.l.length cp)) ∧ wr.cell? ⟨i, n, Option.none⟩ = some (.int .i64 (k.lim : Nat)) ∧ wr.cell? ⟨t, n * 3 + 2, Option.none⟩ = some (.int .i64 (k.b : Nat)) ∧ wr.cell? ⟨j, n, Option.none⟩ = some (.int .i64 (k.lo : Nat)) ∧ wr.frozen? ⟨i, n, Option.none⟩ = false ∧ wr.frozen? ⟨j, n, Option.none⟩ = false := by
  have hl := (List.getElem?_eq_some_iff.1 hk).1
  have h1 := h.rc.cells
  have h2 := h.rc.limc hk
  have h3 := h.rc.lowc hk
  have h4 := (h.rc.tab n k hk).2.2
  obtain ⟨A, cp, h5, _⟩ := h.rc.listc hk
  have h6 := h.rc.lim.free n hl
  have h7 := h.rc.low.free n hl
  subst hN
  exact ⟨h1.1, h1.2.2.1, h1.2.2.2.1, h1.2.2.2.2, ⟨A, cp, h5⟩, h2, h4, h3, h6, h7⟩
theorem ScI.limS (h : ScI w wr O B t l i j ct cl ci cj c f K' D V X O' V') (hk : K'[n]? = some k) {q : Nat} (h1 : 1 ≤ q) (h2 : q ≤ 128) : ∃ V4, ScI w (wr.setCell ⟨i, n, Option.none⟩ (.int .i64 (q : Nat))) O B t l i j ct cl ci cj c f (K'.set n { k with lim := q }) D V X O' V4 := by
  have hkp : Keep (fun g => g = i) wr (wr.setCell ⟨i, n, Option.none⟩ (.int .i64 (q : Nat))) := keep_set (F := fun g => g = i) (Keep.refl _ _) rfl _
  obtain ⟨V4, h4⟩ := h.rc.lim' hk h1 h2 (h.rc.lim.set n _) hkp
  exact ⟨V4, h.turn h4 (fun _ h => .inl h) (hkp.mono fun g _ e => by rw [e]; exact h.rc.ob.2.2.2.1)⟩
theorem ScI.lowS (h : ScI w wr O B t l i j ct cl ci cj c f K' D V X O' V') (hk : K'[n]? = some k) {q : Nat} (h1 : q ≤ k.l.length) : ∃ V4, ScI w (wr.setCell ⟨j, n, Option.none⟩ (.int .i64 (q : Nat))) O B t l i j ct cl ci cj c f (K'.set n { k with lo := q }) D V X O' V4 := by
  have hkp : Keep (fun g => g = j) wr (wr.setCell ⟨j, n, Option.none⟩ (.int .i64 (q : Nat))) := keep_set (F := fun g => g = j) (Keep.refl _ _) rfl _
  obtain ⟨V4, h4⟩ := h.rc.low' hk h1 (h.rc.low.set n _) hkp
  exact ⟨V4, h.turn h4 (fun _ h => .inl h) (hkp.mono fun g _ e => by rw [e]; exact h.rc.ob.2.2.2.2)⟩
/-- All objects of a class are removed. -/
theorem ScI.drS (h : ScI w wr O B t l i j ct cl ci cj c f (K'.set n (outK k k.l.length)) D V X O' V') (hk : K'[n]? = some k) : ∃ V4, ScI w (wr.setCell ⟨j, n, Option.none⟩ (.int .i64 0)) O B t l i j ct cl ci cj c f (K'.set n (drainK k)) D V X O' V4 := by
  have hl := (List.getElem?_eq_some_iff.1 hk).1
  have h2 : (K'.set n (outK k k.l.length))[n]? = some (outK k k.l.length) := by rw [List.getElem?_set_self hl]
  obtain ⟨V4, h4⟩ := h.lowS h2 (q := 0) (Nat.zero_le _)
  rw [List.set_set, show ({ outK k k.l.length with lo := 0 } : Kl) = drainK k from by unfold drainK outK; simp] at h4
  exact ⟨V4, h4⟩
theorem onK_succ {g : Kl → Kl} {K : List Kl} (h : K[n]? = some k) : (onK g (List.range n) K).set n (g k) = onK g (List.range (n + 1)) K := by rw [List.range_succ]; exact onK_set h
theorem onK_here {g : Kl → Kl} {K : List Kl} (h : K[n]? = some k) : (onK g (List.range n) K)[n]? = some k := by rw [onK_at h, if_neg (by simp)]
end
end Go.Proofs.Yticcjelaenhigaa
