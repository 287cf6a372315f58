/- Package cache: Bytes, Over. -/
import Derived.Test.YticcjelaenhigaaPf
namespace Go.Proofs.Yticcjelaenhigaa
open Go.RowKit Go.Lib

/-- A world that is as W0 was, below N. -/
structure CW (N : Nat) (W0 : World) where
  wd : World
  bel : Below N W0 wd
instance nonemptyCW (N : Nat) (W0 : World) : Nonempty (CW N W0) := ⟨⟨W0, Below.refl _ _⟩⟩
theorem region_below {P : Program} {id : Nat} {Q : Exit → Act → World → Prop} {a : Act} {w : World} {l : List Oper} (N : Nat) (hm : P.follows .mixedOrders = true) (hB : Region.lexB .any l.toArray = true)
    (h : wpQuiet P l.toArray (fun w' => ∃ n : CW N w, w' = n.wd) (fun a' => ∀ w', (∃ n : CW N w, w' = n.wd) → Q .normal a' w') l a) : (Code.region id l.toArray true).wp P Q a w :=
  wp_region_quiet (C := fun w' => ∃ n : CW N w, w' = n.wd) hm hB ⟨⟨_, (Below.refl _ _).drew⟩, rfl⟩ (by simpa using h)
theorem quietB {P : Program} {f : FuncId} {args : Array Value} {N : Nat} {W0 : World} {n : CW N W0} {v : Value} (hN : N ≤ W0.heap.size)
    (h : Calls P f args n.wd fun e w' => e = .returned v ∧ Below n.wd.heap.size n.wd w') : Calls P f args n.wd fun e w'' => e = .returned v ∧ ∃ m : CW N W0, w'' = m.wd :=
  h.mono fun _ w' ⟨he, hb⟩ => ⟨he, ⟨w', btr n.bel hb hN⟩, rfl⟩
theorem CW.cell {N : Nat} {W0 : World} {a : Addr} {v : Value} (hN : a.block < N) (h : W0.cell? a = some v) : ∀ n : CW N W0, n.wd.cell? a = some v := fun n => (n.bel.cell hN).trans h

/-- The bytes of the lists of D. -/
def byD (K : List Kl) (D : List Nat) : Nat := (D.map fun i => (K[i]?.map byK).getD 0).sum
theorem byD_snoc (K : List Kl) (D : List Nat) (i : Nat) : byD K (D ++ [i]) = byD K D + (K[i]?.map byK).getD 0 := by unfold byD; simp
theorem sum_le : ∀ (l : List Nat) (b : Nat), (∀ x ∈ l, x ≤ b) → l.sum ≤ l.length * b
  | [], _, _ => by simp
  | x :: t, b, h => by
    have h1 := sum_le t b (fun y hy => h y (List.mem_cons_of_mem _ hy))
    have h2 := h x List.mem_cons_self
    rw [List.sum_cons, List.length_cons, Nat.add_mul]
    omega
theorem byAt_le {c : Tc} (h : TWf c) (i : Nat) : (c.K[i]?.map byK).getD 0 ≤ 131072 := by
  cases hk : c.K[i]? with
  | none => exact Nat.zero_le _
  | some k => exact byK_le (h.k k (List.mem_of_getElem? hk))
theorem byD_le {c : Tc} (h : TWf c) (D : List Nat) (hn : D.Nodup) (hD : ∀ i ∈ D, i < c.K.length) : byD c.K D ≤ 5242880 := by
  have h1 := sum_le (D.map fun i => (c.K[i]?.map byK).getD 0) 131072 (fun x hx => by
    obtain ⟨i, _, rfl⟩ := List.mem_map.1 hx
    exact byAt_le h i)
  rw [List.length_map] at h1
  have h2 := nodup_len _ _ hn hD
  have h3 := h.n40
  have h4 : D.length * 131072 ≤ 40 * 131072 := Nat.mul_le_mul_right _ (by omega)
  unfold byD
  omega
theorem byD_range (K : List Kl) : byD K (List.range K.length) = (K.map byK).sum := by
  unfold byD
  congr 1
  refine List.ext_getElem (by simp) fun i h1 h2 => ?_
  simp at h1
  simp [h1]
theorem byD_perm (K : List Kl) {D D' : List Nat} (h : D.Perm D') : byD K D = byD K D' := (h.map _).sum_nat
theorem byT_le {om : Option Tc} {r : Bool} {w : World} {O : Nat → Prop} {v : Value} (h : TOb r w O v om) : byT om ≤ 5242880 := by
  cases om with
  | none => exact Nat.zero_le _
  | some c =>
    show (c.K.map byK).sum ≤ _
    rw [← byD_range]
    exact byD_le h.wf _ List.nodup_range (fun i hi => List.mem_range.1 hi)

set_option maxRecDepth 100000 in
set_option maxHeartbeats 2000000 in
theorem cBytes_any {O : Nat → Prop} {v : Value} {om : Option Tc} {w : World} (h : TOb false w O v om) : Calls Try.prog 33 #[v] w fun e w' => e = .returned (.int .i64 (byT om : Nat)) ∧ Below w.heap.size w w' := by
  cases om with
  | none =>
    have HM := Lib.hid (cmade_no h.1)
    clear h
    go_enter Try.func33, Try.ntmps33
    go_wp2_with (go_at_call 41; refine HM.out.mono ?_; rintro e w1 ⟨rfl, rfl⟩)
    go_ret
    exact ⟨rfl, Below.refl _ _⟩
  | some c =>
    obtain ⟨B, M, Q, p, F, rfl, h⟩ := h
    have HM := Lib.hid (cmade_any h)
    have c1 := h.cells.2
    have HMP := Lib.hid h.mp
    have HH := Lib.hid h
    clear h
    go_enter Try.func33, Try.ntmps33
    go_wp2_with (first
      | (go_at_call 41; refine HM.out.mono ?_; rintro e w1 ⟨rfl, rfl⟩)
      | (at_range; refine wpList_range_itr _ rfl _ rfl rfl HMP.out ?_; intro w0 hit hb hs0; have H1 := Lib.hid (And.intro hit hb); clear hit hb hs0))
    go_frame
    go_loopw [3] (fun V wr => ∃ D, V = .int .i64 (byD c.K D : Nat) ∧ Itr wr M w.heap.size Q D p ∧ Below w.heap.size w wr) (fun _ wr => wr.rangeLeft M w.heap.size)
    case atStart => exact ⟨[], rfl, H1.out.1, H1.out.2⟩
    case round =>
      clear c1 HM HMP
      obtain ⟨D, rfl, hit, hb⟩ := hrel
      have HI := Lib.hid (And.intro hit hb)
      have hD := byD_le HH.out.wf D hit.done.1 (fun i hi => (HH.out.q i).1 (hit.done.2 i hi))
      have HS := Lib.hid (fun i => byD_snoc c.K D i)
      have HE := Lib.hid (fun (hall : ∀ i ∈ Q, i ∈ D) => show byD c.K D = byT (some c) from by
        have h1 := (hit.all hall).trans HH.out.perm
        rw [byD_perm c.K h1, byD_range]; rfl)
      generalize byD c.K D = T at *
      go_wp2_with (first
        | (at_next; refine wpList_next_itr _ rfl _ rfl rfl hit ?_ ?_)
        | go_in)
      · intro hall
        have HA := Lib.hid hall
        clear hall hit hb hD
        go_wp2
        go_ret
        exact ⟨ret_int (by rw [HE.out HA.out]), HI.out.2⟩
      · intro i w1 hiQ hiD hit1 hlt hg hs1 hen
        have hil := (HH.out.q i).1 hiQ
        have hk : c.K[i]? = some c.K[i] := List.getElem?_eq_getElem hil
        obtain ⟨k, hk2⟩ : ∃ k, c.K[i] = k := ⟨_, rfl⟩
        rw [hk2] at hk
        have hb1 : Below w.heap.size w w1 := ⟨hg.os.trans hb.os, hg.tape.trans hb.tape, hg.output.trans hb.output, Nat.le_trans hb.size hg.size, fun j hj => (hg.block j (Nat.lt_of_lt_of_le hj hb.size) (fun e => by injection e with e; omega)).trans (hb.block j hj)⟩
        obtain ⟨V, hka⟩ := (HH.out.below hb1).each i k hk
        obtain ⟨A, cap, rfl, _, _⟩ := hka.form
        have z0 := hka.cells.1
        have z2 := hka.cells.2.2.1
        have hwf := hka.wf
        have hq := byK_le hwf
        have hbs : (c.K[i]?.map byK).getD 0 = byK k := by rw [hk]; rfl
        have HS2 := Lib.hid (show byD c.K (D ++ [i]) = T + byK k from by rw [HS.out i, hbs])
        have hmul : ((k.l.length : Nat) : Int) * ((k.s : Nat) : Int) = ((byK k : Nat) : Int) := by unfold byK; rw [Int.natCast_mul]
        have HN := Lib.hid (And.intro hit1 (And.intro hb1 hlt))
        generalize byK k = q at *
        generalize k.l.length = n at *
        generalize k.s = s at *
        obtain ⟨f1, f2⟩ := w64 (q : Int) (by clear hmul; omega)
        obtain ⟨f3, f4⟩ := w64 ((T : Int) + (q : Int)) (by clear hmul f1 f2; omega)
        clear hit hb hiQ hiD hit1 hlt hg hs1 hb1 hka hwf hk hk2 hbs HS hil
        go_wp2_with fail
        go_quiet (fail)
        go_wp2_with fail
        clear f1 f2 f3 f4
        go_roundw
        case rel => exact ⟨D ++ [i], by rw [HS2.out]; go_num, HN.out.1.block rfl rfl, belowN HN.out.2.1 _⟩
        case measure => exact HN.out.2.2
end Go.Proofs.Yticcjelaenhigaa
