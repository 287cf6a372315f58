/- The document's cache: Over; a list of it is turned; Take. -/
import Derived.Test.YticcjelaenhigaaRb
namespace Go.Proofs.Yticcjelaenhigaa
open Go.RowKit Go.Lib

set_option maxHeartbeats 2000000 in
theorem dOver_any {O : Nat → Prop} {v : Value} {om : Option Tc} {w : World} (h : TOb true w O v om) : Calls Try.prog 55 #[v] w fun e w' => e = .returned (.bool (ovT om)) ∧ Below w.heap.size w w' := by
  cases om with
  | none =>
    obtain rfl := dno h
    have HM := Lib.hid (fun (n : CW w.heap.size w) => roB (dmade_no n.wd))
    clear h
    go_enter Try.func55, Try.ntmps55
    go_wp2_with fail
    refine region_below w.heap.size (by kernel_rfl) (by kernel_rfl) ?_
    repeat (first | go_big_quiet_step ((go_at_call 43; exact quietB (Nat.le_refl _) (HM.out _))) | quiet_step ((go_at_call 43; exact quietB (Nat.le_refl _) (HM.out _))))
    refine wpQuiet_nil ?_
    rintro _ ⟨nq, rfl⟩
    have HQ := Lib.hid nq.bel
    generalize nq.wd = wq at *
    go_wp2_with fail
    go_ret
    exact ⟨rfl, HQ.out⟩
  | some c =>
    have HB := Lib.hid (fun (n : CW w.heap.size w) => dBytes_any (h.below n.bel))
    have hbl := byT_le h
    have hgl := h.wf.g
    have HOV := Lib.hid (show ovT (some c) = decide (c.g < byT (some c)) from rfl)
    have HM := Lib.hid (fun (n : CW w.heap.size w) => show Calls Try.prog 43 #[v] n.wd fun e w' => e = .returned (.bool true) ∧ Below n.wd.heap.size n.wd w' from by
      have h2 := h.below n.bel
      obtain ⟨B, t, l, i, j, ct, cl, ci, cj, V, rfl, h2⟩ := h2
      exact roB (dmade_yes h2))
    obtain ⟨B, t, l, i, j, ct, cl, ci, cj, V, rfl, h⟩ := h
    have c0 := h.cells.2.1
    have hBl := h.lt _ h.ob.1
    have C0 := CW.cell (N := w.heap.size) (a := ⟨B, 1, none⟩) hBl c0
    generalize byT (some c) = bt at *
    generalize c.g = gg at *
    clear h
    go_enter Try.func55, Try.ntmps55
    go_wp2_with fail
    refine region_below w.heap.size (by kernel_rfl) (by kernel_rfl) ?_
    repeat (first | go_big_quiet_step (first | (go_at_call 43; exact quietB (Nat.le_refl _) (HM.out _)) | (go_at_call 54; exact quietB (Nat.le_refl _) (HB.out _))) | quiet_step (first | (go_at_call 43; exact quietB (Nat.le_refl _) (HM.out _)) | (go_at_call 54; exact quietB (Nat.le_refl _) (HB.out _))))
    refine wpQuiet_nil ?_
    rintro _ ⟨nq, rfl⟩
    have HQ := Lib.hid nq.bel
    generalize nq.wd = wq at *
    go_wp2_with fail
    go_ret
    refine ⟨ret_bool ?_, HQ.out⟩
    rw [HOV.out]

section
variable {w w' : World} {O O' : Nat → Prop} {B t l i j ct cl ci cj : Nat} {V : Nat → Value} {c : Tc} {x : Nat} {k k' : Kl} {A : Option Addr} {cp : Nat}
/-- A class's list, limit and low are turned. -/
theorem RcA.upd (h : RcA w O B t l i j ct cl ci cj V c) (hk : c.K[x]? = some k) (hw : KWf k') (hs : k'.s = k.s) (hb : k'.b = k.b)
    (hlim : Cl w' i c.K.length (fun y => if y = x then .int .i64 (k'.lim : Nat) else .int .i64 (((c.K[y]?.map (·.lim)).getD 0 : Nat) : Int)))
    (hlow : Cl w' j c.K.length (fun y => if y = x then .int .i64 (k'.lo : Nat) else .int .i64 (((c.K[y]?.map (·.lo)).getD 0 : Nat) : Int)))
    (hll : Cl w' l c.K.length (fun y => if y = x then .slice A k'.l.length cp else V y))
    (hcp : k'.l.length ≤ cp) (hcm : cp ≤ maxLen) (hO : ∀ g, O g → O' g) (hlt : ∀ g, O' g → g < w'.heap.size)
    (hia : IAt (fun g => O' g ∧ g ≠ B ∧ g ≠ l ∧ g ≠ i ∧ g ≠ j) w' A k'.l) (hkp : Keep (fun g => g = l ∨ g = i ∨ g = j) w w') :
    RcA w' O' B t l i j ct cl ci cj (fun y => if y = x then .slice A k'.l.length cp else V y) { c with K := c.K.set x k' } := by
  have hxl := (List.getElem?_eq_some_iff.1 hk).1
  obtain ⟨n1, n2, n3, n4, n5, n6, n7, n8, n9, n10⟩ := h.ne
  obtain ⟨oB, ot, ol, oi, oj⟩ := h.ob
  have hset : ∀ y, (c.K.set x k')[y]? = if y = x then some k' else c.K[y]? := fun y => by
    rw [List.getElem?_set]
    by_cases e : x = y
    · subst e; rw [if_pos rfl, if_pos hxl, if_pos rfl]
    · rw [if_neg e, if_neg (fun h => e h.symm)]
  have hB : w'.heap[B]? = w.heap[B]? := hkp.block B (h.lt B oB) (fun e => by rcases e with e | e | e <;> omega)
  have ht : w'.heap[t]? = w.heap[t]? := hkp.block t (h.lt t ot) (fun e => by rcases e with e | e | e <;> omega)
  have hlen : (Tc.mk c.g (c.K.set x k')).K.length = c.K.length := List.length_set
  refine ⟨h.wf.set hw, ?_, ?_, h.ne, fun y q hy => ?_, ?_, ?_, ?_, fun y q hy => ?_, ⟨hO _ oB, hO _ ot, hO _ ol, hO _ oi, hO _ oj⟩, hlt⟩
  · have := h.hd.of_block hB
    rw [← hlen] at this
    exact this
  · have := h.cap
    rw [← hlen] at this
    exact this
  · have hy : (c.K.set x k')[y]? = some q := hy
    rw [hset] at hy
    have old : ∀ q0, c.K[y]? = some q0 → w'.cell? ⟨t, y * 3, none⟩ = some (.int .i64 q0.s) ∧ (∃ g : Int, w'.cell? ⟨t, y * 3 + 1, none⟩ = some (.int .i64 g)) ∧ w'.cell? ⟨t, y * 3 + 2, none⟩ = some (.int .i64 q0.b) := fun q0 h0 => by
      obtain ⟨h1, ⟨g, h2⟩, h3⟩ := h.tab y q0 h0
      exact ⟨(World.cell?_of_block (a := ⟨t, _, none⟩) ht).trans h1, ⟨g, (World.cell?_of_block (a := ⟨t, _, none⟩) ht).trans h2⟩, (World.cell?_of_block (a := ⟨t, _, none⟩) ht).trans h3⟩
    by_cases e : y = x
    · subst e
      rw [if_pos rfl] at hy
      injection hy with hy
      subst hy
      have := old k hk
      rw [hs, hb]
      exact this
    · rw [if_neg e] at hy
      exact old q hy
  · rw [hlen]
    refine hlim.congr fun y _ => ?_
    show _ = Value.int .i64 ((((c.K.set x k')[y]?.map (·.lim)).getD 0 : Nat) : Int)
    rw [hset]
    split <;> rfl
  · rw [hlen]
    refine hlow.congr fun y _ => ?_
    show _ = Value.int .i64 ((((c.K.set x k')[y]?.map (·.lo)).getD 0 : Nat) : Int)
    rw [hset]
    split <;> rfl
  · rw [hlen]
    exact hll
  · have hy : (c.K.set x k')[y]? = some q := hy
    rw [hset] at hy
    by_cases e : y = x
    · rw [if_pos e] at hy
      injection hy with hy
      subst hy
      exact ⟨A, cp, if_pos e, hcp, hcm, hia⟩
    · rw [if_neg e] at hy
      obtain ⟨A1, cp1, e1, h1, h2, h3⟩ := h.each y q hy
      refine ⟨A1, cp1, (if_neg e).trans e1, h1, h2, (h3.keep hkp (fun g h4 h5 => ?_)).mono fun g _ h4 => ⟨hO _ h4.1, h4.2⟩⟩
      rcases h5 with h5 | h5 | h5
      · exact h4.2.2.1 h5
      · exact h4.2.2.2.1 h5
      · exact h4.2.2.2.2 h5
end
end Go.Proofs.Yticcjelaenhigaa
