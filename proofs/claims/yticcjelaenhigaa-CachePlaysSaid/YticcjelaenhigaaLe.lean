/- Package cache, its lists: clone; the two closures that remove. -/
import Derived.Test.YticcjelaenhigaaLd
namespace Go.Proofs.Yticcjelaenhigaa
open Go.RowKit Go.Lib

/-- What clone of a list leaves. -/
def LcP (w : World) (k : Kl) (e : Ending) (w' : World) : Prop := ∃ p, e = .returned (.pointer (some ⟨p, 0, none⟩)) ∧ KOb w' (Nw w w') p k ∧ Below w.heap.size w w'
theorem newA5 (w : World) (a b c d e : Value) (t : TypeId) : ∃ W0, w.alloc (.cells #[a, b, c, d, e] t) = W0 ∧ Below w.heap.size w W0 ∧ w.heap.size < W0.heap.size ∧ Cl W0 w.heap.size 5 (fun i => if i = 0 then a else if i = 1 then b else if i = 2 then c else if i = 3 then d else e) := by
  refine ⟨_, rfl, bnew _ _, by simp, Cl.new w fun i hi => ?_⟩
  rcases five hi with rfl | rfl | rfl | rfl | rfl <;> rfl
set_option maxRecDepth 100000 in
set_option maxHeartbeats 2000000 in
theorem lclone_any {w : World} {O : Nat → Prop} {p : Nat} {k : Kl} (h : KOb w O p k) : Calls Try.prog 42 #[.pointer (some ⟨p, 0, none⟩)] w (LcP w k) := by
  obtain ⟨V, h⟩ := h
  obtain ⟨A, c, rfl, h1, h2⟩ := h.form
  obtain ⟨n, hn⟩ : ∃ n, k.l.length = n := ⟨_, rfl⟩
  have hl := h.wf.len
  have HWF := Lib.hid (And.intro h.wf h.inr)
  rw [hn] at h1 hl h
  obtain ⟨c0, c1, c2, c3, c4⟩ := h.cells
  have hcl0 := Cl.new w (t := 71) (n := 5) (f := kF k (.slice A n c)) (a := #[.int .i64 k.s, .int .i64 k.b, .slice A n c, .int .i64 k.lim, .int .i64 k.lo]) (fun i hi => by rcases five hi with rfl | rfl | rfl | rfl | rfl <;> rfl)
  have HCL := Lib.hid hcl0
  have hb0 := bnew w (.cells #[.int .i64 k.s, .int .i64 k.b, .slice A n c, .int .i64 k.lim, .int .i64 k.lo] 71)
  obtain ⟨W0, hW0⟩ : ∃ W0, w.alloc (.cells #[.int .i64 k.s, .int .i64 k.b, .slice A n c, .int .i64 k.lim, .int .i64 k.lo] 71) = W0 := ⟨_, rfl⟩
  have hs0 : w.heap.size < W0.heap.size := by rw [← hW0]; simp
  rw [hW0] at HCL hb0
  have HC := Lib.hid (slClone_any A n c k.l W0 hn (by omega) (h.row.below hb0))
  have x2 := (h.below hb0).cells.2.2.1
  have HB := Lib.hid (And.intro hb0 hs0)
  have HX := Lib.hid (fun (w1 : World) (hb : Below W0.heap.size W0 w1) => show w1.frozen? ⟨w.heap.size, 2, none⟩ = false ∧ ∃ u, w1.cell? ⟨w.heap.size, 2, none⟩ = some u from by
    have := HCL.out.of_block (hb.block _ hs0)
    exact ⟨this.free 2 (by omega), _, this.cell 2 (by omega)⟩)
  have HF := Lib.hid (fun (w1 w2 : World) (A1 : Option Addr) (c5 : Nat) (hr : w1.ownsRow W0.heap.size 3 1 (.slice A1 n c5) n (cZ k.l)) (hb : Below W0.heap.size W0 w1) (h2 : w2 = w1.setCell ⟨w.heap.size, 2, none⟩ (.slice A1 n c5)) => show LcP w k (.returned (.pointer (some ⟨w.heap.size, 0, none⟩))) w2 from by
    have hcl := HCL.out.of_block (hb.block _ hs0)
    have ho := own_off hr
    have hk : Keep (fun j => j = w.heap.size) w1 w2 := by rw [h2]; exact keep_set (F := fun j => j = w.heap.size) (Keep.refl _ _) rfl _
    have hz := hk.size
    have hbs := hb.size
    have hbw : Below w.heap.size w w2 := (btr hb0 hb (Nat.le_refl _)).trans (hk.below (by have := hb0.size; omega) (fun j e => by rw [e]; exact Nat.le_refl _))
    refine ⟨_, rfl, ⟨.slice A1 n c5, HWF.out.1, ?_, ho.1.block fun g hg hl => hk.block g hl (fun e => ?_), fun g hg => ?_, ⟨Nat.le_refl _, by omega⟩, HWF.out.2, fun j hj => hj.2⟩, hbw⟩
    · rw [h2]
      refine (hcl.set 2 _).congr fun i hi => ?_
      rcases five hi with rfl | rfl | rfl | rfl | rfl <;> rfl
    · have := ho.2 g hg; omega
    · have := ho.2 g hg
      have h7 := ho.1.lt g hg
      exact ⟨⟨by omega, by omega⟩, by omega⟩)
  clear h hn hcl0 hb0 h2 HWF
  go_enter Try.func42, Try.ntmps42
  go_wp2_with (go_at_call 57; refine HC.out.mono ?_; rintro e w1 ⟨A1, c5, rfl, hr, hb⟩; obtain ⟨y1, u2, y2⟩ := HX.out _ hb; have HR := Lib.hid (And.intro hr hb); clear hr hb x2 c0 c1 c2 c3 c4)
  go_ret
  exact HF.out _ _ _ _ HR.out.1 HR.out.2 rfl

set_option maxRecDepth 100000 in
set_option maxHeartbeats 1000000 in
theorem scav1_any {w : World} {O : Nat → Prop} {p : Nat} {k : Kl} (h : KOb w O p k) : Calls Try.prog 62 #[.pointer (some ⟨p, 0, none⟩)] w (RmP w O p (scavV k) (scavK k)) := by
  have HC := Lib.hid (lscavenge_any h)
  clear h
  go_enter Try.func62, Try.ntmps62
  go_wp2_with (go_at_call 63; refine HC.out.mono ?_; rintro e w1 ⟨A1, c5, rfl, h2⟩; have HR := Lib.hid h2; clear h2)
  go_ret
  exact ⟨A1, c5, rfl, HR.out⟩
set_option maxRecDepth 100000 in
set_option maxHeartbeats 1000000 in
theorem drain1_any {w : World} {O : Nat → Prop} {p : Nat} {k : Kl} (h : KOb w O p k) : Calls Try.prog 64 #[.pointer (some ⟨p, 0, none⟩)] w (RmP w O p (drainV k) (drainK k)) := by
  have HC := Lib.hid (loldest_any h (Nat.le_refl _))
  have HF := Lib.hid (fun (w1 : World) (A1 : Option Addr) (c5 : Nat) (hp : IAt (fun g => w.heap.size ≤ g) w1 A1 (k.l.take k.l.length) ∧ KOb w1 O p (outK k k.l.length) ∧ Keep O w w1) => show RmP w O p (drainV k) (drainK k) (.returned (.slice A1 k.l.length c5)) w1 from ⟨A1, c5, by rw [drainV_len], hp⟩)
  obtain ⟨V, h⟩ := h
  obtain ⟨A, c, rfl, _, _⟩ := h.form
  have c2 := h.cells.2.2.1
  generalize k.l.length = n at *
  clear h
  go_enter Try.func64, Try.ntmps64
  go_wp2_with (go_at_call 65; refine HC.out.mono ?_; rintro e w1 ⟨A1, c5, rfl, h2⟩; have HR := Lib.hid h2; clear h2)
  go_ret
  exact HF.out _ _ _ HR.out
end Go.Proofs.Yticcjelaenhigaa
