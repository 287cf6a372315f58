/- Package space: what stores a word. -/
import Derived.Test.YtejjendklemebaaWa
import Derived.Deep.RegionWith
import Derived.Test.YtejjendklemebaaMd
namespace Go.Proofs.Ytejjendklemebaa
open Go.RowKit

theorem ge_max (K D : Nat) (h : K < D + 1) : ((D : Int) + 1) = ((max K (D + 1) : Nat) : Int) := by omega
theorem le_max' (K D : Nat) (h : ¬ K < D + 1) : (K : Int) = ((max K (D + 1) : Nat) : Int) := by omega

set_option maxHeartbeats 800000 in
theorem store_old {O : Nat → Prop} {B : Nat} {m : Mo} {w : World} (i : Nat) (v : Int) (h : Sp w O B m) (hi : i < 32 * m.n) (hs2 : m.st (i / 32) = 2) :
    Calls Try.prog 64 #[.pointer (some ⟨B, 0, none⟩), .int .i64 (8 * i), .int .i64 v] w fun e w' => e = .returned (.tuple #[]) ∧ Mut w O B (putM m i v) w' := by
  rw [putM_eq, dirtyM_same h.wf hs2]
  obtain ⟨A, cap, pt, h⟩ := h
  have hn2 := h.wf.n2
  have HW := Lib.hid (fun w => wordOf_any i w (by omega))
  have hq : i / 32 < m.n := by omega
  have c0 := h.c0
  have hcp := h.cp
  obtain ⟨x, hp⟩ : ∃ x, pt (i / 32) = some x := by
    cases hp : pt (i / 32) with
    | none => exact absurd hs2 ((h.pn _ hq).1 hp)
    | some x => exact ⟨x, rfl⟩
  have g1 := h.a1 hq
  rw [hp] at g1
  simp only [ptrA] at g1
  have hr : i % 32 < 32 := by omega
  have k1 := (h.ws _ _ hq hp).cell (i % 32) hr
  have f1 := (h.ws _ _ hq hp).free (i % 32) hr
  have HS := Lib.hid (h.word hq hp v)
  have e2 : (8 * (i : Int)) / 256 = ((i / 32 : Nat) : Int) := by omega
  have hmx : Try.prog.follows .mixedOrders = true := by kernel_rfl
  clear h hs2 hp
  generalize i / 32 = q at hq g1 e2 k1
  generalize i % 32 = r at HW hr k1 f1 HS
  go_enter Try.func64, Try.ntmps64
  go_wp2_with fail
  go_region_with ((go_at_call 60; refine (HW.out _).mono ?_; rintro e w1 ⟨rfl, rfl⟩))
  all_goals (go_end0; exact ⟨rfl, HS.out⟩)

theorem zeros : ∀ j, j < 32 → (#[.int .i64 0, .int .i64 0, .int .i64 0, .int .i64 0, .int .i64 0, .int .i64 0, .int .i64 0, .int .i64 0, .int .i64 0, .int .i64 0, .int .i64 0, .int .i64 0, .int .i64 0, .int .i64 0, .int .i64 0, .int .i64 0, .int .i64 0, .int .i64 0, .int .i64 0, .int .i64 0, .int .i64 0, .int .i64 0, .int .i64 0, .int .i64 0, .int .i64 0, .int .i64 0, .int .i64 0, .int .i64 0, .int .i64 0, .int .i64 0, .int .i64 0, .int .i64 0] : Array Value)[j]? = some (.int .i64 0)
  | 0, _ => rfl
  | 1, _ => rfl
  | 2, _ => rfl
  | 3, _ => rfl
  | 4, _ => rfl
  | 5, _ => rfl
  | 6, _ => rfl
  | 7, _ => rfl
  | 8, _ => rfl
  | 9, _ => rfl
  | 10, _ => rfl
  | 11, _ => rfl
  | 12, _ => rfl
  | 13, _ => rfl
  | 14, _ => rfl
  | 15, _ => rfl
  | 16, _ => rfl
  | 17, _ => rfl
  | 18, _ => rfl
  | 19, _ => rfl
  | 20, _ => rfl
  | 21, _ => rfl
  | 22, _ => rfl
  | 23, _ => rfl
  | 24, _ => rfl
  | 25, _ => rfl
  | 26, _ => rfl
  | 27, _ => rfl
  | 28, _ => rfl
  | 29, _ => rfl
  | 30, _ => rfl
  | 31, _ => rfl
  | n + 32, h => absurd h (by omega)

set_option maxHeartbeats 800000 in
theorem store_new {O : Nat → Prop} {B : Nat} {m : Mo} {w : World} (i : Nat) (v : Int) (h : Sp w O B m) (hi : i < 32 * m.n) (hs : m.st (i / 32) ≠ 0) (hs2 : m.st (i / 32) ≠ 2) :
    Calls Try.prog 64 #[.pointer (some ⟨B, 0, none⟩), .int .i64 (8 * i), .int .i64 v] w fun e w' => e = .returned (.tuple #[]) ∧ Mut w O B (putM m i v) w' := by
  obtain ⟨A, cap, pt, h⟩ := h
  have hn2 := h.wf.n2
  have HW := Lib.hid (fun w => wordOf_any i w (by omega))
  have hq : i / 32 < m.n := by omega
  have c0 := h.c0
  have c1 := h.c1
  have c2 := h.c2
  have hcp := h.cp
  have hp := (h.pn _ hq).2 hs2
  have g1 := h.a1 hq
  rw [hp] at g1
  simp only [ptrA] at g1
  have hdl := h.wf.d
  have hpl := h.wf.p
  have f1 := h.b.free 1 (by omega)
  have f2 := h.b.free 2 (by omega)
  have f3 := h.a.free ((i / 32) * 2 + 1) (by omega)
  have hab := h.ab
  have hA := h.alt
  have hB := h.blt
  have hBN : B ≠ w.heap.size := by omega
  have hAN : A ≠ w.heap.size := by omega
  have HS := Lib.hid h
  have HZ := Lib.hid hs
  have HP := Lib.hid hp
  have HWD := Lib.hid (fun (W : World) (O' : Nat → Prop) (pt' : Nat → Option Nat) (x : Nat) (h' : SpA W O' B A cap pt' (dirtyM m (i / 32))) (hp' : pt' (i / 32) = some x) => h'.word (show i / 32 < m.n from hq) hp' v)
  have HWS := Lib.hid (fun (W : World) (O' : Nat → Prop) (pt' : Nat → Option Nat) (x : Nat) (h' : SpA W O' B A cap pt' (dirtyM m (i / 32))) (hp' : pt' (i / 32) = some x) => h'.ws _ x (show i / 32 < m.n from hq) hp')
  rw [putM_eq]
  have e2 : (8 * (i : Int)) / 256 = ((i / 32 : Nat) : Int) := by omega
  have hr : i % 32 < 32 := by omega
  have hmx : Try.prog.follows .mixedOrders = true := by kernel_rfl
  clear h hs hs2 hp
  generalize hqq : i / 32 = q at hq g1 f3 e2 HZ HP HWD HWS ⊢
  generalize hrr : i % 32 = r at HW hr HWD
  clear hqq hrr
  generalize hD : m.dir = D at c1 hdl
  generalize hK : m.pk = K at c2 hdl hpl
  have HD := Lib.hid hD
  have HK := Lib.hid hK
  clear hD hK
  go_enter Try.func64, Try.ntmps64
  go_wp2_with fail
  go_region
  go_wp2_with fail
  · obtain ⟨W, hW⟩ : ∃ W, W = ((((w.setCell ⟨A, q * 2 + 1, none⟩ (.pointer (some ⟨w.heap.size, 0, none⟩))).setCell ⟨B, 1, none⟩ (.int .i64 ((D : Int) + 1))).setCell ⟨B, 2, none⟩ (.int .i64 ((D : Int) + 1))).alloc (.cells #[.int .i64 0, .int .i64 0, .int .i64 0, .int .i64 0, .int .i64 0, .int .i64 0, .int .i64 0, .int .i64 0, .int .i64 0, .int .i64 0, .int .i64 0, .int .i64 0, .int .i64 0, .int .i64 0, .int .i64 0, .int .i64 0, .int .i64 0, .int .i64 0, .int .i64 0, .int .i64 0, .int .i64 0, .int .i64 0, .int .i64 0, .int .i64 0, .int .i64 0, .int .i64 0, .int .i64 0, .int .i64 0, .int .i64 0, .int .i64 0, .int .i64 0, .int .i64 0] 74)).drew := ⟨_, rfl⟩
    have hM := HS.out.dirtied hq HZ.out HP.out #[.int .i64 0, .int .i64 0, .int .i64 0, .int .i64 0, .int .i64 0, .int .i64 0, .int .i64 0, .int .i64 0, .int .i64 0, .int .i64 0, .int .i64 0, .int .i64 0, .int .i64 0, .int .i64 0, .int .i64 0, .int .i64 0, .int .i64 0, .int .i64 0, .int .i64 0, .int .i64 0, .int .i64 0, .int .i64 0, .int .i64 0, .int .i64 0, .int .i64 0, .int .i64 0, .int .i64 0, .int .i64 0, .int .i64 0, .int .i64 0, .int .i64 0, .int .i64 0] (fun j hj => zeros j hj) 74 ((D : Int) + 1) (by rw [HD.out, HK.out]; exact ge_max _ _ (by omega))
    rw [HD.out] at hM
    rw [← hW] at hM ⊢
    clear hW
    obtain ⟨hMu, hSp⟩ := hM
    have d0 := hSp.c0
    rw [show (dirtyM m q).n = m.n from rfl] at d0
    have d1 := hSp.a1 (k := q) hq
    rw [if_pos rfl] at d1
    simp only [ptrA] at d1
    have hwd := HWD.out _ _ _ w.heap.size hSp (if_pos rfl)
    have hws := HWS.out _ _ _ w.heap.size hSp (if_pos rfl)
    have d2 := hws.cell r hr
    have d3 := hws.free r hr
    have HMU := Lib.hid hMu
    have HWD2 := Lib.hid hwd
    clear hMu hSp hwd hws c0 c1 c2 f1 f2 f3 g1
    go_region_with ((go_at_call 60; refine (HW.out _).mono ?_; rintro e w1 ⟨rfl, rfl⟩))
    all_goals (go_end0; exact ⟨rfl, HMU.out.trans HWD2.out⟩)
  · obtain ⟨W, hW⟩ : ∃ W, W = ((((w.setCell ⟨A, q * 2 + 1, none⟩ (.pointer (some ⟨w.heap.size, 0, none⟩))).setCell ⟨B, 1, none⟩ (.int .i64 ((D : Int) + 1))).setCell ⟨B, 2, none⟩ (.int .i64 (K : Int))).alloc (.cells #[.int .i64 0, .int .i64 0, .int .i64 0, .int .i64 0, .int .i64 0, .int .i64 0, .int .i64 0, .int .i64 0, .int .i64 0, .int .i64 0, .int .i64 0, .int .i64 0, .int .i64 0, .int .i64 0, .int .i64 0, .int .i64 0, .int .i64 0, .int .i64 0, .int .i64 0, .int .i64 0, .int .i64 0, .int .i64 0, .int .i64 0, .int .i64 0, .int .i64 0, .int .i64 0, .int .i64 0, .int .i64 0, .int .i64 0, .int .i64 0, .int .i64 0, .int .i64 0] 74)).drew := ⟨_, rfl⟩
    have hM := HS.out.dirtied hq HZ.out HP.out #[.int .i64 0, .int .i64 0, .int .i64 0, .int .i64 0, .int .i64 0, .int .i64 0, .int .i64 0, .int .i64 0, .int .i64 0, .int .i64 0, .int .i64 0, .int .i64 0, .int .i64 0, .int .i64 0, .int .i64 0, .int .i64 0, .int .i64 0, .int .i64 0, .int .i64 0, .int .i64 0, .int .i64 0, .int .i64 0, .int .i64 0, .int .i64 0, .int .i64 0, .int .i64 0, .int .i64 0, .int .i64 0, .int .i64 0, .int .i64 0, .int .i64 0, .int .i64 0] (fun j hj => zeros j hj) 74 (K : Int) (by rw [HD.out, HK.out]; exact le_max' _ _ (by omega))
    rw [HD.out] at hM
    rw [← hW] at hM ⊢
    clear hW
    obtain ⟨hMu, hSp⟩ := hM
    have d0 := hSp.c0
    rw [show (dirtyM m q).n = m.n from rfl] at d0
    have d1 := hSp.a1 (k := q) hq
    rw [if_pos rfl] at d1
    simp only [ptrA] at d1
    have hwd := HWD.out _ _ _ w.heap.size hSp (if_pos rfl)
    have hws := HWS.out _ _ _ w.heap.size hSp (if_pos rfl)
    have d2 := hws.cell r hr
    have d3 := hws.free r hr
    have HMU := Lib.hid hMu
    have HWD2 := Lib.hid hwd
    clear hMu hSp hwd hws c0 c1 c2 f1 f2 f3 g1
    go_region_with ((go_at_call 60; refine (HW.out _).mono ?_; rintro e w1 ⟨rfl, rfl⟩))
    all_goals (go_end0; exact ⟨rfl, HMU.out.trans HWD2.out⟩)

end Go.Proofs.Ytejjendklemebaa
