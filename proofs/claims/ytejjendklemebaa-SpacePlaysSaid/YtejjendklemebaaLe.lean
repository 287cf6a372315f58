/- Package space: what words hold, all at once. -/
import Derived.Test.YtejjendklemebaaLd
import Derived.Deep.OwnRows
import Derived.Laws.CopyOwn
namespace Go.Proofs.Ytejjendklemebaa
open Go.RowKit

theorem below_setCells {B : Nat} {w0 : World} (b : Nat) (hB : B ≤ b) : ∀ (vs : List Value) (o : Nat) (w : World), Below B w0 w → Below B w0 (w.setCells b o vs)
  | [], _, _, h => h
  | v :: r, o, _, h => below_setCells b hB r (o + 1) _ (h.setCell (p := ⟨b, o, none⟩) hB v)

/-- 'copy' into a row of cells. -/
theorem wpList_copy_cl {P : Program} {w : World} {ops : Array Oper} {rest : List Oper} {o : Oper} {a : Act} {Q : Exit → Act → World → Prop} (hgd : o.guard = none) (d s : Operand) (dT sT : TypeId)
    (ho : o.op = .call { callee := .builtin .copy, args := #[d, s], argTypes := #[dT, sT] }) (elem : TypeId) (hu : P.underlying dT = some (.slice elem)) (hsz : (P.info? elem).map (·.size) = some 1)
    (g off dLen dCap : Nat) (ad : Addr) (sLen sCap : Nat) (hd : a.eval d = .slice (some ⟨g, off, none⟩) dLen dCap) (hs : a.eval s = .slice (some ad) sLen sCap)
    (k n : Nat) (f F : Nat → Value) (hk : k = Nat.min sLen dLen) (hsrc : ∀ j, j < k → w.cell? (ad.add j) = some (f j)) (h1 : ∀ j, (f j).oneCell' = true) (hg : Cl w g n F) (hfit : off + k ≤ n)
    (h : ∀ w', Go.RowKit.Hid (Cl w' g n (fun j => if off ≤ j ∧ j < off + k then f (j - off) else F j)) → (∀ B w0, Below B w0 w → B ≤ g → Below B w0 w') → wpList P ops Q rest (a.put o.dst (goInt k)) w') : wpList P ops Q (o :: rest) a w := by
  refine wpList_plain hgd fun K hK => ?_
  have hlen : ((List.range k).map f).length = k := by simp
  have hget : ∀ j v, ((List.range k).map f)[j]? = some v → j < k ∧ v = f j := fun j v hv => by
    have hj : j < k := by have := (List.getElem?_eq_some_iff.1 hv).1; simpa using this
    rw [List.getElem?_map, List.getElem?_range hj] at hv
    cases hv
    exact ⟨hj, rfl⟩
  have hsome : ∀ j, j < ((List.range k).map f).length → (w.cell? ⟨g, off + j, none⟩).isSome = true := fun j hj => by
    rw [hlen] at hj
    rw [hg.cell (off + j) (by omega)]; rfl
  have hrun := run_copy_cells (P := P) w dT sT o.type elem g off dLen dCap ad sLen sCap ((List.range k).map f) hu hsz (by rw [hlen]; exact hk) (fun j v hv => by obtain ⟨hj, rfl⟩ := hget j v hv; exact hsrc j hj)
    hsome (fun j hj => by rw [hlen] at hj; exact hg.free (off + j) (by omega)) (fun v hv => by obtain ⟨x, _, rfl⟩ := List.mem_map.1 hv; exact h1 x)
  rw [hlen] at hrun
  unfold Oper.wp
  simp [execOp, ho, resolve, invoke, builtin, hd, hs, hrun, Result.andThen]
  refine hK _ _ (h _ (Lib.hid ⟨fun i hi => ?_, fun i hi => ?_⟩) (fun B w0 hb hB => below_setCells g hB _ _ _ hb))
  · by_cases hin : off ≤ i ∧ i < off + k
    · rw [if_pos hin]
      have := World.cell?_setCells_in g ((List.range k).map f) off w hsome (i - off) (by rw [hlen]; omega)
      rw [show off + (i - off) = i from by omega] at this
      rw [this]
      simp
    · rw [if_neg hin, World.cell?_setCells_out g _ _ _ _ (fun _ _ => by rw [hlen]; show i < off ∨ off + k ≤ i; omega)]
      exact hg.cell i hi
  · rw [World.frozen?_setCells]
    exact hg.free i hi

theorem Try.info3 : (Try.prog.info? 3).map (fun i => (i.zero, i.size, i.bytes)) = some (some (.int .i64 0), 1, 8) := by kernel_rfl

theorem cl_made (w : World) (n : Nat) : Cl (w.alloc (.cells (madeCells #[.int .i64 0] n) 3)) w.heap.size n (fun _ => .int .i64 0) := by
  have h := World.rowIs_made w (.int .i64 0) n 3
  exact ⟨fun i hi => h.cell hi, fun i _ => h.frozen i⟩

theorem min_of (l r : Nat) (hr : r < 32) : ∃ c : Nat, (if ((l : Nat) : Int) < 32 - (r : Int) then ((l : Nat) : Int) else 32 - (r : Int)) = (c : Int) ∧ (c = l ∧ l ≤ 32 - r ∨ c = 32 - r ∧ 32 - r ≤ l) := by
  by_cases h : ((l : Nat) : Int) < 32 - (r : Int)
  · exact ⟨l, by rw [if_pos h], .inl ⟨rfl, by omega⟩⟩
  · exact ⟨32 - r, by rw [if_neg h]; omega, .inr ⟨rfl, by omega⟩⟩

theorem slice_arr (b r : Nat) (hr : r < 32) (w : World) : (Instr.sliceAt 74 (.pointer (some ⟨b, 0, none⟩)) (some (.int .i64 (r : Int))) none none).run Try.prog w = .ok (.slice (some ⟨b, r, none⟩) (32 - r) (32 - r)) w := by
  have hl : Try.prog.arrayLen 74 = 32 := by kernel_rfl
  rw [run_sliceAt_array_l (P := Try.prog) w 74 ⟨b, 0, none⟩ (by kernel_rfl) .i64 r (by omega) (by rw [hl]; omega), hl]
  have hs : (sizeOf (Try.prog.elem 74)).run Try.prog w = .ok 1 w := by rfl
  rw [hs]
  simp only [Result.andThen, slicedAt, Int.toNat_natCast]
  rw [if_neg (by omega)]
  simp [Addr.add]
  omega

def ldF (hd : Nat → Int) (i d : Nat) : Nat → Value := fun j => if j < d then .int .i64 (hd (i + j)) else .int .i64 0

set_option maxHeartbeats 800000 in
theorem load_zero (a : Int) (v : Value) (w : World) : Calls Try.prog 63 #[v, .int .i64 a, .int .i64 0] w fun e w' => e = .returned (.slice (some ⟨w.heap.size, 0, none⟩) 0 0) ∧ Below w.heap.size w w' := by
  have hmk := run_make_row' (P := Try.prog) 49 3 (.int .i64 0) 8 Try.underlying49 Try.info3 rfl .i64 .i64 0 (by omega) (by omega)
  go_enter Try.func63, Try.ntmps63
  have hmk' := fun w => hmk w
  simp only [Int.natCast_zero] at hmk'
  clear hmk
  go_wp2
  go_loopw [1, 8] (fun x y wr => x = .int .i64 a ∧ y = .slice (some ⟨w.heap.size, 0, none⟩) 0 0 ∧ Below w.heap.size w wr) (fun _ _ _ => 0)
  case atStart => exact ⟨rfl, rfl, bnew _ _⟩
  case round =>
    obtain ⟨rfl, rfl, hB⟩ := hrel
    go_wp2
    go_ret
    exact ⟨rfl, hB⟩

set_option maxHeartbeats 1600000 in
theorem load_any {O : Nat → Prop} {B : Nat} {m : Mo} {w : World} (i L : Nat) (h : Sp w O B m) (h1 : 1 ≤ L) (h2 : i + L ≤ 32 * m.n) :
    Calls Try.prog 63 #[.pointer (some ⟨B, 0, none⟩), .int .i64 (8 * i), .int .i64 L] w fun e w' => e = .returned (.slice (some ⟨w.heap.size, 0, none⟩) L L) ∧ Cl w' w.heap.size L (fun j => .int .i64 (m.hd (i + j))) ∧ Below w.heap.size w w' := by
  obtain ⟨A, cap, pt, h⟩ := h
  have hn2 := h.wf.n2
  have hcp := h.cp
  have HS := Lib.hid h
  clear h
  have hmk := run_make_row' (P := Try.prog) 49 3 (.int .i64 0) 8 Try.underlying49 Try.info3 rfl .i64 .i64 L (by omega) (by omega)
  go_enter Try.func63, Try.ntmps63
  go_wp2
  go_loopw [1, 8] (fun x y wr => ∃ d : Nat, d ≤ L ∧ x = .int .i64 (8 * ((i + d : Nat) : Int)) ∧ ((d = L ∧ ∃ z, y = .slice z 0 0) ∨ (d < L ∧ y = .slice (some ⟨w.heap.size, d, none⟩) (L - d) (L - d))) ∧
    Cl wr w.heap.size L (ldF m.hd i d) ∧ Below w.heap.size w wr) (fun x _ _ => i + L - ((intOf x) / 8).toNat)
  case atStart => exact ⟨0, by omega, by simp, .inr ⟨by omega, rfl⟩, (cl_made w L).congr (fun j _ => by unfold ldF; rw [if_neg (by omega)]), bnew _ _⟩
  case round =>
    obtain ⟨d, hd, rfl, hy, hC, hB⟩ := hrel
    rcases hy with ⟨rfl, z, rfl⟩ | ⟨hlt, rfl⟩
    · go_wp2
      go_ret
      exact ⟨rfl, hC.congr (fun j hj => by unfold ldF; rw [if_pos hj]), hB⟩
    · have hC' := Lib.hid hC
      clear hC
      have hS := HS.out.below hB
      have c0 := hS.c0
      obtain ⟨x, hx⟩ : ∃ x, x = i + d := ⟨_, rfl⟩
      have HX := Lib.hid hx
      rw [← hx]
      have hxn : x < 32 * m.n := by omega
      have g1 := hS.a1 (k := x / 32) (by omega)
      have HW := Lib.hid (fun w => wordOf_any x w (by omega))
      have e2 : (8 * (x : Int)) / 256 = ((x / 32 : Nat) : Int) := by omega
      have hq : x / 32 < m.n := by omega
      have hr : x % 32 < 32 := by omega
      have hz0 := hS.wf.z
      have hws := hS.ws (x / 32)
      have hpn := (hS.pn (x / 32) hq).1
      clear hx hS
      cases hp : pt (x / 32) with
      | none =>
        have hst := hpn hp
        have HZ := Lib.hid (fun j (hj : j < 32 - x % 32) => hz0 (x + j) (by rw [show (x + j) / 32 = x / 32 from by omega]; exact hst))
        rw [hp] at g1
        simp only [ptrA] at g1
        clear hp hz0 hws hpn hst
        generalize hqq : x / 32 = q at e2 hq g1
        generalize hrr : x % 32 = r at HW hr HZ
        clear hqq hrr
        obtain ⟨c, hc, hcc⟩ := min_of (L - d) r hr
        have HCC := Lib.hid hcc
        clear hcc
        go_wp2_with (go_at_call 60; refine (HW.out _).mono ?_; rintro e w1 ⟨rfl, rfl⟩)
        have hcc := HCC.out
        have hx := HX.out
        go_roundw
        case rel =>
          refine ⟨d + c, by omega, by congr 1; omega, ?_, hC'.out.congr (fun j hj => ?_), hB⟩
          · by_cases hcl : L - d = c
            · exact .inl ⟨by omega, _, by rw [show L - d - c = 0 from by omega]⟩
            · exact .inr ⟨by omega, by rw [if_neg hcl, show L - d - c = L - (d + c) from by omega]⟩
          · unfold ldF
            by_cases hj1 : j < d
            · rw [if_pos hj1, if_pos (by omega)]
            · rw [if_neg hj1]
              by_cases hj2 : j < d + c
              · have := HZ.out (j - d) (by omega)
                rw [show x + (j - d) = i + j from by omega] at this
                rw [if_pos hj2, this]
              · rw [if_neg hj2]
        case measure => simp [intOf]; omega
      | some b =>
        have hW := hws b hq hp
        have HWS := Lib.hid hW
        have hbl : b < w.heap.size := HS.out.ow _ _ hq hp |> HS.out.lt _
        rw [hp] at g1
        simp only [ptrA] at g1
        clear hp hz0 hws hpn hW
        have HD := Lib.hid (show x = 32 * (x / 32) + x % 32 by omega)
        generalize hqq : x / 32 = q at e2 hq g1 HWS HD
        generalize hrr : x % 32 = r at HW hr HD
        clear hqq hrr
        obtain ⟨c, hc, hcc⟩ := min_of (L - d) r hr
        have HCC := Lib.hid hcc
        have hsl := slice_arr b r hr
        clear hcc
        have hsrc : ∀ j, j < c → wr.cell? ((⟨b, r, none⟩ : Addr).add j) = some (.int .i64 (m.hd (x + j))) := fun j hj => by
          have h3 := HWS.out.cell (r + j) (by have := HCC.out; omega)
          have h4 : (⟨b, r, none⟩ : Addr).add j = ⟨b, r + j, none⟩ := by simp [Addr.add]
          rw [h4, h3]
          have := HD.out
          rw [show 32 * q + (r + j) = x + j from by omega]
        have HSRC := Lib.hid hsrc
        have HK := Lib.hid (show c = Nat.min (32 - r) (L - d) from by have := HCC.out; show c = min _ _; omega)
        have HF := Lib.hid (show d + c ≤ L by have := HCC.out; omega)
        clear hsrc
        go_wp2_with (first
          | (go_at_call 60; refine (HW.out _).mono ?_; rintro e w1 ⟨rfl, rfl⟩)
          | (refine wpList_copy_cl rfl (.tmp 36) (.tmp 40) 49 49 rfl 3 rfl rfl w.heap.size d (L - d) (L - d) ⟨b, r, none⟩ (32 - r) (32 - r) rfl rfl c L (fun j => .int .i64 (m.hd (x + j))) (ldF m.hd i d) HK.out HSRC.out (fun _ => rfl) hC'.out HF.out ?_; intro w2 hC2 hB2))
        have hcc := HCC.out
        have hx := HX.out
        go_roundw
        case rel =>
          refine ⟨d + c, by omega, by congr 1; omega, ?_, hC2.out.congr (fun j hj => ?_), hB2 _ _ hB (Nat.le_refl _)⟩
          · by_cases hcl : L - d = c
            · exact .inl ⟨by omega, _, by rw [show L - d - c = 0 from by omega]⟩
            · exact .inr ⟨by omega, by rw [if_neg hcl, show L - d - c = L - (d + c) from by omega]⟩
          · unfold ldF
            by_cases hj1 : j < d
            · rw [if_neg (by omega), if_pos hj1, if_pos (by omega)]
            · by_cases hj2 : j < d + c
              · rw [if_pos (by omega), if_pos hj2, show x + (j - d) = i + j from by omega]
              · rw [if_neg (by omega), if_neg hj1, if_neg hj2]
        case measure => simp [intOf]; omega

end Go.Proofs.Ytejjendklemebaa
