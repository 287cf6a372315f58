/- Package transfer: the eviction of the oldest batches. -/
import Derived.Test.YtaefhhkdfepgmaaLa
import Derived.StillTailTactics
import Derived.RangeFuncBox
namespace Go.Proofs.Ytaefhhkdfepgmaa
open Go.RowKit

theorem bV_drop (X : List Bt) (n : Nat) : (bV X).drop n = bV (X.drop n) := by unfold bV; rw [List.map_drop]
theorem bV_take (X : List Bt) (n : Nat) : (bV X).take n = bV (X.take n) := by unfold bV; rw [List.map_take]
/-- `s[:n:n]`, `s[n:]`, `s[:n]` of lists of batches. -/
theorem sl_head (A : Option Addr) (N cap n : Nat) (h : n ≤ cap) (w : World) : (Instr.slice 40 (.slice A N cap) none (some (.int .i64 n)) (some (.int .i64 n))).run Try.prog w = .ok (.slice A n n) w := by
  have h0 : (0 : Int) ≤ n := Int.natCast_nonneg n
  have hu := run_underlying (P := Try.prog) (w := w) Try.underlying40
  have hz := Try.sizeOf32
  simp [Instr.slice, hu, Instr.sliceBounds, Instr.sliceBound, go_sem, h0, h, hz]
theorem sl_from (A : Option Addr) (N cap n : Nat) (h : n ≤ N) (w : World) : (Instr.slice 40 (.slice A N cap) (some (.int .i64 n)) none none).run Try.prog w = .ok (.slice (if cap = n then A else A.map (·.add n)) (N - n) (cap - n)) w := by
  have h0 : (0 : Int) ≤ n := Int.natCast_nonneg n
  have hu := run_underlying (P := Try.prog) (w := w) Try.underlying40
  have hz := Try.sizeOf32
  simp [Instr.slice, hu, Instr.sliceBounds, Instr.sliceBound, go_sem, h0, h, hz]
theorem OffR.from {w : World} {e : TypeId} {A : Option Addr} {n c : Nat} {xs : List Value} (h : OffR w e (.slice A n c) xs) (k : Nat) (hk : k ≤ xs.length) : OffR w e (.slice (if c = k then A else A.map (·.add k)) (n - k) (c - k)) (xs.drop k) ∧ ∀ g, (Value.slice (if c = k then A else A.map (·.add k)) (n - k) (c - k)).ownBlock = some g → (Value.slice A n c).ownBlock = some g := by
  have h0 := h
  rcases h with ⟨h, rfl⟩ | ⟨g, o, cap, cur, h, h3, h4, h5, h6, h7⟩
  · injection h with ha hn hc
    subst ha hn hc
    obtain rfl : k = 0 := by simpa using hk
    exact ⟨.inl ⟨rfl, rfl⟩, fun g h => h⟩
  · injection h with ha hn hc
    subst ha hn hc
    by_cases e : c = k
    · rw [if_pos e]
      have : xs.drop k = [] := List.drop_eq_nil_of_le (by omega)
      rw [this]
      refine ⟨.inr ⟨g, o, 0, cur, ?_, h3, Nat.le_refl _, Nat.zero_le _, by omega, fun j u hj => by simp at hj⟩, fun g h => h⟩
      rw [show xs.length - k = 0 from by omega, show c - k = 0 from by omega]; rfl
    · rw [if_neg e]
      have e2 : (some (⟨g, o, none⟩ : Addr)).map (·.add k) = some ⟨g, o + k, none⟩ := by simp [Addr.add_lit]
      rw [e2]
      exact ⟨h0.tail k hk, fun g h => h⟩
/-- The oldest ones are gone. -/
theorem TcA.outs {r : Bool} {w w' : World} {O : Nat → Prop} {B : Nat} {V V' : Value} {X : List Bt} {c : Tc} (h : TcA r w O B V X c) (n : Nat) (hV : OffR w 32 V' (bV (X.drop n))) (ho : ∀ g, V'.ownBlock = some g → V.ownBlock = some g)
    (hcl : Cl w' B 4 (tF r { c with L := c.L.drop n, lo := (c.L.drop n).length } V')) (hk : Keep (fun k => k = B) w w') : TcA r w' O B V' (X.drop n) { c with L := c.L.drop n, lo := (c.L.drop n).length } := by
  have hs : ∀ x ∈ X.drop n, x ∈ X := fun x hx => List.mem_of_mem_drop hx
  exact ⟨h.wf.out n, hcl, hV.block fun g hg hl => hk.block g hl (fun e => (h.rowO g (ho g hg)).2 e), fun g hg => h.rowO g (ho g hg), h.ob, fun x hx => (h.bt x (hs x hx)).block (hk.block _ (h.bt x (hs x hx)).lt (h.bo x (hs x hx)).2.1),
    fun x hx => ⟨(h.bo x (hs x hx)).1, (h.bo x (hs x hx)).2.1, fun e => (h.bo x (hs x hx)).2.2 (ho _ e)⟩, by show (X.drop n).map _ = c.L.drop n; rw [List.map_drop, h.ms], fun k ho => Nat.lt_of_lt_of_le (h.lt k ho) hk.size⟩

/-- What evict leaves: in Z the batches that were removed. -/
def EvP (w : World) (O : Nat → Prop) (B Z n : Nat) (c : Tc) (e : Ending) (w' : World) : Prop := e = .returned (.tuple #[]) ∧ ∃ A, Boxed w' Z 40 (.slice A n n) ∧ LAt (fun k => O k ∧ k ≠ B) w' A (c.L.take n) ∧ TOb false w' O (.pointer (some ⟨B, 0, none⟩)) (some { c with L := c.L.drop n, lo := (c.L.drop n).length }) ∧ Keep (fun k => k = B ∨ k = Z) w w'

theorem newA2 (w : World) (a b : Value) (t : TypeId) : ∃ W0, w.alloc (.cells #[a, b] t) = W0 ∧ Below w.heap.size w W0 ∧ w.heap.size < W0.heap.size ∧ W0.cell? ⟨w.heap.size, 0, none⟩ = some a ∧ W0.cell? ⟨w.heap.size, 1, none⟩ = some b := by
  refine ⟨_, rfl, bnew _ _, by simp, ?_, ?_⟩ <;> go_simp
theorem keep_set {F : Nat → Prop} {w w' : World} (h : Keep F w w') {b i : Nat} (hb : F b) (v : Value) : Keep F w (w'.setCell ⟨b, i, none⟩ v) := h.set (a := ⟨b, i, none⟩) (.inl hb) v
theorem ev_post {w W W1 W2 W3 : World} {O : Nat → Prop} {B Z n : Nat} {V V' u : Value} {X : List Bt} {c : Tc} {A : Option Addr} (h : TcA false w O B V X c) (hZ : Boxed w Z 40 u) (hZO : ¬ O Z) (hb : Below w.heap.size w W)
    (h1 : Below W.heap.size (W.setCell ⟨Z, 0, none⟩ (.slice A n n)) W1) (hA : OffR w 32 (.slice A n n) (bV (X.take n))) (hAo : ∀ g, (Value.slice A n n).ownBlock = some g → V.ownBlock = some g)
    (h2 : W2 = W1.setCell ⟨B, 3, none⟩ V') (hV : OffR w 32 V' (bV (X.drop n))) (ho : ∀ g, V'.ownBlock = some g → V.ownBlock = some g)
    (h3 : W3 = W2.setCell ⟨B, 2, none⟩ (.int .i64 (c.L.drop n).length)) : EvP w O B Z n c (.returned (.tuple #[])) W3 := by
  have hZB : Z ≠ B := fun e => hZO (e ▸ h.ob)
  have hl := h.lt
  have hzl := hZ.lt
  have s1 := hb.size
  have hW : TcA false W O B V X c := h.below hb
  have hWZ : TcA false (W.setCell ⟨Z, 0, none⟩ (.slice A n n)) O B V X c := hW.keep (O1 := fun k => k = Z) (keep_set (F := fun k => k = Z) (Keep.refl _ W) rfl _) (fun k h1 h2 => hZO (h2 ▸ h1))
  have hk1 : Keep (fun k => k = B ∨ k = Z) w W1 := by
    have := ((Keep.of (O := fun k => k = B ∨ k = Z) hb).set (a := ⟨Z, 0, none⟩) (.inl (.inr rfl)) (.slice A n n)).trans (Keep.of (by rw [World.size_setCell]; exact h1))
    exact this
  have hW1 : TcA false W1 O B V X c := hWZ.below (by rw [World.size_setCell]; exact h1)
  have hrow : ∀ {v' xs}, OffR w 32 v' xs → (∀ g, v'.ownBlock = some g → V.ownBlock = some g) → OffR W1 32 v' xs := fun hv hg => hv.block fun g h4 hl => hk1.block g hl (by
    rintro (rfl | rfl)
    · exact (h.rowO _ (hg _ h4)).2 rfl
    · exact hZO (h.rowO _ (hg _ h4)).1)
  have hbox : Boxed W1 Z 40 (.slice A n n) := by
    have hZW : Boxed W Z 40 u := (hb.block _ hzl).trans hZ
    exact (h1.block Z (by omega)).trans (hZW.set (.slice A n n))
  have hcl : Cl W3 B 4 (tF false { c with L := c.L.drop n, lo := (c.L.drop n).length } V') := by
    rw [h3, h2]
    refine ((hW1.hd.set 3 V').set 2 _).congr fun i hi => ?_
    have : i = 0 ∨ i = 1 ∨ i = 2 ∨ i = 3 := by omega
    rcases this with rfl | rfl | rfl | rfl <;> simp [tF]
  have hkB : Keep (fun k => k = B) W1 W3 := by
    rw [h3, h2]
    exact keep_set (F := fun k => k = B) (keep_set (F := fun k => k = B) (Keep.refl _ _) rfl _) rfl _
  have hfin := hW1.outs n (hrow hV ho) ho hcl hkB
  refine ⟨rfl, A, ?_, ?_, ⟨B, V', X.drop n, rfl, hfin⟩, ?_⟩
  · exact (hkB.block Z (Nat.lt_of_lt_of_le hzl hk1.size) hZB).trans hbox
  · have hrowA := hrow hA hAo
    have hl2 := lat_of (P := fun k => O k ∧ k ≠ B) (g := 0) (o := 0) hrowA (fun x hx => by
      subst hx
      exact h.rowO _ (hAo _ rfl)) (fun x hx => ⟨hW1.bt x (List.mem_of_mem_take hx), (h.bo x (List.mem_of_mem_take hx)).1, (h.bo x (List.mem_of_mem_take hx)).2.1⟩)
    rw [List.map_take, h.ms] at hl2
    exact hl2.keep hkB (fun k h1 h2 => h1.2 h2)
  · exact hk1.trans (hkB.mono fun k _ e => .inl (.inl e))

set_option maxHeartbeats 400000 in
theorem coldest1_any (w : World) (Z : Nat) (A : Option Addr) (n c : Nat) (u : Value) (hZ : Boxed w Z 40 u) : Calls Try.prog 43 #[.slice A n c, .pointer (some ⟨Z, 0, none⟩)] w fun e w' => e = .returned (.tuple #[]) ∧ w' = w.setCell ⟨Z, 0, none⟩ (.slice A n c) := by
  have c0 := hZ.cell
  have f0 := hZ.frozen
  go_enter Try.func43, Try.ntmps43
  go_wp2
  go_end0
  exact ⟨rfl, rfl⟩

set_option maxRecDepth 100000 in
set_option maxHeartbeats 2000000 in
theorem evict_any {w : World} {O : Nat → Prop} {B Z n : Nat} {V : Value} {X : List Bt} {c : Tc} {u : Value} (h : TcA false w O B V X c) (hn : n ≤ X.length) (hZ : Boxed w Z 40 u) (hZO : ¬ O Z) :
    Calls Try.prog 42 #[.pointer (some ⟨B, 0, none⟩), .agg #[.int .i64 n, .func (.func 43) #[] #[.pointer (some ⟨Z, 0, none⟩)]]] w (EvP w O B Z n c) := by
  obtain ⟨A, cap, rfl, h1, h2⟩ := h.form
  have hN8 := h.n8
  obtain ⟨W0, hW0, hb0, hs0, x0, x1⟩ := newA2 w (.int .i64 n) (.func (.func 43) #[] #[.pointer (some ⟨Z, 0, none⟩)]) 67
  have h0 := h.below hb0
  have hZ0 : Boxed W0 Z 40 u := (hb0.block _ hZ.lt).trans hZ
  have c3 := h0.pc.2
  have hmx : Try.prog.follows .mixedOrders = true := by kernel_rfl
  have HE := Lib.hid (coldest1_any W0.drew Z A n n u hZ0)
  obtain ⟨N, hN⟩ : ∃ N, X.length = N := ⟨_, rfl⟩
  have HN := Lib.hid hN
  have HZ := Lib.hid (And.intro hZ hZO)
  have HB := Lib.hid hb0
  have HA := Lib.hid (h.row.cut n (by rw [bV_len]; exact hn) n (Nat.le_refl _) (by omega))
  have HV := Lib.hid (h.row.from n (by rw [bV_len]; exact hn))
  rw [bV_take] at HA
  rw [bV_drop] at HV
  rw [hN] at h1 c3 hn hN8 HV h
  have HH := Lib.hid h
  have hs1 := sl_head A N cap n (by omega)
  have hs2 := sl_from A N cap n hn
  generalize (if cap = n then A else A.map (·.add n)) = A2 at *
  have HL := Lib.hid (show (N - n : Nat) = (c.L.drop n).length from by rw [List.length_drop, ← h.len, hN])
  obtain ⟨D, hD⟩ : ∃ D, N - n = D := ⟨_, rfl⟩
  rw [hD] at hs2 HV HL
  have hp : ∀ w1 : World, w1 = W0.drew.setCell ⟨Z, 0, none⟩ (.slice A n n) → w1.cell? ⟨B, 3, none⟩ = some (.slice A N cap) ∧ w1.cell? ⟨B, 2, none⟩ = some (.int .i64 c.lo) ∧ w1.frozen? ⟨B, 3, none⟩ = false ∧ w1.frozen? ⟨B, 2, none⟩ = false ∧ w1.cell? ⟨w.heap.size, 0, none⟩ = some (.int .i64 n) := fun w1 e => by
    subst e
    have hZB : Z ≠ B := fun e => hZO (e ▸ h.ob)
    have hcl := h0.hd.of_block (w' := W0.drew.setCell ⟨Z, 0, none⟩ (.slice A n n)) (Below.heap_setCell _ _ _ _ (fun e => hZB e.symm))
    exact ⟨by have := hcl.cell 3 (by omega); rw [← HN.out]; exact this, hcl.cell 2 (by omega), hcl.free 3 (by omega), hcl.free 2 (by omega), by
      rw [World.cell?_of_block (a := ⟨w.heap.size, 0, none⟩) (Below.heap_setCell _ _ _ _ (fun e => by have := hZ.lt; have e : w.heap.size = Z := e; omega))]; exact x0⟩
  have HP := Lib.hid hp
  clear h hZ hZO hb0 h0 hZ0 hN hD hp
  go_enter Try.func42, Try.ntmps42
  go_wp2
  go_still_tail 11, hmx
  change wpList _ _ _ _ _ W0.drew
  go_wp2_with (go_at_call 43; refine HE.out.mono ?_; rintro e w1 ⟨rfl, hw1⟩; have HW1 := Lib.hid hw1; clear hw1; obtain ⟨b3, b2, f3, f2, y0⟩ := HP.out _ HW1.out; clear c3 x0 x1 hs1 hs0 hW0)
  go_region
  all_goals
    go_wp2
    go_end0
    refine ev_post (W := W0.drew) (W1 := w1.drew) (W2 := (w1.setCell ⟨B, 3, none⟩ (.slice A2 D (cap - n))).drew) HH.out HZ.out.1 HZ.out.2 (belowN HB.out 1) ?_ HA.out (fun g hg => by cases A with | none => cases hg | some a => exact hg) rfl HV.out.1 HV.out.2 (by rw [HL.out]; rfl)
    rw [HW1.out]
    exact belowN (Below.refl _ _) 1

theorem binfoLL : (Try.prog.info? 40).map (fun i => (i.zero, i.size, i.bytes)) = some (some (.slice none 0 0), 1, 24) := by kernel_rfl

theorem isB_eq {B k : Nat} (h : isB (.pointer (some ⟨B, 0, none⟩)) k) : k = B := by
  unfold isB at h
  cases h
  rfl
/-- What Tick and Drain return and leave. -/
def OutP (r : Bool) (w : World) (O : Nat → Prop) (v : Value) (n : Nat) (om : Option Tc) (e : Ending) (w' : World) : Prop := ∃ A c', e = .returned (.slice A (outV n om).length c') ∧ (r = false → c' = (outV n om).length) ∧ LAt (fun k => Ext O w w' k ∧ ¬ isB v k) w' A (outV n om) ∧ TMut r (isB v) w O v (outD n om) w'

set_option maxRecDepth 100000 in
set_option maxHeartbeats 2000000 in
theorem oldest_any {w : World} {O : Nat → Prop} {B n : Nat} {V : Value} {X : List Bt} {c : Tc} (h : TcA false w O B V X c) (hn : n ≤ c.L.length) :
    Calls Try.prog 39 #[.pointer (some ⟨B, 0, none⟩), .int .i64 n] w (OutP false w O (.pointer (some ⟨B, 0, none⟩)) n (some c)) := by
  obtain ⟨W0, hW0⟩ : ∃ W0, w.alloc (.cells #[.slice none 0 0] 40) = W0 := ⟨_, rfl⟩
  have hb0 : Below w.heap.size w W0 := by rw [← hW0]; exact bnew _ _
  have hZ : Boxed W0 w.heap.size 40 (.slice none 0 0) := by rw [← hW0]; exact Boxed.new _ _ _
  have HE := Lib.hid (evict_any (h.below hb0) (by rw [h.len]; exact hn) hZ (fun ho => absurd (h.lt _ ho) (Nat.lt_irrefl _)))
  have HB := Lib.hid hb0
  have HH := Lib.hid h
  have HZ := Lib.hid hZ
  clear h hb0 hZ
  go_enter Try.func39, Try.ntmps39
  go_wp2_with (go_at_call 42; refine HE.out.mono ?_; rintro e w1 ⟨rfl, A, hbx, hl, ho, hk⟩; have hcz := hbx.cell; have HP := Lib.hid (And.intro hl (And.intro ho hk)); clear hbx hl ho hk)
  go_ret
  have hl : (outV n (some c)).length = n := by show (c.L.take n).length = n; rw [List.length_take]; have := hn; omega
  have hs := HB.out.size
  have hs2 := HP.out.2.2.size
  have hlt := HH.out.lt
  refine ⟨A, n, (by rw [hl]; rfl), fun _ => hl.symm, HP.out.1.mono fun k _ hk => ⟨.inl hk.1, fun e => hk.2 (isB_eq e)⟩, HP.out.2.1.mono (fun k hk => .inl hk) (Ext.lt hlt (Nat.le_trans hs hs2)), (Keep.of HB.out).trans (HP.out.2.2.mono fun k _ hk => ?_)⟩
  rcases hk with rfl | rfl
  · exact .inl rfl
  · exact .inr ⟨Nat.le_refl _, by have := HZ.out.lt; exact this⟩

set_option maxHeartbeats 1000000 in
theorem cTick_any {O : Nat → Prop} {v : Value} {om : Option Tc} {w : World} (h : TOb false w O v om) : Calls Try.prog 22 #[v] w (OutP false w O v (half om) om) := by
  cases om with
  | none =>
    have HM := Lib.hid (cmade_no h.1)
    have HH := Lib.hid h
    clear h
    go_enter Try.func22, Try.ntmps22
    go_wp2_with (go_at_call 29; refine HM.out.mono ?_; rintro e w1 ⟨rfl, rfl⟩)
    go_ret
    exact ⟨none, 0, rfl, fun _ => rfl, LAt.nil _ _ _, TMut.same HH.out (Below.refl _ _)⟩
  | some c =>
    obtain ⟨B, V, X, rfl, h⟩ := h
    have HM := Lib.hid (cmade_any h)
    have HO := Lib.hid (oldest_any h (half_le h.wf))
    have c2 := h.pc.1
    have h8 : c.lo ≤ 8 := by have := h.wf.low; have := h.wf.len; have := h.wf.r2; omega
    rw [show half (some c) = (c.lo + 1) / 2 from rfl]
    obtain ⟨q, hq⟩ : ∃ q, (c.lo + 1) / 2 = q := ⟨_, rfl⟩
    rw [hq] at HO ⊢
    generalize c.lo = lo at *
    obtain ⟨f1, f2⟩ := w64 ((lo : Int) + 1) (by omega)
    have e1 : ((lo : Int) + 1).tdiv 2 = (q : Int) := by rw [Int.tdiv_eq_ediv_of_nonneg (by omega)]; omega
    have e1' : ((lo : Int) + 1) / 2 = (q : Int) := by omega
    obtain ⟨f3, f4⟩ := w64 (q : Int) (by omega)
    clear h hq
    go_enter Try.func22, Try.ntmps22
    go_wp2_with (first
      | (go_at_call 29; refine HM.out.mono ?_; rintro e w1 ⟨rfl, rfl⟩)
      | (go_at_call 39; refine HO.out.mono ?_; rintro e w1 ⟨A, c5, rfl, h5, hl, hm⟩; have HP := Lib.hid (And.intro hl (And.intro hm h5)); clear hl hm h5))
    go_ret
    exact ⟨A, c5, rfl, fun _ => HP.out.2.2 trivial, HP.out.1, HP.out.2.1⟩

set_option maxHeartbeats 1000000 in
theorem cDrain_any {O : Nat → Prop} {v : Value} {om : Option Tc} {w : World} (h : TOb false w O v om) : Calls Try.prog 23 #[v] w (OutP false w O v (lenT om) om) := by
  cases om with
  | none =>
    have HM := Lib.hid (cmade_no h.1)
    have HH := Lib.hid h
    clear h
    go_enter Try.func23, Try.ntmps23
    go_wp2_with (go_at_call 29; refine HM.out.mono ?_; rintro e w1 ⟨rfl, rfl⟩)
    go_ret
    exact ⟨none, 0, rfl, fun _ => rfl, LAt.nil _ _ _, TMut.same HH.out (Below.refl _ _)⟩
  | some c =>
    obtain ⟨B, V, X, rfl, h⟩ := h
    have HM := Lib.hid (cmade_any h)
    have HO := Lib.hid (oldest_any h (Nat.le_refl _))
    obtain ⟨A, cap, rfl, h1, h2⟩ := h.form
    have c3 := h.pc.2
    rw [h.len] at c3
    rw [show lenT (some c) = c.L.length from rfl]
    generalize c.L.length = q at *
    clear h h1 h2
    go_enter Try.func23, Try.ntmps23
    go_wp2_with (first
      | (go_at_call 29; refine HM.out.mono ?_; rintro e w1 ⟨rfl, rfl⟩)
      | (go_at_call 39; refine HO.out.mono ?_; rintro e w1 ⟨A, c5, rfl, h5, hl, hm⟩; have HP := Lib.hid (And.intro hl (And.intro hm h5)); clear hl hm h5))
    go_ret
    exact ⟨_, c5, rfl, fun _ => HP.out.2.2 trivial, HP.out.1, HP.out.2.1⟩
end Go.Proofs.Ytaefhhkdfepgmaa
