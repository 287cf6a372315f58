/- The statements' helpers: a cache of one's own; do, made, batch. -/
import Derived.Test.YtaefhhkdfepgmaaFa
namespace Go.Proofs.Ytaefhhkdfepgmaa
open Go.RowKit Go.Lib

theorem TOb.isB {r : Bool} {w : World} {O : Nat → Prop} {v : Value} {om : Option Tc} (h : TOb r w O v om) : ∀ k, isB v k → O k := fun k hk => by
  cases om with
  | none =>
    rcases h.1 with h1 | ⟨B, h1, h2, _⟩
    · unfold Proofs.Ytaefhhkdfepgmaa.isB at hk; rw [h1] at hk; cases hk
    · unfold Proofs.Ytaefhhkdfepgmaa.isB at hk; rw [h1] at hk; cases hk; exact h2
  | some c =>
    obtain ⟨B, V, X, rfl, h⟩ := h
    unfold Proofs.Ytaefhhkdfepgmaa.isB at hk; cases hk; exact h.ob
/-- A cache of one's own, since w0. -/
structure Own (r : Bool) (w0 w : World) (v : Value) (om : Option Tc) (O : Nat → Prop) : Prop where
  ob : TOb r w O v om
  nw : ∀ k, O k → w0.heap.size ≤ k
  bel : Below w0.heap.size w0 w
section
variable {r ra rb : Bool} {w00 w0 w w' : World} {v a b : Value} {om om' oa oa' ob ob' : Option Tc} {F O O1 O2 : Nat → Prop}
theorem Own.mut (h : Own r w0 w v om O) (hM : TMut r F w O v om' w') (hF : ∀ k, F k → O k) : Own r w0 w' v om' (Ext O w w') :=
  ⟨hM.1, fun k hk => by rcases hk with hk | hk; exact h.nw k hk; exact Nat.le_trans h.bel.size hk.1, h.bel.trans (hM.2.below h.bel.size (fun k hk => h.nw k (hF k hk)))⟩
theorem Own.below (h : Own r w0 w v om O) (hb : Below w.heap.size w w') : Own r w0 w' v om O := ⟨h.ob.below hb, h.nw, btr h.bel hb (Nat.le_refl _)⟩
theorem Own.later (h : Own r w0 w v om O) (hb : Below w00.heap.size w00 w0) : Own r w00 w v om O := ⟨h.ob, fun k hk => Nat.le_trans hb.size (h.nw k hk), btr hb h.bel (Nat.le_refl _)⟩
theorem Own.new (h : TOb r w (Nw w0 w) v om) (hb : Below w0.heap.size w0 w) : Own r w0 w v om (Nw w0 w) := ⟨h, fun _ hk => hk.1, hb⟩
/-- Two caches of one's own, apart. -/
structure Two (ra rb : Bool) (w0 w : World) (a b : Value) (oa ob : Option Tc) (O1 O2 : Nat → Prop) : Prop where
  a : Own ra w0 w a oa O1
  b : Own rb w0 w b ob O2
  d : ∀ k, O1 k → O2 k → False
theorem Two.below (h : Two ra rb w0 w a b oa ob O1 O2) (hb : Below w.heap.size w w') : Two ra rb w0 w' a b oa ob O1 O2 := ⟨h.a.below hb, h.b.below hb, h.d⟩
theorem Two.swap (h : Two ra rb w0 w a b oa ob O1 O2) : Two rb ra w0 w b a ob oa O2 O1 := ⟨h.b, h.a, fun k x y => h.d k y x⟩
theorem Two.left (h : Two ra rb w0 w a b oa ob O1 O2) (hM : TMut ra F w O1 a oa' w') (hF : ∀ k, F k → O1 k) : Two ra rb w0 w' a b oa' ob (Ext O1 w w') O2 :=
  ⟨h.a.mut hM hF, ⟨h.b.ob.keep hM.2 (fun k h2 h1 => h.d k (hF k h1) h2), h.b.nw, (h.a.mut hM hF).bel⟩, fun k h1 h2 => by
    rcases h1 with h1 | h1
    · exact h.d k h1 h2
    · have := h.b.ob.lt k h2; omega⟩
theorem Two.right (h : Two ra rb w0 w a b oa ob O1 O2) (hM : TMut rb F w O2 b ob' w') (hF : ∀ k, F k → O2 k) : Two ra rb w0 w' a b oa ob' O1 (Ext O2 w w') := (h.swap.left hM hF).swap
theorem Two.of (h1 : Own ra w0 w a oa O1) (h2 : Own rb w w' b ob O2) : Two ra rb w0 w' a b oa ob O1 O2 :=
  ⟨h1.below h2.bel, h2.later h1.bel, fun k h3 h4 => by have := h1.ob.lt k h3; have := h2.nw k h4; omega⟩
end

theorem newA2' (w : World) (a b : Value) (t : TypeId) : ∃ W0, w.alloc (.cells #[a, b] t) = W0 ∧ Below w.heap.size w W0 ∧ w.heap.size < W0.heap.size ∧ W0.cell? ⟨w.heap.size, 0, none⟩ = some a ∧ W0.cell? ⟨w.heap.size, 1, none⟩ = some b := newA2 w a b t
theorem TMut.after {r : Bool} {F : Nat → Prop} {w w1 w2 : World} {O : Nat → Prop} {v : Value} {om : Option Tc} (hb : Below w.heap.size w w1) (hlt : ∀ k, O k → k < w.heap.size) (hF : ∀ k, F k → O k) (h : TMut r F w1 O v om w2) : TMut r O w O v om w2 := by
  have s1 := hb.size
  have s2 := h.2.size
  refine ⟨h.1.mono (fun k hk => ?_) (fun k hk => ?_), (Keep.of hb).trans (h.2.mono fun k _ hk => .inl (hF k hk))⟩
  · rcases hk with hk | hk
    · exact .inl hk
    · exact .inr (by omega)
  · rcases hk with hk | hk
    · exact Nat.lt_of_lt_of_le (hlt k hk) (Nat.le_trans s1 s2)
    · exact hk.2

set_option maxRecDepth 100000 in
set_option maxHeartbeats 4000000 in
theorem do_any {O : Nat → Prop} {v u : Value} {om : Option Tc} {w : World} (x : Ak) (h : TOb false w O v om) {N0 : Nat} (hN0 : N0 ≤ w.heap.size) (hx : AkV w N0 x u) (h60 : x.l.length ≤ 60) :
    Calls Try.prog 26 #[v, .agg #[.int .i64 x.k, u]] w fun e w' => e = .returned (.tuple #[]) ∧ TMut false O w O v (dkD om x) w' := by
  obtain ⟨W0, hW, hb0, hz, c0, c1⟩ := newA2 w (.int .i64 x.k) u 34
  have h0 := h.below hb0
  obtain ⟨A, cap, rfl, hzz⟩ := (hx.below (hb0.mono hN0)).v
  have HB := Lib.hid hb0
  have HLT := Lib.hid h.lt
  have HISB := Lib.hid h0.isB
  have HS := Lib.hid h0
  clear h hb0 hx
  obtain ⟨k, l⟩ := x
  dsimp only at *
  have hk : k = 0 ∨ k = 1 ∨ k = 2 ∨ k = 3 ∨ ¬ (k = 0 ∨ k = 1 ∨ k = 2 ∨ k = 3) := by omega
  rcases hk with rfl | rfl | rfl | rfl | hk
  · have HC := Lib.hid (cInsert_any h0 A cap l h60 hzz)
    rw [show dkD om ⟨0, l⟩ = insD om l from rfl]
    clear h0 hzz
    generalize l.length = ll at *
    go_enter Try.func26, Try.ntmps26
    go_wp2_with (go_at_call 19; refine HC.out.mono ?_; rintro e w1 ⟨rfl, hM, _⟩; have HM := Lib.hid hM; clear hM)
    go_end0
    exact ⟨rfl, TMut.after HB.out HLT.out (fun _ h => h) HM.out⟩
  · have HC := Lib.hid (cRemove_any h0)
    rw [show dkD om ⟨1, l⟩ = rmD om from rfl]
    clear h0 hzz
    generalize l.length = ll at *
    go_enter Try.func26, Try.ntmps26
    go_wp2_with (go_at_call 20; refine HC.out.mono ?_; rintro e w1 ⟨A1, c1', rfl, _, hM⟩; have HM := Lib.hid hM; clear hM)
    go_end0
    exact ⟨rfl, TMut.after HB.out HLT.out HISB.out HM.out⟩
  · have HC := Lib.hid (cTick_any h0)
    rw [show dkD om ⟨2, l⟩ = outD (half om) om from rfl]
    clear h0 hzz
    generalize l.length = ll at *
    go_enter Try.func26, Try.ntmps26
    go_wp2_with (go_at_call 22; refine HC.out.mono ?_; rintro e w1 ⟨A1, c1', rfl, _, _, hM⟩; have HM := Lib.hid hM; clear hM)
    go_end0
    exact ⟨rfl, TMut.after HB.out HLT.out HISB.out HM.out⟩
  · have HC := Lib.hid (cDrain_any h0)
    rw [show dkD om ⟨3, l⟩ = outD (lenT om) om from rfl]
    clear h0 hzz
    generalize l.length = ll at *
    go_enter Try.func26, Try.ntmps26
    go_wp2_with (go_at_call 23; refine HC.out.mono ?_; rintro e w1 ⟨A1, c1', rfl, _, _, hM⟩; have HM := Lib.hid hM; clear hM)
    go_end0
    exact ⟨rfl, TMut.after HB.out HLT.out HISB.out HM.out⟩
  · rw [show dkD om ⟨k, l⟩ = om from by unfold dkD; dsimp only; rw [if_neg (by omega), if_neg (by omega), if_neg (by omega), if_neg (by omega)]]
    have k0 : (k == 0) = false := by simp; omega
    have k1 : (k == 1) = false := by simp; omega
    have k2 : (k == 2) = false := by simp; omega
    have k3 : (k == 3) = false := by simp; omega
    clear hk h0 hzz
    generalize l.length = ll at *
    go_enter Try.func26, Try.ntmps26
    go_wp2_with fail
    go_end0
    exact ⟨rfl, TMut.after HB.out HLT.out (fun _ h => h) (TMut.same HS.out (Below.refl _ _))⟩

def runO (om : Option Tc) (l : List Ak) : Option Tc := l.foldl dkD om
theorem runO_take {om : Option Tc} {l : List Ak} {k : Nat} {x : Ak} (h : l[k]? = some x) : runO om (l.take (k + 1)) = dkD (runO om (l.take k)) x := by
  unfold runO
  rw [List.take_add_one, h, List.foldl_append]; rfl
theorem insD_some (c : Tc) (z : List Int) : ∃ c', insD (some c) z = some c' ∧ c'.b = c.b ∧ c'.r = c.r := by
  unfold insD
  dsimp only
  split
  · exact ⟨_, rfl, rfl, rfl⟩
  · exact ⟨_, rfl, rfl, rfl⟩
theorem dkD_some (c : Tc) (x : Ak) : ∃ c', dkD (some c) x = some c' ∧ c'.b = c.b ∧ c'.r = c.r := by
  unfold dkD
  split
  · exact insD_some c x.l
  · split
    · exact ⟨_, rfl, rfl, rfl⟩
    · split
      · exact ⟨_, rfl, rfl, rfl⟩
      · split
        · exact ⟨_, rfl, rfl, rfl⟩
        · exact ⟨_, rfl, rfl, rfl⟩
theorem runO_some (l : List Ak) : ∀ c : Tc, ∃ c', runO (some c) l = some c' := by
  induction l with
  | nil => intro c; exact ⟨c, rfl⟩
  | cons x t ih =>
    intro c
    obtain ⟨c1, h1, _⟩ := dkD_some c x
    obtain ⟨c2, h2⟩ := ih c1
    exact ⟨c2, by show runO (dkD (some c) x) t = _; rw [h1, h2]⟩

/-- What made leaves. -/
def MadeP (w : World) (om : Option Tc) (e : Ending) (w' : World) : Prop := ∃ v O, e = .returned (.pointer v) ∧ Own false w w' (.pointer v) om O ∧ (om = none ↔ v = none)
def madeO (b r : Int) (l : List Ak) : Option Tc := if okN b r = true then runO (newT b r) l else none
set_option maxRecDepth 100000 in
set_option maxHeartbeats 2000000 in
theorem made_law (b r : Int) (A : Option Addr) (cp : Nat) (l : List Ak) (w : World) (hl : l.length ≤ 60) (h60 : ∀ (k : Nat) (x : Ak), l[k]? = some x → x.l.length ≤ 60) {N0 : Nat} (hN0 : N0 ≤ w.heap.size) (hA : ActsAt w N0 A l) :
    Calls Try.prog 17 #[.int .i64 b, .int .i64 r, .slice A l.length cp] w (MadeP w (madeO b r l)) := by
  have HN := Lib.hid (cNew_any b r w)
  have HA := Lib.hid hA
  have H60 := Lib.hid h60
  have HN0 := Lib.hid hN0
  obtain ⟨L, hL⟩ : ∃ L, l.length = L := ⟨_, rfl⟩
  have HL := Lib.hid hL
  rw [hL] at hl ⊢
  clear hA hL h60 hN0
  by_cases hok : okN b r = true
  · have e1 : newE b r = 0 := if_pos hok
    have e2 : newT b r = some ⟨b.toNat, r.toNat, 0, []⟩ := if_pos hok
    have e3 : madeO b r l = runO (some ⟨b.toNat, r.toNat, 0, []⟩) l := by unfold madeO; rw [if_pos hok, e2]
    rw [e1, e2] at HN
    rw [e3]
    generalize (⟨b.toNat, r.toNat, 0, []⟩ : Tc) = m0 at *
    clear hok e1 e2 e3
    go_enter Try.func17, Try.ntmps17
    go_wp2_with (go_at_call 11; refine HN.out.mono ?_; rintro e w1 ⟨v, rfl, hob, hv, hb1⟩; have HO1 := Lib.hid (Own.new hob hb1); obtain ⟨B, hB⟩ := hob.ptr; cases hB; clear hob hb1 hv)
    go_loopw [9] (fun i wr => ∃ (k : Nat) (O : Nat → Prop), k ≤ L ∧ i = .int .i64 k ∧ Own false w wr (.pointer (some ⟨B, 0, none⟩)) (runO (some m0) (l.take k)) O) (fun i _ => L - (intOf i).toNat)
    case atStart => exact ⟨0, _, by omega, rfl, HO1.out⟩
    case round =>
      clear HO1
      obtain ⟨k, O, hk, rfl, hO⟩ := hrel
      have HO := Lib.hid hO
      by_cases hlt : k < L
      · obtain ⟨x, hx⟩ : ∃ x, l[k]? = some x := ⟨_, List.getElem?_eq_getElem (by have := HL.out; omega)⟩
        have hbw := hO.bel.mono HN0.out
        obtain ⟨bb, o, u, rfl, hB, g1, g2, hv⟩ := (HA.out.below hbw) k x hx
        have HD := Lib.hid (do_any x hO.ob (Nat.le_trans HN0.out hO.bel.size) hv (H60.out k x hx))
        have HR := Lib.hid (runO_take (om := some m0) hx)
        clear hO hbw hv hx
        go_wp2_with (go_at_call 26; refine HD.out.mono ?_; rintro e w2 ⟨rfl, hM⟩; have HM := Lib.hid (HO.out.mut hM (fun _ h => h)); clear hM)
        go_roundw
        case rel => exact ⟨k + 1, _, by omega, by go_num, by rw [HR.out]; exact HM.out⟩
        case measure => simp [intOf]; omega
      · obtain rfl : k = L := by omega
        have e : l.take k = l := List.take_of_length_le (by rw [HL.out]; exact Nat.le_refl _)
        rw [e] at HO
        clear hO e
        go_wp2_with fail
        go_ret
        obtain ⟨c', hc'⟩ := runO_some l m0
        exact ⟨_, O, rfl, HO.out, ⟨(fun h => by rw [hc'] at h; cases h), (fun h => nomatch h)⟩⟩
  · have e1 : newE b r = 1 := if_neg hok
    have e2 : newT b r = none := if_neg hok
    have e3 : madeO b r l = none := if_neg hok
    rw [e1, e2] at HN
    rw [e3]
    clear hok e1 e2 e3
    go_enter Try.func17, Try.ntmps17
    go_wp2_with (go_at_call 11; refine HN.out.mono ?_; rintro e w1 ⟨v, rfl, hob, hv, hb1⟩; have HO1 := Lib.hid (Own.new hob hb1); clear hob hb1 hv)
    go_ret
    exact ⟨none, _, rfl, ⟨⟨.inl rfl, fun k hk => HO1.out.ob.lt k hk⟩, HO1.out.nw, HO1.out.bel⟩, ⟨fun _ => rfl, fun _ => rfl⟩⟩
theorem MadeP.no {w w' : World} {e : Ending} (h : MadeP w none e w') : e = .returned (.pointer none) ∧ Below w.heap.size w w' := by
  obtain ⟨v, O, he, ho, hv⟩ := h
  obtain rfl := hv.1 rfl
  exact ⟨he, ho.bel⟩
theorem MadeP.yes {w w' : World} {e : Ending} {c : Tc} (h : MadeP w (some c) e w') : ∃ B O, e = .returned (.pointer (some ⟨B, 0, none⟩)) ∧ Own false w w' (.pointer (some ⟨B, 0, none⟩)) (some c) O := by
  obtain ⟨v, O, he, ho, hv⟩ := h
  obtain ⟨B, hB⟩ := ho.ob.ptr
  rw [hB] at he ho
  exact ⟨B, O, he, ho⟩
end Go.Proofs.Ytaefhhkdfepgmaa
