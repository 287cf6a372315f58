/- The statements' helpers: made; what calls keep. -/
import Derived.Test.YticcjelaenhigaaFb
namespace Go.Proofs.Yticcjelaenhigaa
open Go.RowKit Go.Lib

def runO (om : Option Tc) (l : List Ak) : Option Tc := l.foldl dkD om
theorem runO_take {om : Option Tc} {l : List Ak} {k : Nat} {x : Ak} (h : l[k]? = some x) : runO om (l.take (k + 1)) = dkD (runO om (l.take k)) x := by
  unfold runO
  rw [List.take_add_one, h, List.foldl_append]; rfl
/-- A cache of the same classes. -/
structure Kin (c c' : Tc) : Prop where
  g : c'.g = c.g
  n : c'.K.length = c.K.length
  k : ∀ (i : Nat) (k : Kl), c.K[i]? = some k → ∃ k' : Kl, c'.K[i]? = some k' ∧ k'.s = k.s ∧ k'.b = k.b
theorem Kin.refl (c : Tc) : Kin c c := ⟨rfl, rfl, fun _ k h => ⟨k, h, rfl, rfl⟩⟩
theorem Kin.trans {a b c : Tc} (h : Kin a b) (h2 : Kin b c) : Kin a c := ⟨h2.g.trans h.g, h2.n.trans h.n, fun i k hk => by
  obtain ⟨k1, e1, e2, e3⟩ := h.k i k hk
  obtain ⟨k2, f1, f2, f3⟩ := h2.k i k1 e1
  exact ⟨k2, f1, f2.trans e2, f3.trans e3⟩⟩
theorem kin_set {c : Tc} {n : Nat} {k0 k' : Kl} (h0 : c.K[n]? = some k0) (hs : k'.s = k0.s) (hb : k'.b = k0.b) : Kin c { c with K := c.K.set n k' } := ⟨rfl, List.length_set, fun i k hk => by
  show ∃ q : Kl, (c.K.set n k')[i]? = some q ∧ q.s = k.s ∧ q.b = k.b
  rw [List.getElem?_set]
  have hl := (List.getElem?_eq_some_iff.1 hk).1
  by_cases e : n = i
  · subst e
    rw [if_pos rfl, if_pos hl]
    rw [h0] at hk
    injection hk with hk
    subst hk
    exact ⟨k', rfl, hs, hb⟩
  · rw [if_neg e]
    exact ⟨k, hk, rfl, rfl⟩⟩
theorem kin_map {c : Tc} {f : Kl → Kl} (hs : ∀ k, (f k).s = k.s) (hb : ∀ k, (f k).b = k.b) : Kin c { c with K := c.K.map f } := ⟨rfl, List.length_map _, fun i k hk => ⟨f k, by show (c.K.map f)[i]? = _; rw [List.getElem?_map, hk]; rfl, hs k, hb k⟩⟩
theorem atK_some {c : Tc} {x : Int} {k : Kl} (h : atK (some c) x = some k) : 0 ≤ x ∧ c.K[x.toNat]? = some k := by
  unfold atK at h
  dsimp only at h
  split at h
  · exact ⟨by assumption, h⟩
  · cases h
theorem kin_setK {c : Tc} {x : Int} {k k' : Kl} (h : atK (some c) x = some k) (hs : k'.s = k.s) (hb : k'.b = k.b) : ∃ c', setK (some c) x k' = some c' ∧ Kin c c' := ⟨_, rfl, kin_set (atK_some h).2 hs hb⟩
theorem missK_sb (k : Kl) : (missK k).s = k.s ∧ (missK k).b = k.b := ⟨rfl, rfl⟩
theorem ptK_sb (k : Kl) (a : Int) : (ptK k a).s = k.s ∧ (ptK k a).b = k.b := by unfold ptK; split <;> exact ⟨rfl, rfl⟩
theorem dkD_some (c : Tc) (x : Ak) : ∃ c', dkD (some c) x = some c' ∧ Kin c c' := by
  have here : ∃ c', (some c : Option Tc) = some c' ∧ Kin c c' := ⟨c, rfl, Kin.refl c⟩
  unfold dkD
  split
  · unfold tkD
    cases hk : atK (some c) x.c with
    | none => exact here
    | some k =>
      dsimp only
      split
      · exact kin_setK hk rfl rfl
      · exact kin_setK hk rfl rfl
  · split
    · exact here
    · split
      · unfold flD
        cases hk : atK (some c) x.c with
        | none => exact here
        | some k =>
          dsimp only
          split
          · exact here
          · exact kin_setK hk rfl rfl
      · split
        · unfold ptD
          cases hk : atK (some c) x.c with
          | none => exact here
          | some k =>
            dsimp only
            split
            · exact here
            · exact kin_setK hk (ptK_sb k x.a).1 (ptK_sb k x.a).2
        · split
          · exact ⟨_, rfl, kin_map (fun _ => rfl) (fun _ => rfl)⟩
          · split
            · exact ⟨_, rfl, kin_map (fun _ => rfl) (fun _ => rfl)⟩
            · exact here
theorem dkD_none (x : Ak) : dkD none x = none := by
  unfold dkD
  repeat' split
  all_goals rfl
theorem runO_some (l : List Ak) : ∀ c : Tc, ∃ c', runO (some c) l = some c' ∧ Kin c c' := by
  induction l with
  | nil => intro c; exact ⟨c, rfl, Kin.refl c⟩
  | cons x t ih =>
    intro c
    obtain ⟨c1, h1, k1⟩ := dkD_some c x
    obtain ⟨c2, h2, k2⟩ := ih c1
    exact ⟨c2, by show runO (dkD (some c) x) t = _; rw [h1, h2], k1.trans k2⟩
theorem runO_none (l : List Ak) : runO none l = none := by
  induction l with
  | nil => rfl
  | cons x t ih => show runO (dkD none x) t = none; rw [dkD_none, ih]

/-- What made leaves. -/
def MadeP (w : World) (om : Option Tc) (e : Ending) (w' : World) : Prop := ∃ v O, e = .returned (.pointer v) ∧ Own false w w' (.pointer v) om O ∧ (om = none ↔ v = none)
def madeO (t : List Cs) (g : Int) (l : List Ak) : Option Tc := runO (newT t g) l
theorem MadeP.no {w w' : World} {e : Ending} (h : MadeP w none e w') : e = .returned (.pointer none) ∧ Below w.heap.size w w' := by
  obtain ⟨v, O, he, ho, hv⟩ := h
  obtain rfl := hv.1 rfl
  exact ⟨he, ho.bel⟩
theorem MadeP.yes {w w' : World} {e : Ending} {c : Tc} (h : MadeP w (some c) e w') : ∃ B O, e = .returned (.pointer (some ⟨B, 0, none⟩)) ∧ Own false w w' (.pointer (some ⟨B, 0, none⟩)) (some c) O := by
  obtain ⟨v, O, he, ho, hv⟩ := h
  obtain ⟨B, hB⟩ := ho.ob.ptr
  rw [hB] at he ho
  exact ⟨B, O, he, ho⟩
theorem newT_none {t : List Cs} {g : Int} (h : ¬ (okT t = true ∧ okB g = true)) : newT t g = none := if_neg h
theorem newE_eq (t : List Cs) (g : Int) : (∃ c, newT t g = some c ∧ newE t g = 0) ∨ (newT t g = none ∧ ∃ er, newE t g = er ∧ (er == 0) = false ∧ (er != 0) = true) := by
  unfold newT newE
  by_cases h1 : okT t = true
  · by_cases h2 : okB g = true
    · exact .inl ⟨_, if_pos ⟨h1, h2⟩, by rw [if_pos h1, if_pos h2]⟩
    · exact .inr ⟨if_neg (fun h => h2 h.2), 1, by rw [if_pos h1, if_neg h2], by decide, by decide⟩
  · exact .inr ⟨if_neg (fun h => h1 h.1), 2, by rw [if_neg h1], by decide, by decide⟩

set_option maxRecDepth 100000 in
set_option maxHeartbeats 2000000 in
theorem made_law (A0 : Option Addr) (c0 : Nat) (t : List Cs) (g : Int) (A : Option Addr) (cp : Nat) (l : List Ak) (w : World) (ht : t.length ≤ 9223372036854775807) (hT : TabAt w w.heap.size A0 t) (hl : l.length ≤ 60) {N0 : Nat} (hN0 : N0 ≤ w.heap.size) (hA : ActsAt w N0 A l) :
    Calls Try.prog 22 #[.slice A0 t.length c0, .int .i64 g, .slice A l.length cp] w (MadeP w (madeO t g l)) := by
  have HA := Lib.hid hA
  have HN0 := Lib.hid hN0
  by_cases h100 : 100 < t.length
  · have e : madeO t g l = none := by
      unfold madeO
      rw [newT_none (fun h => by have := okT_len h.1; omega), runO_none]
    rw [e]
    generalize t.length = tn at *
    generalize l.length = ln at *
    have d1 : decide ((100 : Int) < (tn : Int)) = true := decide_eq_true (by omega)
    clear e hA hT
    go_enter Try.func22, Try.ntmps22
    go_wp2
    go_ret
    exact ⟨none, fun _ => False, rfl, ⟨⟨.inl rfl, fun _ h => h.elim⟩, fun _ h => h.elim, Below.refl _ _⟩, ⟨fun _ => rfl, fun _ => rfl⟩⟩
  · have HN := Lib.hid (cNew_any A0 c0 t g w ht hT)
    obtain ⟨L, hL⟩ : ∃ L, l.length = L := ⟨_, rfl⟩
    have HL := Lib.hid hL
    rw [hL] at hl ⊢
    have hMO : madeO t g l = runO (newT t g) l := rfl
    rw [hMO]
    rcases newE_eq t g with ⟨m0, e1, e2⟩ | ⟨e1, er, e2, e3, e4⟩
    · rw [e1, e2] at HN
      rw [e1]
      generalize t.length = tn at *
      have d1 : decide ((100 : Int) < (tn : Int)) = false := decide_eq_false (by omega)
      clear hA hL e1 e2 hMO hT
      go_enter Try.func22, Try.ntmps22
      go_wp2_with (go_at_call 16; refine HN.out.mono ?_; rintro e w1 ⟨v, rfl, hob, hv, hb1⟩; have HO1 := Lib.hid (Own.new hob hb1); obtain ⟨B, hB⟩ := hob.ptr; cases hB; clear hob hb1 hv)
      go_loopw [9] (fun i wr => ∃ (k : Nat) (O : Nat → Prop), k ≤ L ∧ i = .int .i64 k ∧ Own false w wr (.pointer (some ⟨B, 0, none⟩)) (runO (some m0) (l.take k)) O) (fun i _ => L - (intOf i).toNat)
      case atStart => exact ⟨0, _, by omega, rfl, HO1.out⟩
      case round =>
        clear HO1
        obtain ⟨k, O, hk, rfl, hO⟩ := hrel
        have HO := Lib.hid hO
        by_cases hlt : k < L
        · obtain ⟨x, hx⟩ : ∃ x, l[k]? = some x := ⟨_, List.getElem?_eq_getElem (by have := HL.out; omega)⟩
          have hbw := hO.bel.mono HN0.out
          obtain ⟨bb, o, u, rfl, hB, g1, g2, g3, g4, hv⟩ := (HA.out.below hbw) k x hx
          have HD := Lib.hid (do_any x hO.ob (Nat.le_trans HN0.out hO.bel.size) (fun j hj => Nat.le_trans HN0.out (hO.nw j hj)) hv)
          have HR := Lib.hid (runO_take (om := some m0) hx)
          clear hO hbw hv hx
          go_wp2_with (go_at_call 27; refine HD.out.mono ?_; rintro e w2 ⟨A9, c9, rfl, O', m1, m2, m3, m4⟩; have HM := Lib.hid (HO.out.turn m1 m2 m3); clear m1 m2 m3 m4)
          go_roundw
          case rel => exact ⟨k + 1, _, by omega, by go_num, by rw [HR.out]; exact HM.out⟩
          case measure => simp [intOf]; omega
        · obtain rfl : k = L := by omega
          have e : l.take k = l := List.take_of_length_le (by rw [HL.out]; exact Nat.le_refl _)
          rw [e] at HO
          clear hO e
          go_wp2_with fail
          go_ret
          obtain ⟨c', hc', _⟩ := runO_some l m0
          exact ⟨_, O, rfl, HO.out, ⟨(fun h => by rw [hc'] at h; cases h), (fun h => nomatch h)⟩⟩
    · rw [e1, e2] at HN
      rw [e1, runO_none]
      generalize t.length = tn at *
      have d1 : decide ((100 : Int) < (tn : Int)) = false := decide_eq_false (by omega)
      clear hA hL e1 e2 hMO hT
      go_enter Try.func22, Try.ntmps22
      go_wp2_with (go_at_call 16; refine HN.out.mono ?_; rintro e w1 ⟨v, rfl, hob, hv, hb1⟩; have HO1 := Lib.hid (Own.new hob hb1); clear hob hb1 hv)
      go_ret
      exact ⟨none, _, rfl, ⟨⟨.inl rfl, fun k hk => HO1.out.ob.lt k hk⟩, HO1.out.nw, HO1.out.bel⟩, ⟨fun _ => rfl, fun _ => rfl⟩⟩
end Go.Proofs.Yticcjelaenhigaa
