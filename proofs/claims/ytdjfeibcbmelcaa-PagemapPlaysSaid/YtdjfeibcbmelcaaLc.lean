/- Package pagemap: how a map's nodes are made, stored into, and taken away. -/
import Derived.Test.YtdjfeibcbmelcaaLb
namespace Go.Proofs.Ytdjfeibcbmelcaa
open Go.RowKit

def upd (f : Nat → Option Nat) (i : Nat) (v : Option Nat) : Nat → Option Nat := fun j => if j = i then v else f j
theorem upd_at (f : Nat → Option Nat) (i : Nat) (v : Option Nat) : upd f i v i = v := if_pos rfl
theorem upd_ne {f : Nat → Option Nat} {i j : Nat} (v : Option Nat) (h : j ≠ i) : upd f i v j = f j := if_neg h
def tag (T : Nat → Nat) (b v : Nat) : Nat → Nat := fun x => if x = b then v else T x
theorem tag_at (T : Nat → Nat) (b v : Nat) : tag T b v b = v := if_pos rfl
theorem tag_ne {T : Nat → Nat} {b x : Nat} (v : Nat) (h : x ≠ b) : tag T b v x = T x := if_neg h

section
variable {w : World} {O : Nat → Prop} {B R : Nat} {cm cl : Nat → Option Nat} {T : Nat → Nat} {M : Nat → Int}

/-- A middle is made. -/
theorem TrA.newM (h : TrA w O B R cm cl T M) {t : Nat} (ht : t < 16) (hn : cm t = none) :
    TrA ((w.alloc (.cells #[.pointer none, .pointer none, .pointer none, .pointer none, .pointer none, .pointer none, .pointer none, .pointer none] 82)).setCell ⟨R, t, none⟩ (.pointer (some ⟨w.heap.size, 0, none⟩)))
      (Ext O w ((w.alloc (.cells #[.pointer none, .pointer none, .pointer none, .pointer none, .pointer none, .pointer none, .pointer none, .pointer none] 82)).setCell ⟨R, t, none⟩ (.pointer (some ⟨w.heap.size, 0, none⟩)))) B R (upd cm t (some w.heap.size)) cl (tag T w.heap.size (2 + t)) M := by
  have hnew : Cl (w.alloc (.cells #[.pointer none, .pointer none, .pointer none, .pointer none, .pointer none, .pointer none, .pointer none, .pointer none] 82)) w.heap.size 8 (fun _ => pt none) := Cl.new w (by decide) (fun i hi => rep_at (n := 8) hi)
  obtain ⟨w1, hw1⟩ : ∃ w1, w.alloc (.cells #[.pointer none, .pointer none, .pointer none, .pointer none, .pointer none, .pointer none, .pointer none, .pointer none] 82) = w1 := ⟨_, rfl⟩
  have hsz : w1.heap.size = w.heap.size + 1 := by rw [← hw1]; simp
  have hb1 : Below w.heap.size w w1 := by rw [← hw1]; exact bnew _ _
  have h1 := h.below hb1
  rw [hw1] at hnew ⊢
  have hlR : R < w.heap.size := h.r.lt
  have hne : ∀ {x : Nat}, O x → x ≠ w.heap.size := fun hx e => by have := h.lt _ hx; omega
  refine ⟨h.wf, h1.b.other (fun e => ?_) _, ((h1.r.set t (.pointer (some ⟨w.heap.size, 0, none⟩))).congr fun i _ => ?_), fun t' ht' b hb => ?_, fun k hk b hb => (h1.l k hk b hb).other (fun e => ?_) _, .inl h.ob, .inl h.or, fun t' ht' b hb => ?_, fun k hk b hb => .inl (h.ol k hk b hb), fun k hk => ?_, ?_, ?_, fun t' ht' b hb => ?_, fun k hk b hb => ?_, h.nl, fun t' ht' hb => ?_⟩
  · have := h.tb
    have h2 := h.tr
    simp at e
    rw [e] at this
    omega
  · by_cases e : i = t
    · rw [if_pos e, e, upd_at]; rfl
    · rw [if_neg e, upd_ne _ e]
  · by_cases e : t' = t
    · rw [e, upd_at] at hb
      cases hb
      refine ((hnew.other (a := ⟨R, t, none⟩) (fun e => ?_) _)).congr fun s hs => ?_
      · simp at e; omega
      · rw [e, h.nm t ht hn s hs]
    · rw [upd_ne _ e] at hb
      refine (h1.m t' ht' b hb).other (fun e2 => ?_) _
      have := h.tm t' ht' b hb
      have h2 := h.tr
      simp at e2
      rw [e2] at this
      omega
  · have := h.tl k hk b hb
    have h2 := h.tr
    simp at e
    rw [e] at this
    omega
  · by_cases e : t' = t
    · rw [e, upd_at] at hb
      cases hb
      exact .inr ⟨Nat.le_refl _, by rw [World.size_setCell]; omega⟩
    · rw [upd_ne _ e] at hb
      exact .inl (h.om t' ht' b hb)
  · exact Ext.lt h.lt (by rw [World.size_setCell]; omega) k hk
  · rw [tag_ne _ (hne h.ob)]; exact h.tb
  · rw [tag_ne _ (hne h.or)]; exact h.tr
  · by_cases e : t' = t
    · rw [e, upd_at] at hb
      cases hb
      rw [tag_at, e]
    · rw [upd_ne _ e] at hb
      rw [tag_ne _ (hne (h.om t' ht' b hb))]
      exact h.tm t' ht' b hb
  · rw [tag_ne _ (hne (h.ol k hk b hb))]
    exact h.tl k hk b hb
  · by_cases e : t' = t
    · rw [e, upd_at] at hb
      cases hb
    · rw [upd_ne _ e] at hb
      exact h.nm t' ht' hb

/-- A leaf is made. -/
theorem TrA.newL (h : TrA w O B R cm cl T M) {t s b0 : Nat} (ht : t < 16) (hs : s < 8) (hm : cm t = some b0) (hn : cl (8 * t + s) = none) :
    TrA ((w.alloc (.cells #[.int .i64 0, .int .i64 0, .int .i64 0, .int .i64 0, .int .i64 0, .int .i64 0, .int .i64 0, .int .i64 0] 84)).setCell ⟨b0, s, none⟩ (.pointer (some ⟨w.heap.size, 0, none⟩)))
      (Ext O w ((w.alloc (.cells #[.int .i64 0, .int .i64 0, .int .i64 0, .int .i64 0, .int .i64 0, .int .i64 0, .int .i64 0, .int .i64 0] 84)).setCell ⟨b0, s, none⟩ (.pointer (some ⟨w.heap.size, 0, none⟩)))) B R cm (upd cl (8 * t + s) (some w.heap.size)) (tag T w.heap.size (18 + (8 * t + s))) M := by
  have hnew : Cl (w.alloc (.cells #[.int .i64 0, .int .i64 0, .int .i64 0, .int .i64 0, .int .i64 0, .int .i64 0, .int .i64 0, .int .i64 0] 84)) w.heap.size 8 (fun _ => .int .i64 0) := Cl.new w (by decide) (fun i hi => rep_at (n := 8) hi)
  obtain ⟨w1, hw1⟩ : ∃ w1, w.alloc (.cells #[.int .i64 0, .int .i64 0, .int .i64 0, .int .i64 0, .int .i64 0, .int .i64 0, .int .i64 0, .int .i64 0] 84) = w1 := ⟨_, rfl⟩
  have hsz : w1.heap.size = w.heap.size + 1 := by rw [← hw1]; simp
  have hb1 : Below w.heap.size w w1 := by rw [← hw1]; exact bnew _ _
  have h1 := h.below hb1
  rw [hw1] at hnew ⊢
  have hlb : b0 < w.heap.size := (h.m t ht b0 hm).lt
  have htb := h.tm t ht b0 hm
  have hne : ∀ {x : Nat}, O x → x ≠ w.heap.size := fun hx e => by have := h.lt _ hx; omega
  refine ⟨h.wf, h1.b.other (fun e => ?_) _, h1.r.other (fun e => ?_) _, fun t' ht' b hb => ?_, fun k hk b hb => ?_, .inl h.ob, .inl h.or, fun t' ht' b hb => .inl (h.om t' ht' b hb), fun k hk b hb => ?_, fun k hk => ?_, ?_, ?_, fun t' ht' b hb => ?_, fun k hk b hb => ?_, fun k hk hb => ?_, fun t' ht' hb s' hs' => ?_⟩
  · have := h.tb
    simp at e
    rw [e] at this
    omega
  · have := h.tr
    simp at e
    rw [e] at this
    omega
  · by_cases e : t' = t
    · subst e
      rw [hm] at hb
      cases hb
      refine (((h1.m t' ht' b0 hm).set s (.pointer (some ⟨w.heap.size, 0, none⟩))).congr fun i hi => ?_)
      by_cases e : i = s
      · rw [if_pos e, e, upd_at]; rfl
      · rw [if_neg e, upd_ne _ (by omega)]
    · refine ((h1.m t' ht' b hb).other (fun e2 => ?_) _).congr fun i hi => by rw [upd_ne _ (by omega)]
      have := h.tm t' ht' b hb
      simp at e2
      rw [e2] at this
      omega
  · by_cases e : k = 8 * t + s
    · rw [e, upd_at] at hb
      cases hb
      refine ((hnew.other (a := ⟨b0, s, none⟩) (fun e => ?_) _)).congr fun n hn' => ?_
      · simp at e; omega
      · rw [e, h.nl _ (by omega) hn n hn']
    · rw [upd_ne _ e] at hb
      refine (h1.l k hk b hb).other (fun e2 => ?_) _
      have := h.tl k hk b hb
      simp at e2
      rw [e2] at this
      omega
  · by_cases e : k = 8 * t + s
    · rw [e, upd_at] at hb
      cases hb
      exact .inr ⟨Nat.le_refl _, by rw [World.size_setCell]; omega⟩
    · rw [upd_ne _ e] at hb
      exact .inl (h.ol k hk b hb)
  · exact Ext.lt h.lt (by rw [World.size_setCell]; omega) k hk
  · rw [tag_ne _ (hne h.ob)]; exact h.tb
  · rw [tag_ne _ (hne h.or)]; exact h.tr
  · rw [tag_ne _ (hne (h.om t' ht' b hb))]
    exact h.tm t' ht' b hb
  · by_cases e : k = 8 * t + s
    · rw [e, upd_at] at hb
      cases hb
      rw [tag_at, e]
    · rw [upd_ne _ e] at hb
      rw [tag_ne _ (hne (h.ol k hk b hb))]
      exact h.tl k hk b hb
  · by_cases e : k = 8 * t + s
    · rw [e, upd_at] at hb
      cases hb
    · rw [upd_ne _ e] at hb
      exact h.nl k hk hb
  · have hx : t' ≠ t := fun e => by rw [e, hm] at hb; cases hb
    rw [upd_ne _ (by omega)]
    exact h.nm t' ht' hb s' hs'

/-- A number is stored. -/
theorem TrA.store (h : TrA w O B R cm cl T M) {k n b0 : Nat} (hk : k < 128) (hn : n < 8) (hl : cl k = some b0) {v : Int} (hv : 0 ≤ v ∧ v ≤ 1073741824) :
    TrA (w.setCell ⟨b0, n, none⟩ (.int .i64 v)) O B R cm cl T (setP M (8 * k + n) v) := by
  have htb := h.tl k hk b0 hl
  refine ⟨h.wf.setP hv _, h.b.other (fun e => ?_) _, h.r.other (fun e => ?_) _, fun t' ht' b hb => (h.m t' ht' b hb).other (fun e => ?_) _, fun k' hk' b hb => ?_, h.ob, h.or, h.om, h.ol, fun x hx => by rw [World.size_setCell]; exact h.lt x hx, h.tb, h.tr, h.tm, h.tl, fun k' hk' hb n' hn' => ?_, h.nm⟩
  · have := h.tb
    simp at e
    rw [e] at this
    omega
  · have := h.tr
    simp at e
    rw [e] at this
    omega
  · have := h.tm t' ht' b hb
    simp at e
    rw [e] at this
    omega
  · by_cases e : k' = k
    · subst e
      rw [hl] at hb
      cases hb
      refine ((h.l k' hk' b0 hl).set n (.int .i64 v)).congr fun i hi => ?_
      unfold setP
      by_cases e : i = n
      · rw [if_pos e, if_pos (by omega)]
      · rw [if_neg e, if_neg (by omega)]
    · refine ((h.l k' hk' b hb).other (fun e2 => ?_) _).congr fun i hi => ?_
      · have := h.tl k' hk' b hb
        simp at e2
        rw [e2] at this
        omega
      · unfold setP
        rw [if_neg (by omega)]
  · have hx : k' ≠ k := fun e => by rw [e, hl] at hb; cases hb
    unfold setP
    rw [if_neg (by omega)]
    exact h.nl k' hk' hb n' hn'

/-- A leaf is taken away. -/
theorem TrA.dropL (h : TrA w O B R cm cl T M) {t s b0 : Nat} (ht : t < 16) (hs : s < 8) (hm : cm t = some b0) (hz : ∀ n, n < 8 → M (8 * (8 * t + s) + n) = 0) :
    TrA (w.setCell ⟨b0, s, none⟩ (.pointer none)) O B R cm (upd cl (8 * t + s) none) T M := by
  have htb := h.tm t ht b0 hm
  refine ⟨h.wf, h.b.other (fun e => ?_) _, h.r.other (fun e => ?_) _, fun t' ht' b hb => ?_, fun k hk b hb => ?_, h.ob, h.or, h.om, fun k hk b hb => ?_, fun x hx => by rw [World.size_setCell]; exact h.lt x hx, h.tb, h.tr, h.tm, fun k hk b hb => ?_, fun k hk hb => ?_, fun t' ht' hb s' hs' => ?_⟩
  · have := h.tb
    simp at e
    rw [e] at this
    omega
  · have := h.tr
    simp at e
    rw [e] at this
    omega
  · by_cases e : t' = t
    · subst e
      rw [hm] at hb
      cases hb
      refine (((h.m t' ht' b0 hm).set s (.pointer none)).congr fun i hi => ?_)
      by_cases e : i = s
      · rw [if_pos e, e, upd_at]; rfl
      · rw [if_neg e, upd_ne _ (by omega)]
    · refine ((h.m t' ht' b hb).other (fun e2 => ?_) _).congr fun i hi => by rw [upd_ne _ (by omega)]
      have := h.tm t' ht' b hb
      simp at e2
      rw [e2] at this
      omega
  · have hx : k ≠ 8 * t + s := fun e => by rw [e, upd_at] at hb; cases hb
    rw [upd_ne _ hx] at hb
    refine (h.l k hk b hb).other (fun e2 => ?_) _
    have := h.tl k hk b hb
    simp at e2
    rw [e2] at this
    omega
  · have hx : k ≠ 8 * t + s := fun e => by rw [e, upd_at] at hb; cases hb
    rw [upd_ne _ hx] at hb
    exact h.ol k hk b hb
  · have hx : k ≠ 8 * t + s := fun e => by rw [e, upd_at] at hb; cases hb
    rw [upd_ne _ hx] at hb
    exact h.tl k hk b hb
  · by_cases e : k = 8 * t + s
    · rw [e]; exact hz
    · rw [upd_ne _ e] at hb
      exact h.nl k hk hb
  · have hx : t' ≠ t := fun e => by rw [e, hm] at hb; cases hb
    rw [upd_ne _ (by omega)]
    exact h.nm t' ht' hb s' hs'

/-- A middle is taken away. -/
theorem TrA.dropM (h : TrA w O B R cm cl T M) {t : Nat} (hz : ∀ s, s < 8 → cl (8 * t + s) = none) :
    TrA (w.setCell ⟨R, t, none⟩ (.pointer none)) O B R (upd cm t none) cl T M := by
  have htb := h.tr
  refine ⟨h.wf, h.b.other (fun e => ?_) _, ((h.r.set t (.pointer none)).congr fun i _ => ?_), fun t' ht' b hb => ?_, fun k hk b hb => (h.l k hk b hb).other (fun e => ?_) _, h.ob, h.or, fun t' ht' b hb => ?_, h.ol, fun x hx => by rw [World.size_setCell]; exact h.lt x hx, h.tb, h.tr, fun t' ht' b hb => ?_, h.tl, h.nl, fun t' ht' hb s' hs' => ?_⟩
  · have := h.tb
    simp at e
    rw [e] at this
    omega
  · by_cases e : i = t
    · rw [if_pos e, e, upd_at]; rfl
    · rw [if_neg e, upd_ne _ e]
  · have hx : t' ≠ t := fun e => by rw [e, upd_at] at hb; cases hb
    rw [upd_ne _ hx] at hb
    refine (h.m t' ht' b hb).other (fun e2 => ?_) _
    have := h.tm t' ht' b hb
    simp at e2
    rw [e2] at this
    omega
  · have := h.tl k hk b hb
    simp at e
    rw [e] at this
    omega
  · have hx : t' ≠ t := fun e => by rw [e, upd_at] at hb; cases hb
    rw [upd_ne _ hx] at hb
    exact h.om t' ht' b hb
  · have hx : t' ≠ t := fun e => by rw [e, upd_at] at hb; cases hb
    rw [upd_ne _ hx] at hb
    exact h.tm t' ht' b hb
  · by_cases e : t' = t
    · rw [e]; exact hz s' hs'
    · rw [upd_ne _ e] at hb
      exact h.nm t' ht' hb s' hs'
end

/-- What making a child leaves. -/
def KidM (w : World) (O : Nat → Prop) (B R t : Nat) (cm cl : Nat → Option Nat) (M : Nat → Int) (b : Nat) (w' : World) : Prop := ∃ cm' T', cm' t = some b ∧ (∀ j, j ≠ t → cm' j = cm j) ∧ TrA w' (Ext O w w') B R cm' cl T' M ∧ Keep O w w'
def KidL (w : World) (O : Nat → Prop) (B R k : Nat) (cm cl : Nat → Option Nat) (M : Nat → Int) (b : Nat) (w' : World) : Prop := ∃ cl' T', cl' k = some b ∧ (∀ j, j ≠ k → cl' j = cl j) ∧ TrA w' (Ext O w w') B R cm cl' T' M ∧ Keep O w w'

theorem kidM_any {w : World} {O : Nat → Prop} {B R : Nat} {cm cl : Nat → Option Nat} {T : Nat → Nat} {M : Nat → Int} (h : TrA w O B R cm cl T M) {t : Nat} (ht : t < 16) :
    Calls Try.prog 54 #[.slice (some ⟨R, 0, none⟩) 16 16, .int .i64 t] w fun e w' => ∃ b, e = .returned (.pointer (some ⟨b, 0, none⟩)) ∧ KidM w O B R t cm cl M b w' := by
  cases hc : cm t with
  | some b =>
    refine (child54_there R t b w ht (by rw [h.r.cell t ht, hc])).mono ?_
    rintro e _ ⟨rfl, rfl⟩
    exact ⟨b, rfl, cm, T, hc, fun _ _ => rfl, h.mono (fun _ hk => .inl hk) (Ext.lt h.lt (Nat.le_refl _)), Keep.refl _ _⟩
  | none =>
    refine (child54_new R t w ht h.r (by show pt (cm t) = _; rw [hc])).mono ?_
    rintro e _ ⟨rfl, rfl⟩
    exact ⟨w.heap.size, rfl, _, _, upd_at _ _ _, fun j hj => upd_ne _ hj, h.newM ht hc, ((Keep.refl O w).alloc _).set (.inl h.or) _⟩

theorem kidL_any {w : World} {O : Nat → Prop} {B R b0 : Nat} {cm cl : Nat → Option Nat} {T : Nat → Nat} {M : Nat → Int} (h : TrA w O B R cm cl T M) {t s : Nat} (ht : t < 16) (hs : s < 8) (hm : cm t = some b0) :
    Calls Try.prog 55 #[.slice (some ⟨b0, 0, none⟩) 8 8, .int .i64 s] w fun e w' => ∃ b, e = .returned (.pointer (some ⟨b, 0, none⟩)) ∧ KidL w O B R (8 * t + s) cm cl M b w' := by
  have hC := h.m t ht b0 hm
  cases hc : cl (8 * t + s) with
  | some b =>
    refine (child55_there b0 s b w hs (by rw [hC.cell s hs, hc])).mono ?_
    rintro e _ ⟨rfl, rfl⟩
    exact ⟨b, rfl, cl, T, hc, fun _ _ => rfl, h.mono (fun _ hk => .inl hk) (Ext.lt h.lt (Nat.le_refl _)), Keep.refl _ _⟩
  | none =>
    refine (child55_new b0 s w hs hC (by show pt (cl (8 * t + s)) = _; rw [hc])).mono ?_
    rintro e _ ⟨rfl, rfl⟩
    exact ⟨w.heap.size, rfl, _, _, upd_at _ _ _, fun j hj => upd_ne _ hj, h.newL ht hs hm hc, ((Keep.refl O w).alloc _).set (.inl (h.om t ht b0 hm)) _⟩

end Go.Proofs.Ytdjfeibcbmelcaa
