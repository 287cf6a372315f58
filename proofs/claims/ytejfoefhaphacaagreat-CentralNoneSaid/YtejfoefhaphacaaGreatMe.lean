/- A central list: putting objects back, as functions. -/
import Derived.Test.YtejfoefhaphacaaGreatMd
namespace Go.Proofs.YtejfoefhaphacaaGreat

/-- A span of which the objects in a list are free; the spans. -/
def offM (t : List Int) (m : Mo) : Mo := { m with f := fun k => if k < m.n then m.f k && !decide ((adr m k : Int) ∈ t) else m.f k }
def offL (L : List Mo) (t : List Int) : List Mo := L.map (offM t)
theorem offM_nil (m : Mo) : offM [] m = m := by
  unfold offM
  have : (fun k => if k < m.n then m.f k && !decide ((adr m k : Int) ∈ ([] : List Int)) else m.f k) = m.f := by
    funext k
    split <;> simp
  rw [this]
theorem offL_nil (L : List Mo) : offL L [] = L := by
  unfold offL
  rw [List.map_congr_left (g := id) (fun m _ => offM_nil m), List.map_id]
theorem obO_off (t : List Int) (m : Mo) (a : Int) : obO (offM t m) a = obO m a := rfl
theorem spI_off (L : List Mo) (t : List Int) (a : Int) : spI (offL L t) a = spI L a := by
  unfold spI offL
  rw [List.findIdx?_map]
  rfl
theorem offL_at {L : List Mo} {t : List Int} {i : Nat} {m : Mo} (h : L[i]? = some m) : (offL L t)[i]? = some (offM t m) := by unfold offL; rw [List.getElem?_map, h]; rfl
theorem CWf.off {c : Ce} (h : CWf c) (t : List Int) : CWf { c with L := offL c.L t } := by
  refine ⟨h.z1, h.z2, h.z8, h.g1, h.g2, h.t1, h.t2, h.zg, fun x hx => ?_, ?_⟩
  · obtain ⟨m, hm, rfl⟩ := List.mem_map.1 (show x ∈ c.L.map (offM t) from hx)
    have := h.sp m hm
    exact ⟨⟨this.wf.s1, this.wf.z1, this.wf.z2, this.wf.g1, this.wf.g2, this.wf.t1, this.wf.t2, this.wf.nn, this.wf.n1, this.wf.n2, this.wf.nz⟩, this.z, this.g, this.t⟩
  · show (c.L.map (offM t)).Pairwise _
    rw [List.pairwise_map]
    exact h.od
theorem adr_inj {m : Mo} (h : WF m) {a b : Nat} (e : adr m a = adr m b) : a = b := by
  have := h.z1
  rcases Nat.lt_trichotomy a b with h1 | h1 | h1
  · have := adr_lt (m := m) h1; omega
  · exact h1
  · have := adr_lt (m := m) h1; omega
/-- One object more is put back. -/
theorem off_step {c : Ce} (h : CWf c) {t : List Int} {a : Int} {i q : Nat} {m : Mo} (hm : c.L[i]? = some m) (hq : obO m a = some q) : (offL c.L t).set i ((offM t m).set q false) = offL c.L (t ++ [a]) := by
  have hwf := (h.at hm).wf
  obtain ⟨hqn, hqa⟩ := obO_get hwf hq
  refine List.ext_getElem? fun j => ?_
  rw [List.getElem?_set]
  split
  · rename_i hij
    subst hij
    rw [if_pos (by unfold offL; rw [List.length_map]; exact (List.getElem?_eq_some_iff.1 hm).1), offL_at hm]
    congr 1
    show ({ m with f := upd (offM t m).f q false } : Mo) = { m with f := (offM (t ++ [a]) m).f }
    congr 1
    funext k
    show (if k = q then false else (if k < m.n then m.f k && !decide ((adr m k : Int) ∈ t) else m.f k)) = (if k < m.n then m.f k && !decide ((adr m k : Int) ∈ t ++ [a]) else m.f k)
    by_cases hk : k = q
    · subst hk
      rw [if_pos rfl, if_pos hqn]
      simp [hqa]
    · rw [if_neg hk]
      by_cases hkn : k < m.n
      · rw [if_pos hkn, if_pos hkn]
        have hne : (adr m k : Int) ≠ a := fun e => hk (adr_inj hwf (by omega))
        simp [hne]
      · rw [if_neg hkn, if_neg hkn]
  · rename_i hij
    cases hj : c.L[j]? with
    | none => unfold offL; rw [List.getElem?_map, List.getElem?_map, hj]; rfl
    | some x =>
      rw [offL_at hj, offL_at hj]
      congr 1
      have hxwf := (h.at hj).wf
      show ({ x with f := (offM t x).f } : Mo) = { x with f := (offM (t ++ [a]) x).f }
      congr 1
      funext k
      show (if k < x.n then x.f k && !decide ((adr x k : Int) ∈ t) else x.f k) = (if k < x.n then x.f k && !decide ((adr x k : Int) ∈ t ++ [a]) else x.f k)
      by_cases hkn : k < x.n
      · rw [if_pos hkn, if_pos hkn]
        have hne : (adr x k : Int) ≠ a := fun e => by
          have h1 := h.spn hm hq
          have h2 := h.spn hj (obO_some hxwf hkn e.symm)
          rw [h1] at h2
          exact hij (by injection h2)
        simp [hne]
      · rw [if_neg hkn, if_neg hkn]

def wildB (L : List Mo) (zs : List Int) : Bool := zs.any (fun a => (spI L a).isNone)
def goodB (c : Ce) (zs : List Int) : Bool := decide zs.Nodup && zs.all (fun a => liV (some c) a)
def ptEr : Option Ce → List Int → Int
  | none, _ => 5
  | some c, zs => if wildB c.L zs = true then 8 else if goodB c zs = true then 0 else 9
def ptDr : Option Ce → List Int → Option Ce
  | none, _ => none
  | some c, zs => if ptEr (some c) zs = 0 then some { c with L := live (offL c.L zs) } else some c
def ptVr : Option Ce → List Int → List (Nat × Nat)
  | none, _ => []
  | some c, zs => if ptEr (some c) zs = 0 then (dead (offL c.L zs)).map (fun m => (m.s, m.g)) else []
theorem ptEr_zero {c : Ce} {zs : List Int} (h : ptEr (some c) zs = 0) : wildB c.L zs = false ∧ zs.Nodup ∧ ∀ a, a ∈ zs → liV (some c) a = true := by
  by_cases h1 : wildB c.L zs = true
  · rw [ptEr, if_pos h1] at h; exact absurd h (by decide)
  · by_cases h2 : goodB c zs = true
    · have h3 := h2
      unfold goodB at h3
      rw [Bool.and_eq_true, decide_eq_true_eq, List.all_eq_true] at h3
      exact ⟨by simpa using h1, h3.1, h3.2⟩
    · rw [ptEr, if_neg h1, if_neg h2] at h; exact absurd h (by decide)
theorem ptEr_bad {c : Ce} {zs : List Int} (h : ptEr (some c) zs ≠ 0) : ptDr (some c) zs = some c ∧ ptVr (some c) zs = [] := ⟨if_neg h, if_neg h⟩
theorem ptEr_ok {c : Ce} {zs : List Int} (h : ptEr (some c) zs = 0) : ptDr (some c) zs = some { c with L := live (offL c.L zs) } ∧ ptVr (some c) zs = (dead (offL c.L zs)).map (fun m => (m.s, m.g)) := ⟨if_pos h, if_pos h⟩
/-- A taken object: its span, its number. -/
theorem liV_get {c : Ce} (h : CWf c) {a : Int} (e : liV (some c) a = true) : ∃ i m q, c.L[i]? = some m ∧ obO m a = some q ∧ m.f q = true ∧ q < m.n ∧ a = adr m q ∧ spI c.L a = some i := by
  cases hs : spI c.L a with
  | none => rw [liV_none hs] at e; cases e
  | some i =>
    obtain ⟨m, hm, hp⟩ := fi_get hs
    obtain ⟨q, hq⟩ := Option.isSome_iff_exists.1 hp
    rw [liV_some hs hm] at e
    have h2 : isV (some m) a = m.f q := by simp only [isV, hq]
    rw [h2] at e
    obtain ⟨h3, h4⟩ := obO_get (h.at hm).wf hq
    exact ⟨i, m, q, hm, hq, e, h3, h4, rfl⟩
theorem liV_set {c : Ce} (h : CWf c) {i q : Nat} {m : Mo} (hm : c.L[i]? = some m) (hq : q < m.n) : liV (some c) (adr m q) = m.f q := by
  have hob := obO_some (h.at hm).wf hq rfl
  rw [liV_some (h.spn hm hob) hm]
  simp only [isV, hob]

end Go.Proofs.YtejfoefhaphacaaGreat
