/- Pages with numbers, and what the document's calls return and leave, as functions. -/
import Derived.Test.YtdjfeibcbmelcaaRows
namespace Go.Proofs.Ytdjfeibcbmelcaa

/-- The indices from k on and below n for which c says yes. -/
def hl (c : Nat → Bool) (k n : Nat) : List Nat := (List.range' k (n - k)).filter c
theorem hl_hit {c : Nat → Bool} {k n : Nat} (h : k < n) (hc : c k = true) : hl c k n = k :: hl c (k + 1) n := by
  unfold hl
  rw [show n - k = (n - (k + 1)) + 1 from by omega, List.range'_succ, List.filter_cons_of_pos hc]
theorem hl_miss {c : Nat → Bool} {k n : Nat} (h : k < n) (hc : c k = false) : hl c k n = hl c (k + 1) n := by
  unfold hl
  rw [show n - k = (n - (k + 1)) + 1 from by omega, List.range'_succ, List.filter_cons_of_neg (by rw [hc]; decide)]
theorem hl_end {c : Nat → Bool} {k n : Nat} (h : n ≤ k) : hl c k n = [] := by
  unfold hl
  rw [show n - k = 0 from by omega]; rfl
theorem hl_mem {c : Nat → Bool} {k n x : Nat} : x ∈ hl c k n ↔ (k ≤ x ∧ x < n) ∧ c x = true := by
  unfold hl
  rw [List.mem_filter, List.mem_range'_1]
  constructor
  · rintro ⟨h1, h2⟩; exact ⟨by omega, h2⟩
  · rintro ⟨h1, h2⟩; exact ⟨by omega, h2⟩
theorem hl_none {c : Nat → Bool} {k n : Nat} (h : ∀ p, k ≤ p → p < n → c p = false) : hl c k n = [] := by
  refine List.eq_nil_iff_forall_not_mem.2 fun x hx => ?_
  obtain ⟨h1, h2⟩ := hl_mem.1 hx
  rw [h x h1.1 h1.2] at h2
  cases h2
theorem hl_split {c : Nat → Bool} {k m n : Nat} (h1 : k ≤ m) (h2 : m ≤ n) : hl c k n = hl c k m ++ hl c m n := by
  unfold hl
  rw [← List.filter_append, show n - k = (m - k) + (n - m) from by omega, ← List.range'_append_1, show k + (m - k) = m from by omega]
theorem hl_congr {c d : Nat → Bool} {k n : Nat} (h : ∀ p, k ≤ p → p < n → c p = d p) : hl c k n = hl d k n := by
  unfold hl
  refine List.filter_congr fun x hx => ?_
  rw [List.mem_range'_1] at hx
  exact h x (by omega) (by omega)
theorem hl_len (c : Nat → Bool) (k n : Nat) : (hl c k n).length ≤ n - k := by
  unfold hl
  exact Nat.le_trans (List.length_filter_le _ _) (by rw [List.length_range']; exact Nat.le_refl _)

/-- Pages by groups of w. -/
theorem hl_flat {c d : Nat → Bool} {w o f n : Nat} (hd : ∀ t, t < n → d t = false → ∀ p, o + w * t ≤ p → p < o + w * t + w → c p = false) :
    ∀ (m a : Nat), n - a = m → f < o + w * a + w → (hl d a n).flatMap (fun t => hl c (max f (o + w * t)) (o + w * t + w)) = hl c (max f (o + w * a)) (o + w * n)
  | 0, a, hm, hf => by
    rw [hl_end (c := d) (k := a) (n := n) (by omega)]
    refine (hl_end ?_).symm
    have : w * n ≤ w * a := Nat.mul_le_mul_left w (by omega)
    omega
  | m + 1, a, hm, hf => by
    have ih := hl_flat (f := f) hd m (a + 1) (by omega) (by rw [Nat.mul_succ]; omega)
    have hwn : w * (a + 1) ≤ w * n := Nat.mul_le_mul_left w (by omega)
    rw [Nat.mul_succ] at ih hwn
    rw [hl_split (c := c) (k := max f (o + w * a)) (m := o + w * a + w) (n := o + w * n) (by omega) (by omega)]
    rw [show max f (o + (w * a + w)) = o + w * a + w from by omega] at ih
    cases e : d a with
    | true =>
      rw [hl_hit (c := d) (k := a) (n := n) (by omega) e, List.flatMap_cons, ih]
    | false =>
      rw [hl_miss (c := d) (k := a) (n := n) (by omega) e, ih, hl_none (k := max f (o + w * a)) (n := o + w * a + w) (fun p h1 h2 => hd a (by omega) e p (by omega) (by omega)), List.nil_append]
theorem hl_groups {c d : Nat → Bool} {w o f n : Nat} (hw : 0 < w) (hd : ∀ t, t < n → d t = false → ∀ p, o + w * t ≤ p → p < o + w * t + w → c p = false) :
    (hl d ((f - o) / w) n).flatMap (fun t => hl c (max f (o + w * t)) (o + w * t + w)) = hl c (max f o) (o + w * n) := by
  have h1 := Nat.div_mul_le_self (f - o) w
  have h2 := Nat.lt_div_mul_add (a := f - o) hw
  rw [Nat.mul_comm] at h1 h2
  rw [hl_flat hd _ _ rfl (by omega), show max f (o + w * ((f - o) / w)) = max f o from by omega]

def setP (M : Nat → Int) (p : Nat) (v : Int) : Nat → Int := fun q => if q = p then v else M q
def setR (M : Nat → Int) (s n : Nat) (v : Int) : Nat → Int := fun q => if s ≤ q ∧ q < s + n then v else M q
theorem setR_zero (M : Nat → Int) (s : Nat) (v : Int) : setR M s 0 v = M := by
  funext q
  unfold setR
  rw [if_neg (by omega)]
theorem setP_setR (M : Nat → Int) (s k : Nat) (v : Int) : setP (setR M s k v) (s + k) v = setR M s (k + 1) v := by
  funext q
  unfold setP setR
  by_cases e : q = s + k
  · rw [if_pos e, if_pos (by omega)]
  · rw [if_neg e]
    by_cases h : s ≤ q ∧ q < s + k
    · rw [if_pos h, if_pos (by omega)]
    · rw [if_neg h, if_neg (by omega)]

/-- Whether a page has a number. -/
def nz (M : Nat → Int) : Nat → Bool := fun p => M p != 0
theorem nz_true {M : Nat → Int} {p : Nat} (h : M p ≠ 0) : nz M p = true := by unfold nz; simpa using h
theorem nz_false {M : Nat → Int} {p : Nat} (h : M p = 0) : nz M p = false := by unfold nz; simpa using h
theorem nz_iff {M : Nat → Int} {p : Nat} : nz M p = true ↔ M p ≠ 0 := by unfold nz; simp
/-- The pages with numbers, from f on. -/
def pgs (M : Nat → Int) (f : Nat) : List Nat := hl (nz M) f 1024

/-- Whether a leaf is there, and a middle. -/
def lfB (M : Nat → Int) (k : Nat) : Bool := decide (∃ n : Nat, n < 8 ∧ M (8 * k + n) ≠ 0)
def mdB (M : Nat → Int) (t : Nat) : Bool := decide (∃ n : Nat, n < 64 ∧ M (64 * t + n) ≠ 0)

/-- What all numbers keep to. -/
def WM (M : Nat → Int) : Prop := ∀ p, 0 ≤ M p ∧ M p ≤ 1073741824
theorem WM.setP {M : Nat → Int} (h : WM M) {v : Int} (hv : 0 ≤ v ∧ v ≤ 1073741824) (p : Nat) : WM (setP M p v) := fun q => by
  unfold Ytdjfeibcbmelcaa.setP
  split
  · exact hv
  · exact h q
theorem WM.setR {M : Nat → Int} (h : WM M) {v : Int} (hv : 0 ≤ v ∧ v ≤ 1073741824) (s n : Nat) : WM (setR M s n v) := fun q => by
  unfold Ytdjfeibcbmelcaa.setR
  split
  · exact hv
  · exact h q

/-- Whether a run is within the pages. -/
def insB (s n : Int) : Bool := decide (0 ≤ s ∧ 1 ≤ n ∧ n ≤ 1024 - s)
def noB (v : Int) : Bool := decide (1 ≤ v ∧ v ≤ 1073741824)
def setE (s n v : Int) : Int := if insB s n = true ∧ noB v = true then 0 else 1
def setD (M : Nat → Int) (s n v : Int) : Nat → Int := if insB s n = true ∧ noB v = true then setR M s.toNat n.toNat v else M
def clrE (s n : Int) : Int := if insB s n = true then 0 else 1
def clrD (M : Nat → Int) (s n : Int) : Nat → Int := if insB s n = true then setR M s.toNat n.toNat 0 else M
theorem setD_wf {M : Nat → Int} (h : WM M) (s n v : Int) : WM (setD M s n v) := by
  unfold setD
  split
  · rename_i e
    refine h.setR ?_ _ _
    have := of_decide_eq_true e.2
    omega
  · exact h
theorem clrD_wf {M : Nat → Int} (h : WM M) (s n : Int) : WM (clrD M s n) := by
  unfold clrD
  split
  · exact h.setR (by decide) _ _
  · exact h

/-- A call of the statements. -/
structure Ac where
  k : Int
  a : Int
  b : Int
  c : Int
def doE (x : Ac) : Int := if x.k = 0 then setE x.a x.b x.c else if x.k = 1 then clrE x.a x.b else 0
def doM (M : Nat → Int) (x : Ac) : Nat → Int := if x.k = 0 then setD M x.a x.b x.c else if x.k = 1 then clrD M x.a x.b else M
theorem doM_wf {M : Nat → Int} (h : WM M) (x : Ac) : WM (doM M x) := by
  unfold doM
  split
  · exact setD_wf h _ _ _
  · split
    · exact clrD_wf h _ _
    · exact h
def noM : Nat → Int := fun _ => 0
theorem noM_wf : WM noM := fun _ => ⟨Int.le_refl _, by show (0 : Int) ≤ _; decide⟩
/-- The number of any page. -/
def getV (M : Nat → Int) (p : Int) : Int := if 0 ≤ p ∧ p < 1024 then M p.toNat else 0

end Go.Proofs.Ytdjfeibcbmelcaa
