/- A central list: adding, finding, putting, sweeping, counting, as functions. -/
import Derived.Test.YtejfoefhaphacaaGreatMc
namespace Go.Proofs.YtejfoefhaphacaaGreat

/-! Where a page lies among the spans. -/
def pos (L : List Mo) (p : Int) : Nat := L.countP (fun m => decide ((m.s : Int) ≤ p))
theorem pos_le (L : List Mo) (p : Int) : pos L p ≤ L.length := List.countP_le_length
/-- Rising spans: those before the place begin at the page or before it, the others behind it. -/
theorem pos_split {g : Nat} : ∀ (L : List Mo) (p : Int), 1 ≤ g → L.Pairwise (fun x y => x.s + g ≤ y.s) → ∀ i m, L[i]? = some m → ((m.s : Int) ≤ p ↔ i < pos L p)
  | [], _, _, _, i, m, h => by simp at h
  | x :: t, p, hg, hp, i, m, h => by
    rw [List.pairwise_cons] at hp
    have hpos : pos (x :: t) p = pos t p + (if (x.s : Int) ≤ p then 1 else 0) := by
      unfold pos
      rw [List.countP_cons]
      by_cases hx : (x.s : Int) ≤ p <;> simp [hx]
    by_cases hx : (x.s : Int) ≤ p
    · rw [hpos, if_pos hx]
      cases i with
      | zero => simp at h; subst h; exact ⟨fun _ => by omega, fun _ => hx⟩
      | succ i =>
        have := pos_split t p hg hp.2 i m (by simpa using h)
        exact this.trans ⟨fun h => by omega, fun h => by omega⟩
    · have h0 : pos t p = 0 := by
        unfold pos
        rw [List.countP_eq_zero]
        intro y hy
        have := hp.1 y hy
        simp only [decide_eq_true_eq]
        omega
      rw [hpos, if_neg hx, h0]
      cases i with
      | zero => simp at h; subst h; exact ⟨fun h => absurd h hx, fun h => by omega⟩
      | succ i =>
        have hm : m ∈ t := List.mem_of_getElem? (by simpa using h)
        have := hp.1 m hm
        exact ⟨fun h => by omega, fun h => by omega⟩
theorem CWf.pos {c : Ce} (h : CWf c) (p : Int) {i : Nat} {m : Mo} (e : c.L[i]? = some m) : (m.s : Int) ≤ p ↔ i < pos c.L p := pos_split c.L p h.g1 h.od i m e

/-- The span that has a byte is the last one that begins at its page or before it. -/
theorem page_tdiv {s g a : Int} (h0 : 0 ≤ s) (h1 : s * 256 ≤ a) (h2 : a < (s + g) * 256) : s ≤ a.tdiv 256 ∧ a.tdiv 256 < s + g := by
  rw [Int.tdiv_eq_ediv_of_nonneg (by omega)]
  omega
theorem idO_in {m : Mo} (h : WF m) {a : Int} {k : Nat} (e : idO m a = some k) : (m.s : Int) * 256 ≤ a ∧ a < ((m.s : Int) + m.g) * 256 := by
  obtain ⟨h1, h2, h3⟩ := idO_get h e
  have h4 := (adr_bd h (Nat.succ_le_of_lt h1)).2
  have h5 : adr m k + m.z = m.s * 256 + (k + 1) * m.z := by unfold adr; rw [Nat.add_mul, Nat.one_mul]; omega
  have h6 : adr m k = m.s * 256 + k * m.z := rfl
  have h7 := Nat.succ_mul k m.z
  generalize adr m k = A at *
  generalize k.succ * m.z = q at *
  generalize k * m.z = q' at *
  omega
theorem CWf.has {c : Ce} (h : CWf c) {i : Nat} {m : Mo} (e : c.L[i]? = some m) {a : Int} {k : Nat} (hk : idO m a = some k) : i + 1 = Go.Proofs.YtejfoefhaphacaaGreat.pos c.L (a.tdiv 256) := by
  have hm := h.at e
  obtain ⟨h1, h2⟩ := idO_in hm.wf hk
  obtain ⟨h3, h4⟩ := page_tdiv (by omega) h1 h2
  have h5 := (h.pos (a.tdiv 256) e).1 h3
  rcases Nat.lt_or_ge (i + 1) (Go.Proofs.YtejfoefhaphacaaGreat.pos c.L (a.tdiv 256)) with h6 | h6
  · exfalso
    have hl := pos_le c.L (a.tdiv 256)
    obtain ⟨x, hx⟩ : ∃ x, c.L[i + 1]? = some x := ⟨_, List.getElem?_eq_getElem (by omega)⟩
    have h7 := (h.pos (a.tdiv 256) hx).2 h6
    have h8 := h.ord (Nat.lt_succ_self i) e hx
    have := hm.g
    omega
  · omega

/-- The place of the span that has a byte, an object's address. -/
def biI (L : List Mo) (a : Int) : Option Nat := L.findIdx? (fun m => (idO m a).isSome)
def spI (L : List Mo) (a : Int) : Option Nat := L.findIdx? (fun m => (obO m a).isSome)
theorem obO_id {m : Mo} {a : Int} {k : Nat} (h : obO m a = some k) : idO m a = some k := by
  unfold obO at h
  split at h
  · split at h
    · cases h; assumption
    · cases h
  · cases h
theorem fi_some {L : List Mo} {p : Mo → Bool} {i : Nat} {m : Mo} (e : L[i]? = some m) (hp : p m = true) (hu : ∀ (j : Nat) (x : Mo), L[j]? = some x → p x = true → j = i) : L.findIdx? p = some i := by
  obtain ⟨hi, rfl⟩ := List.getElem?_eq_some_iff.1 e
  rw [List.findIdx?_eq_some_iff_getElem]
  refine ⟨hi, hp, fun j hj hp' => ?_⟩
  have := hu j _ (List.getElem?_eq_getElem (by omega)) hp'
  omega
theorem fi_none {L : List Mo} {p : Mo → Bool} (h : ∀ (j : Nat) (x : Mo), L[j]? = some x → p x = false) : L.findIdx? p = none := by
  rw [List.findIdx?_eq_none_iff]
  intro x hx
  obtain ⟨j, hj⟩ := List.mem_iff_getElem?.1 hx
  exact h j x hj
theorem fi_get {L : List Mo} {p : Mo → Bool} {i : Nat} (h : L.findIdx? p = some i) : ∃ m, L[i]? = some m ∧ p m = true := by
  rw [List.findIdx?_eq_some_iff_getElem] at h
  obtain ⟨hi, hp, _⟩ := h
  exact ⟨_, List.getElem?_eq_getElem hi, hp⟩
theorem fi_no {L : List Mo} {p : Mo → Bool} (h : L.findIdx? p = none) {j : Nat} {x : Mo} (e : L[j]? = some x) : p x = false := by
  rw [List.findIdx?_eq_none_iff] at h
  exact h x (List.mem_of_getElem? e)
theorem CWf.bi {c : Ce} (h : CWf c) {i : Nat} {m : Mo} (e : c.L[i]? = some m) {a : Int} {k : Nat} (hk : idO m a = some k) : biI c.L a = some i :=
  fi_some e (by rw [hk]; rfl) fun j x hx hp => by
    obtain ⟨q, hq⟩ := Option.isSome_iff_exists.1 hp
    have h1 := h.has e hk
    have h2 := h.has hx hq
    omega
theorem CWf.spn {c : Ce} (h : CWf c) {i : Nat} {m : Mo} (e : c.L[i]? = some m) {a : Int} {k : Nat} (hk : obO m a = some k) : spI c.L a = some i :=
  fi_some e (by rw [hk]; rfl) fun j x hx hp => by
    obtain ⟨q, hq⟩ := Option.isSome_iff_exists.1 hp
    have h1 := h.has e (obO_id hk)
    have h2 := h.has hx (obO_id hq)
    omega
/-- .. looked for in the last span that begins at the byte's page or before it. -/
theorem CWf.bi_no {c : Ce} (h : CWf c) {a : Int} (hn : ∀ i m, i + 1 = Go.Proofs.YtejfoefhaphacaaGreat.pos c.L (a.tdiv 256) → c.L[i]? = some m → idO m a = none) : biI c.L a = none :=
  fi_none fun j x hx => by
    cases e : idO x a with
    | none => rfl
    | some k => have := hn j x (h.has hx e) hx; rw [e] at this; cases this
theorem CWf.sp_no {c : Ce} (h : CWf c) {a : Int} (hn : ∀ i m, i + 1 = Go.Proofs.YtejfoefhaphacaaGreat.pos c.L (a.tdiv 256) → c.L[i]? = some m → obO m a = none) : spI c.L a = none :=
  fi_none fun j x hx => by
    cases e : obO x a with
    | none => rfl
    | some k => have := hn j x (h.has hx (obO_id e)) hx; rw [e] at this; cases this

def liE : Option Ce → Int → Int
  | none, _ => 5
  | some c, a => match spI c.L a with
    | some _ => 0
    | none => 8
def liV : Option Ce → Int → Bool
  | none, _ => false
  | some c, a => match spI c.L a with
    | some i => (match c.L[i]? with
      | some m => isV (some m) a
      | none => false)
    | none => false
def fdE : Option Ce → Int → Int
  | none, _ => 5
  | some c, a => match biI c.L a with
    | some _ => 0
    | none => 8
def fdV : Option Ce → Int → Int
  | none, _ => 0
  | some c, a => match biI c.L a with
    | some i => (match c.L[i]? with
      | some m => (adr m (ixV (some m) a).toNat : Int)
      | none => 0)
    | none => 0
theorem liE_some {c : Ce} {a : Int} {i : Nat} (h : spI c.L a = some i) : liE (some c) a = 0 := by simp only [liE, h]
theorem liE_none {c : Ce} {a : Int} (h : spI c.L a = none) : liE (some c) a = 8 := by simp only [liE, h]
theorem liV_some {c : Ce} {a : Int} {i : Nat} {m : Mo} (h : spI c.L a = some i) (hm : c.L[i]? = some m) : liV (some c) a = isV (some m) a := by simp only [liV, h, hm]
theorem liV_none {c : Ce} {a : Int} (h : spI c.L a = none) : liV (some c) a = false := by simp only [liV, h]
theorem fdE_some {c : Ce} {a : Int} {i : Nat} (h : biI c.L a = some i) : fdE (some c) a = 0 := by simp only [fdE, h]
theorem fdE_none {c : Ce} {a : Int} (h : biI c.L a = none) : fdE (some c) a = 8 := by simp only [fdE, h]
theorem fdV_some {c : Ce} {a : Int} {i : Nat} {m : Mo} (h : biI c.L a = some i) (hm : c.L[i]? = some m) : fdV (some c) a = adr m (ixV (some m) a).toNat := by simp only [fdV, h, hm]
theorem fdV_none {c : Ce} {a : Int} (h : biI c.L a = none) : fdV (some c) a = 0 := by simp only [fdV, h]

/-! Counting. -/
def sumL (f : Mo → Nat) (L : List Mo) : Nat := (L.map f).sum
theorem sumL_take {f : Mo → Nat} {L : List Mo} {k : Nat} {m : Mo} (h : L[k]? = some m) : sumL f (L.take (k + 1)) = sumL f (L.take k) + f m := by
  unfold sumL
  rw [List.take_add_one, h]
  simp
theorem sumL_le {f : Mo → Nat} {b : Nat} : ∀ L : List Mo, (∀ m ∈ L, f m ≤ b) → sumL f L ≤ L.length * b
  | [], _ => by simp [sumL]
  | m :: t, h => by
    have h1 := sumL_le t fun x hx => h x (List.mem_cons_of_mem _ hx)
    have h2 := h m (List.mem_cons_self ..)
    unfold sumL at *
    rw [List.map_cons, List.sum_cons, List.length_cons, Nat.add_mul]
    omega
theorem sumL_split {f : Mo → Nat} {L : List Mo} {k : Nat} {m : Mo} (h : L[k]? = some m) : sumL f L = sumL f (L.take k) + (f m + sumL f (L.drop (k + 1))) := by
  have e : L = L.take k ++ (m :: L.drop (k + 1)) := by
    obtain ⟨hk, rfl⟩ := List.getElem?_eq_some_iff.1 h
    rw [List.getElem_cons_drop, List.take_append_drop]
  unfold sumL
  conv => lhs; rw [e]
  simp
theorem sumL_set {f : Mo → Nat} {L : List Mo} {k : Nat} {m x : Mo} (h : L[k]? = some m) : sumL f (L.set k x) + f m = sumL f L + f x := by
  have hk : k < L.length := (List.getElem?_eq_some_iff.1 h).1
  have h1 := sumL_split (f := f) h
  have h2 := sumL_split (f := f) (L := L.set k x) (k := k) (m := x) (by rw [List.getElem?_set_self hk])
  rw [List.take_set_of_le (Nat.le_refl k), List.drop_set_of_lt (show k < k + 1 from Nat.lt_succ_self k)] at h2
  omega
def tkC : Option Ce → Nat
  | none => 0
  | some c => sumL tc c.L
def rmC : Option Ce → Nat
  | none => 0
  | some c => sumL (fun m => m.n - tc m) c.L
def runs (om : Option Ce) : List (Nat × Nat) := match om with
  | none => []
  | some c => c.L.map (fun m => (m.s, m.g))
def clC : Option Ce → Value
  | none => .agg #[.int .i64 0, .int .i64 0, .int .i64 0]
  | some c => .agg #[.int .i64 c.z, .int .i64 c.g, .int .i64 c.t]

/-! Adding. -/
def cls (c : Ce) : Cs := ⟨c.z, c.g, c.t⟩
def ovl (L : List Mo) (g : Nat) (st : Int) : Bool := L.any (fun m => decide (st < (m.s : Int) + g ∧ (m.s : Int) < st + g))
def ins (L : List Mo) (i : Nat) (m : Mo) : List Mo := L.take i ++ m :: L.drop i
def adE : Option Ce → Int → Int
  | none, _ => 5
  | some c, st => if fitB st (cls c) = true then (if ovl c.L c.g st = true then 9 else 0) else 1
def adD : Option Ce → Int → Option Ce
  | none, _ => none
  | some c, st => if fitB st (cls c) = true then (if ovl c.L c.g st = true then some c else some { c with L := ins c.L (pos c.L st) (newM st (cls c)) }) else some c
theorem CWf.okc {c : Ce} (h : CWf c) : okC (cls c) = true := by
  have h1 := h.z1; have h2 := h.z2; have h3 := h.z8; have h4 := h.g1; have h5 := h.g2; have h6 := h.t1; have h7 := h.t2; have h8 := h.zg
  unfold okC cls
  rw [decide_eq_true_eq]
  dsimp only
  omega
theorem CWf.newof {c : Ce} {st : Int} (hf : fitB st (cls c) = true) : Of c (newM st (cls c)) := ⟨newM_wf hf, by show (c.z : Int).toNat = _; omega, by show (c.g : Int).toNat = _; omega, by show (c.t : Int).toNat = _; omega⟩
theorem ins_get {L : List Mo} {i : Nat} {m : Mo} (hi : i ≤ L.length) (j : Nat) : (ins L i m)[j]? = if j < i then L[j]? else if j = i then some m else L[j - 1]? := by
  unfold ins
  by_cases h : j < i
  · rw [if_pos h, List.getElem?_append_left (by rw [List.length_take]; omega), List.getElem?_take_of_lt h]
  · rw [if_neg h, List.getElem?_append_right (by rw [List.length_take]; omega), List.length_take, Nat.min_eq_left hi]
    by_cases h2 : j = i
    · rw [if_pos h2, h2, Nat.sub_self]; rfl
    · rw [if_neg h2, show j - i = (j - i - 1) + 1 from by omega, List.getElem?_cons_succ, List.getElem?_drop, show i + (j - i - 1) = j - 1 from by omega]
theorem CWf.add {c : Ce} (h : CWf c) {st : Int} (hf : fitB st (cls c) = true) (hn : ovl c.L c.g st = false) : CWf { c with L := ins c.L (Go.Proofs.YtejfoefhaphacaaGreat.pos c.L st) (newM st (cls c)) } := by
  have hnew := CWf.newof (c := c) hf
  have hs : ((newM st (cls c)).s : Int) = st := by
    unfold fitB at hf
    rw [Bool.and_eq_true, decide_eq_true_eq] at hf
    show ((st.toNat : Nat) : Int) = st
    omega
  have hle := pos_le c.L st
  unfold ovl at hn
  rw [List.any_eq_false] at hn
  refine ⟨h.z1, h.z2, h.z8, h.g1, h.g2, h.t1, h.t2, h.zg, fun x hx => ?_, ?_⟩
  · have hx : x ∈ c.L.take (Go.Proofs.YtejfoefhaphacaaGreat.pos c.L st) ++ newM st (cls c) :: c.L.drop (Go.Proofs.YtejfoefhaphacaaGreat.pos c.L st) := hx
    rw [List.mem_append, List.mem_cons] at hx
    rcases hx with hx | rfl | hx
    · exact ⟨(h.sp x (List.mem_of_mem_take hx)).wf, (h.sp x (List.mem_of_mem_take hx)).z, (h.sp x (List.mem_of_mem_take hx)).g, (h.sp x (List.mem_of_mem_take hx)).t⟩
    · exact ⟨hnew.wf, hnew.z, hnew.g, hnew.t⟩
    · exact ⟨(h.sp x (List.mem_of_mem_drop hx)).wf, (h.sp x (List.mem_of_mem_drop hx)).z, (h.sp x (List.mem_of_mem_drop hx)).g, (h.sp x (List.mem_of_mem_drop hx)).t⟩
  · show (ins c.L (Go.Proofs.YtejfoefhaphacaaGreat.pos c.L st) (newM st (cls c))).Pairwise _
    generalize hp : Go.Proofs.YtejfoefhaphacaaGreat.pos c.L st = p at *
    have key1 : ∀ i x, i < p → c.L[i]? = some x → x.s + c.g ≤ (newM st (cls c)).s := fun i x hi hx => by
      have h1 := (h.pos st hx).2 (by rw [hp]; exact hi)
      have h2 := hn x (List.mem_of_getElem? hx)
      simp only [decide_eq_true_eq] at h2
      have := h.g1
      omega
    have key2 : ∀ i x, p ≤ i → c.L[i]? = some x → (newM st (cls c)).s + c.g ≤ x.s := fun i x hi hx => by
      have h1 : ¬ (x.s : Int) ≤ st := fun hh => absurd ((h.pos st hx).1 hh) (by rw [hp]; omega)
      have h2 := hn x (List.mem_of_getElem? hx)
      simp only [decide_eq_true_eq] at h2
      have := h.g1
      omega
    refine List.pairwise_append.2 ⟨h.od.sublist (List.take_sublist _ _), List.pairwise_cons.2 ⟨fun y hy => ?_, h.od.sublist (List.drop_sublist _ _)⟩, fun x hx y hy => ?_⟩
    · obtain ⟨j, hj⟩ := List.mem_iff_getElem?.1 hy
      rw [List.getElem?_drop] at hj
      exact key2 _ y (by omega) hj
    · obtain ⟨i, hi⟩ := List.mem_iff_getElem?.1 hx
      have hip : i < p := by
        have := (List.getElem?_eq_some_iff.1 hi).1
        rw [List.length_take] at this
        omega
      rw [List.getElem?_take_of_lt hip] at hi
      rw [List.mem_cons] at hy
      rcases hy with rfl | hy
      · exact key1 i x hip hi
      · obtain ⟨j, hj⟩ := List.mem_iff_getElem?.1 hy
        rw [List.getElem?_drop] at hj
        exact h.ord (by omega) hi hj

/-! Sweeping. -/
def live (L : List Mo) : List Mo := L.filter (fun m => decide (tc m ≠ 0))
def dead (L : List Mo) : List Mo := L.filter (fun m => decide (tc m = 0))
theorem CWf.swept {c : Ce} (h : CWf c) : CWf { c with L := live c.L } :=
  ⟨h.z1, h.z2, h.z8, h.g1, h.g2, h.t1, h.t2, h.zg, fun x hx => ⟨(h.sp x (List.mem_filter.1 hx).1).wf, (h.sp x (List.mem_filter.1 hx).1).z, (h.sp x (List.mem_filter.1 hx).1).g, (h.sp x (List.mem_filter.1 hx).1).t⟩, h.od.sublist List.filter_sublist⟩
theorem filter_take {p : Mo → Bool} {L : List Mo} {k : Nat} {m : Mo} (h : L[k]? = some m) : (L.take (k + 1)).filter p = (L.take k).filter p ++ (if p m = true then [m] else []) := by
  rw [List.take_add_one, h, List.filter_append]
  congr 1
  by_cases hp : p m = true <;> simp [hp]
def swD : Option Ce → Option Ce
  | none => none
  | some c => some { c with L := live c.L }
def swV : Option Ce → List (Nat × Nat)
  | none => []
  | some c => (dead c.L).map (fun m => (m.s, m.g))

end Go.Proofs.YtejfoefhaphacaaGreat
