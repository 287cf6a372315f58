/- A central list: its spans by rising first pages, and what the document's calls return and leave, as functions. -/
import Derived.Test.YtejfoefhaphacaaGreatMa
namespace Go.Proofs.YtejfoefhaphacaaGreat

/-- How many objects of a span are taken. -/
def tc (m : Mo) : Nat := (tkn m).length
theorem tc_le (m : Mo) : tc m ≤ m.n := by
  have := hl_len m.f 0 m.n
  unfold tc tkn
  omega
theorem tkn_at {m : Mo} {k : Nat} (hk : k < m.n) : tkn m = hl m.f 0 k ++ ((if m.f k = true then [k] else []) ++ hl m.f (k + 1) m.n) := by
  unfold tkn
  rw [hl_split (Nat.zero_le k) (Nat.le_of_lt hk)]
  by_cases h : m.f k = true
  · rw [hl_hit hk h, if_pos h]; rfl
  · rw [hl_miss hk (by simpa using h), if_neg h]; rfl
theorem tkn_set {m : Mo} {k : Nat} (hk : k < m.n) (v : Bool) : tkn (m.set k v) = hl m.f 0 k ++ ((if v = true then [k] else []) ++ hl m.f (k + 1) m.n) := by
  rw [tkn_at (m := m.set k v) hk]
  show hl (upd m.f k v) 0 k ++ ((if upd m.f k v k = true then [k] else []) ++ hl (upd m.f k v) (k + 1) m.n) = _
  rw [hl_congr (d := m.f) (n := k) fun p _ h => by show (if p = k then v else m.f p) = m.f p; rw [if_neg (by omega)], hl_congr (d := m.f) (k := k + 1) fun p h _ => by show (if p = k then v else m.f p) = m.f p; rw [if_neg (by omega)], show upd m.f k v k = v from if_pos rfl]
theorem tc_on {m : Mo} {k : Nat} (hk : k < m.n) (h : m.f k = false) : tc (m.set k true) = tc m + 1 := by
  unfold tc
  rw [tkn_set hk, tkn_at hk, if_pos rfl, if_neg (by rw [h]; decide)]
  simp
  omega
theorem tc_off {m : Mo} {k : Nat} (hk : k < m.n) (h : m.f k = true) : tc (m.set k false) + 1 = tc m := by
  unfold tc
  rw [tkn_set hk, tkn_at hk, if_pos h, if_neg (by decide)]
  simp
  omega
theorem tkn_mem {m : Mo} {k : Nat} : k ∈ tkn m ↔ k < m.n ∧ m.f k = true := by
  unfold tkn
  rw [hl_mem]
  constructor
  · rintro ⟨h1, h2⟩; exact ⟨h1.2, h2⟩
  · rintro ⟨h1, h2⟩; exact ⟨⟨Nat.zero_le _, h1⟩, h2⟩
theorem tc_zero {m : Mo} : tc m = 0 ↔ ∀ k, k < m.n → m.f k = false := by
  unfold tc
  rw [List.length_eq_zero_iff, List.eq_nil_iff_forall_not_mem]
  constructor
  · intro h k hk
    have := h k
    rw [tkn_mem] at this
    simpa [hk] using this
  · intro h k hk
    rw [tkn_mem] at hk
    rw [h k hk.1] at hk
    exact absurd hk.2 (by decide)
theorem tc_full {m : Mo} (h : ∀ k, k < m.n → m.f k = true) : tc m = m.n := by
  unfold tc tkn hl
  rw [List.filter_eq_self.2 (fun x hx => h x (by rw [List.mem_range'_1] at hx; omega)), List.length_range']
  omega
theorem tc_lt {m : Mo} {k : Nat} (hk : k < m.n) (h : m.f k = false) : tc m < m.n := by
  have := tc_on hk h
  have := tc_le (m.set k true)
  have : (m.set k true).n = m.n := rfl
  omega
theorem ff_tc {m : Mo} (h : tc m < m.n) : ∃ k, ff m = some k := by
  cases e : ff m with
  | some k => exact ⟨k, rfl⟩
  | none => have := tc_full (ff_full e); omega
theorem tc_ff {m : Mo} {k : Nat} (h : ff m = some k) : tc m < m.n := tc_lt (ff_get h).1 (ff_get h).2.1
theorem tc_none {m : Mo} (h : ff m = none) : tc m = m.n := tc_full (ff_full h)

/-- A central list: its class; its spans. -/
structure Ce where
  z : Nat
  g : Nat
  t : Nat
  L : List Mo
def Ce.n (c : Ce) : Nat := c.g * 256 / c.z
/-- A span of the list's class. -/
structure Of (c : Ce) (m : Mo) : Prop where
  wf : WF m
  z : m.z = c.z
  g : m.g = c.g
  t : m.t = c.t
theorem Of.n {c : Ce} {m : Mo} (h : Of c m) : m.n = c.n := by rw [h.wf.nn, h.z, h.g]; rfl
structure CWf (c : Ce) : Prop where
  z1 : 8 ≤ c.z
  z2 : c.z ≤ 512
  z8 : c.z % 8 = 0
  g1 : 1 ≤ c.g
  g2 : c.g ≤ 4
  t1 : 1 ≤ c.t
  t2 : c.t ≤ 32
  zg : c.z ≤ c.g * 256
  sp : ∀ m, m ∈ c.L → Of c m
  od : c.L.Pairwise (fun x y => x.s + c.g ≤ y.s)
theorem CWf.at {c : Ce} (h : CWf c) {i : Nat} {m : Mo} (e : c.L[i]? = some m) : Of c m := h.sp m (List.mem_of_getElem? e)
theorem CWf.n1 {c : Ce} (h : CWf c) : 1 ≤ c.n ∧ c.n ≤ 128 ∧ c.n * c.z ≤ c.g * 256 := objs_bd h.z1 h.zg h.g2
theorem pw_get {L : List Mo} {R : Mo → Mo → Prop} (h : L.Pairwise R) {i j : Nat} {x y : Mo} (hij : i < j) (ex : L[i]? = some x) (ey : L[j]? = some y) : R x y := by
  obtain ⟨hi, rfl⟩ := List.getElem?_eq_some_iff.1 ex
  obtain ⟨hj, rfl⟩ := List.getElem?_eq_some_iff.1 ey
  exact List.pairwise_iff_getElem.1 h i j hi hj hij
theorem CWf.ord {c : Ce} (h : CWf c) {i j : Nat} {x y : Mo} (hij : i < j) (ex : c.L[i]? = some x) (ey : c.L[j]? = some y) : x.s + c.g ≤ y.s := pw_get h.od hij ex ey
theorem CWf.le_s {c : Ce} (h : CWf c) : ∀ (i : Nat) (m : Mo), c.L[i]? = some m → i ≤ m.s
  | 0, _, _ => Nat.zero_le _
  | i + 1, m, e => by
    obtain ⟨x, hx⟩ : ∃ x, c.L[i]? = some x := ⟨_, List.getElem?_eq_getElem (by have := (List.getElem?_eq_some_iff.1 e).1; omega)⟩
    have h1 := h.le_s i x hx
    have h2 := h.ord (Nat.lt_succ_self i) hx e
    have := h.g1
    omega
theorem CWf.len {c : Ce} (h : CWf c) : c.L.length ≤ 1024 := by
  cases hl : c.L.length with
  | zero => omega
  | succ k =>
    obtain ⟨x, hx⟩ : ∃ x, c.L[k]? = some x := ⟨_, List.getElem?_eq_getElem (by omega)⟩
    have h1 := h.le_s k x hx
    have h2 := (h.at hx).wf.s1
    have h3 := (h.at hx).wf.g1
    omega

/-- One span of a list changed in what is taken. -/
theorem CWf.set {c : Ce} (h : CWf c) {i : Nat} {m : Mo} (e : c.L[i]? = some m) (k : Nat) (v : Bool) : CWf { c with L := c.L.set i (m.set k v) } := by
  have hm := h.at e
  refine ⟨h.z1, h.z2, h.z8, h.g1, h.g2, h.t1, h.t2, h.zg, fun x hx => ?_, ?_⟩
  · rcases List.mem_or_eq_of_mem_set hx with hx | rfl
    · exact ⟨(h.sp x hx).wf, (h.sp x hx).z, (h.sp x hx).g, (h.sp x hx).t⟩
    · exact ⟨hm.wf.set k v, hm.z, hm.g, hm.t⟩
  · show (c.L.set i (m.set k v)).Pairwise _
    refine List.pairwise_iff_getElem.2 fun a b ha hb hab => ?_
    rw [List.length_set] at ha hb
    have ga : (c.L.set i (m.set k v))[a].s = c.L[a].s := by
      rw [List.getElem_set]
      split
      · subst i; obtain ⟨_, he⟩ := List.getElem?_eq_some_iff.1 e; rw [he]; rfl
      · rfl
    have gb : (c.L.set i (m.set k v))[b].s = c.L[b].s := by
      rw [List.getElem_set]
      split
      · subst i; obtain ⟨_, he⟩ := List.getElem?_eq_some_iff.1 e; rw [he]; rfl
      · rfl
    rw [ga, gb]
    exact List.pairwise_iff_getElem.1 h.od a b ha hb hab

/-! Taking: the fullest span with a free object, of several the lowest. -/
def tcA (L : List Mo) (i : Nat) : Nat := match L[i]? with
  | some m => tc m
  | none => 0
theorem tcA_at {L : List Mo} {i : Nat} {m : Mo} (h : L[i]? = some m) : tcA L i = tc m := by simp only [tcA, h]
def bst (L : List Mo) : Nat → Option Nat
  | 0 => none
  | k + 1 => match L[k]? with
    | none => bst L k
    | some m => if tc m < m.n then (match bst L k with
      | none => some k
      | some b => if tcA L b < tc m then some k else some b) else bst L k
theorem bst_out {L : List Mo} {k : Nat} (h : L[k]? = none) : bst L (k + 1) = bst L k := by simp only [bst, h]
theorem bst_full {L : List Mo} {k : Nat} {m : Mo} (h : L[k]? = some m) (hf : ¬ tc m < m.n) : bst L (k + 1) = bst L k := by simp only [bst, h, if_neg hf]
theorem bst_first {L : List Mo} {k : Nat} {m : Mo} (h : L[k]? = some m) (hf : tc m < m.n) (hb : bst L k = none) : bst L (k + 1) = some k := by simp only [bst, h, if_pos hf, hb]
theorem bst_more {L : List Mo} {k b : Nat} {m : Mo} (h : L[k]? = some m) (hf : tc m < m.n) (hb : bst L k = some b) (hg : tcA L b < tc m) : bst L (k + 1) = some k := by simp only [bst, h, if_pos hf, hb, if_pos hg]
theorem bst_less {L : List Mo} {k b : Nat} {m : Mo} (h : L[k]? = some m) (hf : tc m < m.n) (hb : bst L k = some b) (hg : ¬ tcA L b < tc m) : bst L (k + 1) = some b := by simp only [bst, h, if_pos hf, hb, if_neg hg]

/-- The best of the first k spans. -/
structure Best (L : List Mo) (k b : Nat) : Prop where
  lt : b < k
  free : ∃ m, L[b]? = some m ∧ tc m < m.n
  top : ∀ j m, j < k → L[j]? = some m → tc m < m.n → tc m ≤ tcA L b ∧ (j < b → tc m < tcA L b)
theorem bst_spec (L : List Mo) : ∀ k, (∀ b, bst L k = some b → Best L k b) ∧ (bst L k = none → ∀ j m, j < k → L[j]? = some m → ¬ tc m < m.n)
  | 0 => ⟨fun b h => by simp [bst] at h, fun _ j m hj => by omega⟩
  | k + 1 => by
    obtain ⟨i1, i2⟩ := bst_spec L k
    cases hk : L[k]? with
    | none =>
      rw [bst_out hk]
      refine ⟨fun b hb => ?_, fun hn j m hj hm => ?_⟩
      · have := i1 b hb
        exact ⟨by have := this.lt; omega, this.free, fun j m hj hm hf => this.top j m (by rcases Nat.lt_or_ge j k with h | h; exact h; obtain rfl : j = k := by omega
                                                                                          rw [hk] at hm; cases hm) hm hf⟩
      · rcases Nat.lt_or_ge j k with h | h
        · exact i2 hn j m h hm
        · obtain rfl : j = k := by omega
          rw [hk] at hm; cases hm
    | some m0 =>
      by_cases hf : tc m0 < m0.n
      · cases hb : bst L k with
        | none =>
          rw [bst_first hk hf hb]
          refine ⟨fun b hbb => ?_, fun h => nomatch h⟩
          cases hbb
          refine ⟨by omega, ⟨m0, hk, hf⟩, fun j m hj hm hfm => ?_⟩
          rcases Nat.lt_or_ge j k with h | h
          · exact absurd hfm (i2 hb j m h hm)
          · obtain rfl : j = k := by omega
            rw [hk] at hm; cases hm
            rw [tcA_at hk]
            exact ⟨Nat.le_refl _, fun h => by omega⟩
        | some b0 =>
          have B0 := i1 b0 hb
          by_cases hg : tcA L b0 < tc m0
          · rw [bst_more hk hf hb hg]
            refine ⟨fun b hbb => ?_, fun h => nomatch h⟩
            cases hbb
            refine ⟨by omega, ⟨m0, hk, hf⟩, fun j m hj hm hfm => ?_⟩
            rw [tcA_at hk]
            rcases Nat.lt_or_ge j k with h | h
            · have := (B0.top j m h hm hfm).1
              exact ⟨by omega, fun _ => by omega⟩
            · obtain rfl : j = k := by omega
              rw [hk] at hm; cases hm
              exact ⟨Nat.le_refl _, fun h => by omega⟩
          · rw [bst_less hk hf hb hg]
            refine ⟨fun b hbb => ?_, fun h => nomatch h⟩
            cases hbb
            refine ⟨by have := B0.lt; omega, B0.free, fun j m hj hm hfm => ?_⟩
            rcases Nat.lt_or_ge j k with h | h
            · exact B0.top j m h hm hfm
            · obtain rfl : j = k := by omega
              rw [hk] at hm; cases hm
              exact ⟨by omega, fun h => by have := B0.lt; omega⟩
      · rw [bst_full hk hf]
        refine ⟨fun b hb => ?_, fun hn j m hj hm => ?_⟩
        · have := i1 b hb
          refine ⟨by have := this.lt; omega, this.free, fun j m hj hm hfm => ?_⟩
          rcases Nat.lt_or_ge j k with h | h
          · exact this.top j m h hm hfm
          · obtain rfl : j = k := by omega
            rw [hk] at hm; cases hm
            exact absurd hfm hf
        · rcases Nat.lt_or_ge j k with h | h
          · exact i2 hn j m h hm
          · obtain rfl : j = k := by omega
            rw [hk] at hm; cases hm
            exact hf
theorem bst_eq {L : List Mo} {k b : Nat} (h : Best L k b) : bst L k = some b := by
  obtain ⟨m, hm, hf⟩ := h.free
  cases e : bst L k with
  | none => exact absurd hf ((bst_spec L k).2 e b m h.lt hm)
  | some d =>
    have D := (bst_spec L k).1 d e
    obtain ⟨md, hmd, hfd⟩ := D.free
    have h1 := h.top d md D.lt hmd hfd
    have h2 := D.top b m h.lt hm hf
    rw [tcA_at hm] at h1
    rw [tcA_at hmd] at h2
    rcases Nat.lt_trichotomy d b with h3 | h3 | h3
    · have := h1.2 h3; omega
    · rw [h3]
    · have := h2.2 h3; omega
theorem bst_no {L : List Mo} {k : Nat} (h : ∀ j m, j < k → L[j]? = some m → ¬ tc m < m.n) : bst L k = none := by
  cases e : bst L k with
  | none => rfl
  | some d =>
    obtain ⟨md, hmd, hfd⟩ := ((bst_spec L k).1 d e).free
    exact absurd hfd (h d md ((bst_spec L k).1 d e).lt hmd)

/-- One object is taken: its address and the spans behind it. -/
def stp (L : List Mo) : Option (Nat × List Mo) := match bst L L.length with
  | none => none
  | some b => match L[b]? with
    | none => none
    | some m => match ff m with
      | none => none
      | some o => some (adr m o, L.set b (m.set o true))
theorem stp_some {L : List Mo} {b o : Nat} {m : Mo} (h : bst L L.length = some b) (hm : L[b]? = some m) (ho : ff m = some o) : stp L = some (adr m o, L.set b (m.set o true)) := by simp only [stp, h, hm, ho]
theorem stp_none {L : List Mo} (h : bst L L.length = none) : stp L = none := by simp only [stp, h]
theorem stp_get {L L' : List Mo} {a : Nat} (h : stp L = some (a, L')) : ∃ b o m, bst L L.length = some b ∧ L[b]? = some m ∧ ff m = some o ∧ a = adr m o ∧ L' = L.set b (m.set o true) := by
  unfold stp at h
  split at h
  · cases h
  · rename_i b hb
    split at h
    · cases h
    · rename_i m hm
      split at h
      · cases h
      · rename_i o ho
        cases h
        exact ⟨b, o, m, hb, hm, ho, rfl, rfl⟩
theorem stp_no {L : List Mo} (h : stp L = none) : bst L L.length = none := by
  cases e : bst L L.length with
  | none => rfl
  | some b =>
    obtain ⟨m, hm, hf⟩ := ((bst_spec L _).1 b e).free
    obtain ⟨o, ho⟩ := ff_tc hf
    rw [stp_some e hm ho] at h
    cases h

/-- Objects are taken, one after the other. -/
def tkL : Nat → List Mo → List Nat × List Mo
  | 0, L => ([], L)
  | k + 1, L => match stp L with
    | none => ([], L)
    | some (a, L') => (a :: (tkL k L').1, (tkL k L').2)
theorem tkL_none {k : Nat} {L : List Mo} (h : stp L = none) : tkL k L = ([], L) := by
  cases k with
  | zero => rfl
  | succ k => simp only [tkL, h]
theorem tkL_some {k a : Nat} {L L' : List Mo} (h : stp L = some (a, L')) : tkL (k + 1) L = (a :: (tkL k L').1, (tkL k L').2) := by simp only [tkL, h]
theorem tkL_add (k : Nat) : ∀ (j : Nat) (L : List Mo), tkL (j + k) L = ((tkL j L).1 ++ (tkL k (tkL j L).2).1, (tkL k (tkL j L).2).2)
  | 0, L => by rw [Nat.zero_add]; rfl
  | j + 1, L => by
    cases h : stp L with
    | none => rw [tkL_none h, tkL_none h]; show ([], L) = ([] ++ (tkL k L).1, (tkL k L).2); rw [tkL_none h]; rfl
    | some x =>
      obtain ⟨a, L'⟩ := x
      rw [show j + 1 + k = (j + k) + 1 from by omega, tkL_some h, tkL_some h, tkL_add k j L']
      rfl
theorem tkL_snoc {k a : Nat} {L L' : List Mo} (h : stp (tkL k L).2 = some (a, L')) : tkL (k + 1) L = ((tkL k L).1 ++ [a], L') := by
  rw [tkL_add 1 k L, tkL_some h]; rfl
theorem tkL_stop {j k : Nat} {L : List Mo} (h : stp (tkL j L).2 = none) (hjk : j ≤ k) : tkL k L = tkL j L := by
  obtain ⟨d, rfl⟩ := Nat.exists_eq_add_of_le hjk
  rw [tkL_add d j L, tkL_none h]
  simp
/-- What a run of takes has come to: n taken, in order. -/
def Tkn (L : List Mo) (out : List Nat) (L' : List Mo) : Prop := tkL out.length L = (out, L')
theorem Tkn.nil (L : List Mo) : Tkn L [] L := rfl
theorem Tkn.snoc {L L1 L2 : List Mo} {out : List Nat} {a : Nat} (h : Tkn L out L1) (hs : stp L1 = some (a, L2)) : Tkn L (out ++ [a]) L2 := by
  unfold Tkn at *
  rw [List.length_append, List.length_singleton, tkL_snoc (L' := L2) (a := a) (by rw [h]; exact hs), h]
theorem Tkn.all {L L1 : List Mo} {out : List Nat} (h : Tkn L out L1) (hs : stp L1 = none) {k : Nat} (hk : out.length ≤ k) : tkL k L = (out, L1) := by
  unfold Tkn at h
  rw [tkL_stop (by rw [h]; exact hs) hk, h]

end Go.Proofs.YtejfoefhaphacaaGreat
