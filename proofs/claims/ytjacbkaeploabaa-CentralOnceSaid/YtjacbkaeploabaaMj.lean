/- A central list: all taken objects, as one list. -/
import Derived.Test.YtjacbkaeploabaaMi
namespace Go.Proofs.Ytjacbkaeploabaa

def allT (L : List Mo) : List Nat := L.flatMap (fun m => (tkn m).map (adr m))
theorem allT_app (L M : List Mo) : allT (L ++ M) = allT L ++ allT M := by unfold allT; exact List.flatMap_append
theorem allT_cons (m : Mo) (L : List Mo) : allT (m :: L) = (tkn m).map (adr m) ++ allT L := by unfold allT; exact List.flatMap_cons
theorem allT_len : ∀ L : List Mo, (allT L).length = sumL tc L
  | [] => rfl
  | m :: t => by
    rw [allT_cons, List.length_append, List.length_map, allT_len t]
    rfl
theorem tkn_nil {m : Mo} (h : tc m = 0) : tkn m = [] := List.length_eq_zero_iff.1 h
theorem allT_ins (L : List Mo) (i : Nat) {m : Mo} (h : tc m = 0) : allT (ins L i m) = allT L := by
  unfold ins
  rw [allT_app, allT_cons, tkn_nil h, List.map_nil, List.nil_append, ← allT_app, List.take_append_drop]
theorem allT_live : ∀ L : List Mo, allT (live L) = allT L
  | [] => rfl
  | m :: t => by
    have ih := allT_live t
    unfold live at *
    by_cases h : tc m = 0
    · rw [List.filter_cons_of_neg (by simpa using h), ih, allT_cons, tkn_nil h]; rfl
    · rw [List.filter_cons_of_pos (by simpa using h), allT_cons, allT_cons, ih]
theorem tkn_off (zs : List Int) (m : Mo) : tkn (offM zs m) = (tkn m).filter (fun k => !decide ((adr m k : Int) ∈ zs)) := by
  unfold tkn hl
  rw [List.filter_filter]
  refine List.filter_congr fun k hk => ?_
  have hk : k < m.n := by
    have h := (List.mem_range'_1.1 hk).2
    have : (offM zs m).n = m.n := rfl
    omega
  show (if k < m.n then m.f k && !decide ((adr m k : Int) ∈ zs) else m.f k) = _
  rw [if_pos hk, Bool.and_comm]
theorem allT_off (zs : List Int) : ∀ L : List Mo, allT (offL L zs) = (allT L).filter (fun a : Nat => !decide ((a : Int) ∈ zs))
  | [] => rfl
  | m :: t => by
    have ih := allT_off zs t
    have e : offL (m :: t) zs = offM zs m :: offL t zs := rfl
    rw [e, allT_cons, allT_cons, ih, List.filter_append, List.filter_map, tkn_off]
    rfl
theorem allT_mem {c : Ce} (h : CWf c) {a : Nat} (ha : a ∈ allT c.L) : liV (some c) a = true := by
  obtain ⟨m, hm, hq⟩ := List.mem_flatMap.1 ha
  obtain ⟨q, hq2, rfl⟩ := List.mem_map.1 hq
  obtain ⟨i, hi⟩ := List.mem_iff_getElem?.1 hm
  obtain ⟨h1, h2⟩ := tkn_mem.1 hq2
  rw [liV_set h hi h1]
  exact h2
theorem allT_stp {c : Ce} (h : CWf c) {a : Nat} {L' : List Mo} (hs : stp c.L = some (a, L')) : (allT L').Perm (a :: allT c.L) ∧ a ∉ allT c.L := by
  obtain ⟨b, o, m, _, hm, ho, rfl, rfl⟩ := stp_get hs
  obtain ⟨h1, h2, _⟩ := ff_get ho
  refine ⟨?_, fun hmem => ?_⟩
  · have hb := (List.getElem?_eq_some_iff.1 hm).1
    have e1 : c.L.set b (m.set o true) = c.L.take b ++ (m.set o true :: c.L.drop (b + 1)) := by rw [List.set_eq_take_append_cons_drop, if_pos hb]
    have e2 := cut_at hm
    have e3 : (tkn (m.set o true)).map (adr (m.set o true)) = (hl m.f 0 o).map (adr m) ++ (adr m o :: (hl m.f (o + 1) m.n).map (adr m)) := by
      rw [tkn_set h1, if_pos rfl, List.map_append, List.map_append]; rfl
    have e4 : (tkn m).map (adr m) = (hl m.f 0 o).map (adr m) ++ (hl m.f (o + 1) m.n).map (adr m) := by
      rw [tkn_at h1, h2, if_neg (by decide), List.nil_append, List.map_append]
    have e5 : allT c.L = allT (c.L.take b) ++ (((hl m.f 0 o).map (adr m) ++ (hl m.f (o + 1) m.n).map (adr m)) ++ allT (c.L.drop (b + 1))) := by
      conv => lhs; rw [e2]
      rw [allT_app, allT_cons, e4]
    rw [e1, allT_app, allT_cons, e3, e5]
    have hp := List.perm_middle (a := adr m o) (l₁ := allT (c.L.take b) ++ (hl m.f 0 o).map (adr m)) (l₂ := (hl m.f (o + 1) m.n).map (adr m) ++ allT (c.L.drop (b + 1)))
    simpa only [List.append_assoc, List.cons_append] using hp
  · have := allT_mem h hmem
    rw [liV_set h hm h1, h2] at this
    cases this
theorem rm_tk {n : Nat} : ∀ L : List Mo, (∀ m, m ∈ L → m.n = n) → sumL (fun m => m.n - tc m) L + sumL tc L = L.length * n
  | [], _ => by simp [sumL]
  | m :: t, h => by
    have ih := rm_tk t fun x hx => h x (List.mem_cons_of_mem _ hx)
    have h1 := h m (List.mem_cons_self ..)
    have h2 := tc_le m
    unfold sumL at *
    rw [List.map_cons, List.map_cons, List.sum_cons, List.sum_cons, List.length_cons, Nat.add_mul]
    omega
theorem CWf.rmtk {c : Ce} (h : CWf c) : rmC (some c) + tkC (some c) = c.L.length * c.n := rm_tk c.L fun m hm => (h.sp m hm).n

end Go.Proofs.Ytjacbkaeploabaa
