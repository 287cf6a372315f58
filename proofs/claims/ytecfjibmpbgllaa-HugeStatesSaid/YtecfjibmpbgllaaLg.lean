/- Package huge: the candidates, sorted. -/
import Derived.Test.YtecfjibmpbgllaaLf
import Derived.Test.YtecfjibmpbgllaaSh
import Derived.Shelf.SlGeneric
import Derived.Shelf.SlSortCmp.NoneTotal
import Derived.Ground.SlsfProg
import Derived.Deep.AppendLies
namespace Go.Proofs.Ytecfjibmpbgllaa
open Go.RowKit Go.Sort Go.Shelf Go.Lib

/-- The huge pages that there are. -/
abbrev Hu (h : Nat) := { x : Nat // x < h }
def encH (h : Nat) (x : Hu h) : Value := .int .i64 (x.1 : Int)
def cfH (S : Nat → Nat) (h : Nat) (x y : Hu h) : Int := cfv S x.1 y.1

theorem ltOf_eq (S : Nat → Nat) (h : Nat) (h64 : h ≤ 64) : ltOf (cfH S h) = fun x y => decide (key S x.1 < key S y.1) := by
  funext x y
  unfold ltOf cfH
  rw [decide_eq_decide]
  exact cfv_lt S _ _ (by have := x.2; omega) (by have := y.2; omega)
theorem swo_huge (S : Nat → Nat) (h : Nat) (h64 : h ≤ 64) : SWO (ltOf (cfH S h)) := by
  rw [ltOf_eq S h h64]
  refine ⟨fun x => ?_, fun x y z h1 h2 => ?_, fun x y z h1 h2 => ?_⟩
  · simp
  · rw [decide_eq_true_eq] at *; omega
  · rw [decide_eq_false_iff_not] at *; omega
theorem one_huge (S : Nat → Nat) (h : Nat) (h64 : h ≤ 64) (x y : Hu h) (h1 : ltOf (cfH S h) x y = false) (h2 : ltOf (cfH S h) y x = false) : x = y := by
  rw [ltOf_eq S h h64] at h1 h2
  simp only [decide_eq_false_iff_not] at h1 h2
  exact Subtype.ext (key_inj (S := S) (by have := x.2; omega) (by have := y.2; omega) (by omega))

/-- What the sort leaves, as a list of numbers. -/
theorem sorted_ord (S : Nat → Nat) (h : Nat) (h64 : h ≤ 64) (d : List (Hu h)) (hd : d.map (·.1) = cands S h) :
    (d.mergeSort fun x y => !(ltOf (cfH S h)) y x).map (·.1) = ordN S h := by
  rw [ltOf_eq S h h64]
  have hp := List.mergeSort_perm d (fun x y => !decide (key S y.1 < key S x.1))
  have hnd : d.Nodup := by
    have := cands_nodup S h
    rw [← hd] at this
    exact (List.pairwise_map.1 this).imp fun {a b} h e => h (congrArg Subtype.val e)
  have hs : (d.mergeSort (fun x y => !decide (key S y.1 < key S x.1))).Pairwise (fun x y => (!decide (key S y.1 < key S x.1)) = true) :=
    List.pairwise_mergeSort (fun a b c h1 h2 => by simp only [Bool.not_eq_true', decide_eq_false_iff_not] at *; omega) (fun a b => by simp only [Bool.or_eq_true, Bool.not_eq_true', decide_eq_false_iff_not]; omega) d
  refine OrdL.eq (n := h) ⟨?_, fun k => ?_⟩ (ordN_ok S h h64)
  · rw [List.pairwise_map]
    refine (hs.and (hp.nodup_iff.2 hnd)).imp fun {a b} ⟨h1, h2⟩ => ?_
    simp only [Bool.not_eq_true', decide_eq_false_iff_not] at h1
    rcases Nat.lt_or_ge (key S a.1) (key S b.1) with h | h
    · exact h
    · exact absurd (Subtype.ext (key_inj (S := S) (by have := a.2; omega) (by have := b.2; omega) (by omega))) h2
  · rw [← cands_mem, ← hd]
    exact (hp.map _).mem_iff

theorem cmp_lays {w : World} {O : Nat → Prop} {B Z g n : Nat} {m : Mo} [Inhabited (Hu m.h)] (h : Tk w O B m) (hz : w.cell? ⟨Z, 0, none⟩ = some (.pointer (some ⟨B, 0, none⟩))) (hg : ¬ O g) (hgz : Z ≠ g) :
    CmpLays1 Try.prog 74 #[.pointer (some ⟨Z, 0, none⟩)] (encH m.h) (cfH m.S m.h) g 0 n w := fun q os dk _ x y => by
  have hZ := World.block_lt_of_cell? _ _ hz
  have hk : Keep (fun k => k = g) w (sortWorld (encH m.h) w g 0 q dk os) := by
    refine ⟨rfl, rfl, rfl, by simp [sortWorld], fun k hk hne => ?_⟩
    unfold sortWorld
    rw [heap_grow_old _ _ (by simpa using hk)]
    have : g ≠ k := fun e => hne e.symm
    simp [putRow, mapBlock, Sort.ahead, Array.getElem?_modify, this]
  have hT := h.keep hk (fun k h1 h2 => hg (h2 ▸ h1))
  have hz' : (sortWorld (encH m.h) w g 0 q dk os).cell? ⟨Z, 0, none⟩ = some (.pointer (some ⟨B, 0, none⟩)) :=
    (World.cell?_of_block (w := w) (a := ⟨Z, 0, none⟩) (hk.block Z hZ hgz)).trans hz
  exact closure_any x.1 y.1 hT hz' x.2 y.2

set_option maxRecDepth 100000 in
set_option maxHeartbeats 1000000 in
/-- The sort of the candidates. -/
theorem sort_any {w : World} {O : Nat → Prop} {B Z g c : Nat} {m : Mo} (h : Tk w O B m) (hz : w.cell? ⟨Z, 0, none⟩ = some (.pointer (some ⟨B, 0, none⟩))) (hg : ¬ O g) (hgz : Z ≠ g)
    (hgs : g < w.heap.size) (hc : ∀ i x : Nat, (cands m.S m.h)[i]? = some x → w.cell? ⟨g, i, none⟩ = some (.int .i64 (x : Int)) ∧ w.frozen? ⟨g, i, none⟩ = false) :
    Calls Try.prog 73 #[.slice (some ⟨g, 0, none⟩) (cands m.S m.h).length c, .func (.func 74) #[] #[.pointer (some ⟨Z, 0, none⟩)]] w fun e w' =>
      e = .returned (.tuple #[]) ∧ Keep (fun k => k = g) w w' ∧ ∀ i x : Nat, (ordN m.S m.h)[i]? = some x → w'.cell? ⟨g, i, none⟩ = some (.int .i64 (x : Int)) := by
  have h1 := h.wf.h1
  have h64 := h.wf.h2
  haveI : Inhabited (Hu m.h) := ⟨⟨0, by omega⟩⟩
  have hall : ∀ x ∈ cands m.S m.h, x < m.h := fun x hx => ((cands_mem m.S m.h x).1 hx).1
  obtain ⟨d, hd⟩ : ∃ d : List (Hu m.h), d.map (·.1) = cands m.S m.h := ⟨(cands m.S m.h).attachWith (· < m.h) hall, by simp⟩
  have hlen : d.length = (cands m.S m.h).length := by rw [← hd, List.length_map]
  have hH : Holds (encH m.h) w g 0 d.toArray := fun j hj => by
    have hj' : j < d.length := by simpa using hj
    have hx : (cands m.S m.h)[j]? = some (d[j]).1 := by rw [← hd, List.getElem?_map, List.getElem?_eq_getElem hj']; rfl
    have := hc j _ hx
    have e : d.toArray[j]! = d[j] := by simp [hj']
    rw [e, Nat.zero_add]
    exact this
  have eg : ∀ args w, (callFunc 74 args).run Try.prog w = .ok (.enter 74 args) w := enters_of Try.func74 (by kernel_rfl) rfl
  have hcon := Any.slices_SortFunc_total Try.sortHuge (encH m.h) (fun _ => rfl) (cfH m.S m.h) (swo_huge m.S m.h h64) 74 #[.pointer (some ⟨Z, 0, none⟩)] g 0 c d.toArray w eg (cmp_lays h hz hg hgz) hH hgs
    (by have := cands_len m.S m.h; simp; omega) (one_huge m.S m.h h64)
  change Calls Try.prog 73 _ _ _ at hcon
  rw [show d.toArray.size = (cands m.S m.h).length by simp [hlen]] at hcon
  refine hcon.mono fun e w' ⟨he, q, os, hw⟩ => ⟨he, ?_, fun i x hx => ?_⟩
  · rw [hw]
    refine ⟨rfl, rfl, rfl, by simp [sortWorld], fun k hk hne => ?_⟩
    unfold sortWorld
    rw [heap_grow_old _ _ (by simpa using hk)]
    have : g ≠ k := fun e => hne e.symm
    simp [putRow, mapBlock, Sort.ahead, Array.getElem?_modify, this]
  · have hso := sorted_ord m.S m.h h64 d hd
    have hperm : (d.mergeSort fun x y => !(ltOf (cfH m.S m.h)) y x).length = d.length := (List.mergeSort_perm _ _).length_eq
    have e0 : d.toArray.toList = d := by simp
    rw [e0] at hw
    generalize hL : (d.mergeSort fun x y => !(ltOf (cfH m.S m.h)) y x) = L at hw hso hperm
    have hi : i < L.length := by
      have := (List.getElem?_eq_some_iff.1 hx).1
      rw [← hso, List.length_map] at this
      exact this
    have hsw : SW (encH m.h) w g 0 L.toArray w' := ⟨q, os, hw⟩
    have := hsw.c1 ⟨fun _ => rfl, hH, hgs⟩ (by simp [hperm]) i (by simpa using hi)
    rw [Nat.zero_add] at this
    rw [this, show L.toArray[i]! = L[i] by simp [hi]]
    rw [← hso, List.getElem?_map, List.getElem?_eq_getElem hi] at hx
    obtain rfl : (L[i]).1 = x := by simpa using hx
    rfl

end Go.Proofs.Ytecfjibmpbgllaa
