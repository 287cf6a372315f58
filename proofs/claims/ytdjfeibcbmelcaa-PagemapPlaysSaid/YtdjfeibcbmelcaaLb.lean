/- Package pagemap: a child of a node; a node that is compared with the empty one. -/
import Derived.Test.YtdjfeibcbmelcaaLa
import Derived.ChangeKeysEq
namespace Go.Proofs.Ytdjfeibcbmelcaa
open Go.RowKit

set_option maxHeartbeats 1000000 in
theorem child54_there (R i b : Nat) (w : World) (hi : i < 16) (hc : w.cell? ⟨R, i, none⟩ = some (pt (some b))) :
    Calls Try.prog 54 #[.slice (some ⟨R, 0, none⟩) 16 16, .int .i64 i] w fun e w' => e = .returned (.pointer (some ⟨b, 0, none⟩)) ∧ w = w' := by
  have hc' : w.cell? ⟨R, i, none⟩ = some (.pointer (some ⟨b, 0, none⟩)) := hc
  clear hc
  go_enter Try.func54, Try.ntmps54
  go_wp2
  go_ret
  exact ⟨rfl, rfl⟩

set_option maxHeartbeats 1000000 in
theorem child54_new {f : Nat → Value} (R i : Nat) (w : World) (hi : i < 16) (hR : Cl w R 16 f) (hf : f i = pt none) :
    Calls Try.prog 54 #[.slice (some ⟨R, 0, none⟩) 16 16, .int .i64 i] w fun e w' => e = .returned (.pointer (some ⟨w.heap.size, 0, none⟩)) ∧ w' = (w.alloc (.cells #[.pointer none, .pointer none, .pointer none, .pointer none, .pointer none, .pointer none, .pointer none, .pointer none] 82)).setCell ⟨R, i, none⟩ (.pointer (some ⟨w.heap.size, 0, none⟩)) := by
  have hc := hR.cell i hi
  rw [hf] at hc
  have hR2 := hR.alloc (.cells #[.pointer none, .pointer none, .pointer none, .pointer none, .pointer none, .pointer none, .pointer none, .pointer none] 82)
  have hfr := hR2.free i hi
  have hc2 := hR2.cell i hi
  rw [hf] at hc2
  unfold pt at hc hc2
  simp only [Option.map_none] at hc hc2
  have hc3 := World.cell?_setCell_same _ _ (.pointer (some ⟨w.heap.size, 0, none⟩)) hc2
  clear hR hR2
  go_enter Try.func54, Try.ntmps54
  go_wp2
  go_ret
  exact ⟨rfl, rfl⟩

set_option maxHeartbeats 1000000 in
theorem child55_there (R i b : Nat) (w : World) (hi : i < 8) (hc : w.cell? ⟨R, i, none⟩ = some (pt (some b))) :
    Calls Try.prog 55 #[.slice (some ⟨R, 0, none⟩) 8 8, .int .i64 i] w fun e w' => e = .returned (.pointer (some ⟨b, 0, none⟩)) ∧ w = w' := by
  have hc' : w.cell? ⟨R, i, none⟩ = some (.pointer (some ⟨b, 0, none⟩)) := hc
  clear hc
  go_enter Try.func55, Try.ntmps55
  go_wp2
  go_ret
  exact ⟨rfl, rfl⟩

set_option maxHeartbeats 1000000 in
theorem child55_new {f : Nat → Value} (R i : Nat) (w : World) (hi : i < 8) (hR : Cl w R 8 f) (hf : f i = pt none) :
    Calls Try.prog 55 #[.slice (some ⟨R, 0, none⟩) 8 8, .int .i64 i] w fun e w' => e = .returned (.pointer (some ⟨w.heap.size, 0, none⟩)) ∧ w' = (w.alloc (.cells #[.int .i64 0, .int .i64 0, .int .i64 0, .int .i64 0, .int .i64 0, .int .i64 0, .int .i64 0, .int .i64 0] 84)).setCell ⟨R, i, none⟩ (.pointer (some ⟨w.heap.size, 0, none⟩)) := by
  have hc := hR.cell i hi
  rw [hf] at hc
  have hR2 := hR.alloc (.cells #[.int .i64 0, .int .i64 0, .int .i64 0, .int .i64 0, .int .i64 0, .int .i64 0, .int .i64 0, .int .i64 0] 84)
  have hfr := hR2.free i hi
  have hc2 := hR2.cell i hi
  rw [hf] at hc2
  unfold pt at hc hc2
  simp only [Option.map_none] at hc hc2
  have hc3 := World.cell?_setCell_same _ _ (.pointer (some ⟨w.heap.size, 0, none⟩)) hc2
  clear hR hR2
  go_enter Try.func55, Try.ntmps55
  go_wp2
  go_ret
  exact ⟨rfl, rfl⟩

theorem eqItems_all (w : World) (e : TypeId) (va vb : Nat → Value) (q : Nat → Bool) (xs ys : Array Value) : ∀ (is : List Nat), (∀ i ∈ is, (part e xs (i * 1)).run Try.prog w = .ok (va i) w ∧ (part e ys (i * 1)).run Try.prog w = .ok (vb i) w ∧ (Op.equalIn 9999 e (va i) (vb i)).run Try.prog w = .ok (q i) w) →
    (Op.eqItems 9999 e 1 xs ys is).run Try.prog w = .ok (is.all q) w
  | [], _ => by simp [Op.eqItems]
  | i :: is, h => by
    have ih := eqItems_all w e va vb q xs ys is (fun j hj => h j (List.mem_cons_of_mem _ hj))
    obtain ⟨h1, h2, h3⟩ := h i (List.mem_cons_self ..)
    simp only [Op.eqItems, Sem.run_bind, h1, h2, h3, Result.andThen_ok]
    cases hq : q i with
    | true =>
      rw [if_neg (by decide), ih, List.all_cons, hq, Bool.true_and]
    | false =>
      rw [if_pos (by decide), List.all_cons, hq, Bool.false_and]
      exact Sem.run_pure ..

/-- The values of a node's eight cells. -/
def agg8 (f : Nat → Value) : Value := .agg #[f 0, f 1, f 2, f 3, f 4, f 5, f 6, f 7]
theorem all8 {q : Nat → Bool} : (List.range 8).all q = true ↔ ∀ n, n < 8 → q n = true := by
  rw [List.all_eq_true]
  simp only [List.mem_range]

set_option maxRecDepth 100000 in
set_option maxHeartbeats 1000000 in
theorem part3 (f : Nat → Int) (i : Nat) (hi : i < 8) (w : World) : (part 3 #[.int .i64 (f 0), .int .i64 (f 1), .int .i64 (f 2), .int .i64 (f 3), .int .i64 (f 4), .int .i64 (f 5), .int .i64 (f 6), .int .i64 (f 7)] (i * 1)).run Try.prog w = .ok (.int .i64 (f i)) w := by
  have u3 := Try.underlying3
  rcases (show i = 0 ∨ i = 1 ∨ i = 2 ∨ i = 3 ∨ i = 4 ∨ i = 5 ∨ i = 6 ∨ i = 7 by omega) with rfl | rfl | rfl | rfl | rfl | rfl | rfl | rfl <;> go_simp
set_option maxRecDepth 100000 in
set_option maxHeartbeats 1000000 in
theorem part73 (f : Nat → Value) (i : Nat) (hi : i < 8) (w : World) : (part 73 #[f 0, f 1, f 2, f 3, f 4, f 5, f 6, f 7] (i * 1)).run Try.prog w = .ok (f i) w := by
  have u73 := Try.underlying73
  rcases (show i = 0 ∨ i = 1 ∨ i = 2 ∨ i = 3 ∨ i = 4 ∨ i = 5 ∨ i = 6 ∨ i = 7 by omega) with rfl | rfl | rfl | rfl | rfl | rfl | rfl | rfl <;> go_simp

set_option maxRecDepth 100000 in
set_option maxHeartbeats 1000000 in
theorem eql84 (f : Nat → Int) (w : World) : (binOp .eql 84 (.agg #[.int .i64 (f 0), .int .i64 (f 1), .int .i64 (f 2), .int .i64 (f 3), .int .i64 (f 4), .int .i64 (f 5), .int .i64 (f 6), .int .i64 (f 7)]) (.agg #[.int .i64 0, .int .i64 0, .int .i64 0, .int .i64 0, .int .i64 0, .int .i64 0, .int .i64 0, .int .i64 0])).run Try.prog w =
    .ok (.bool ((List.range 8).all fun n => f n == 0)) w := by
  have u3 := Try.underlying3
  have hi : ∃ i, Try.prog.info? 3 = some i := Option.isSome_iff_exists.1 (by kernel_rfl)
  obtain ⟨i, hi⟩ := hi
  have hs : Try.prog.cellsOf 3 = 1 := by kernel_rfl
  rw [run_eql_struct, show (10000 : Nat) = 9999 + 1 from rfl, run_equalIn_array w 9999 _ _ Try.underlying84 hi, hs,
    eqItems_all w 3 (fun n => .int .i64 (f n)) (fun _ => .int .i64 0) (fun n => f n == 0) _ _ _ (fun n hn => ⟨part3 f n (List.mem_range.1 hn) w, part3 (fun _ => 0) n (List.mem_range.1 hn) w, by
      rw [show (9999 : Nat) = 9998 + 1 from rfl, run_equalIn_int _ _ _ _ _ _ _ u3]⟩)]
  rfl

theorem eqIn73 (d : Nat) (o : Option Nat) (w : World) : (Op.equalIn (d + 1) 73 (pt o) (.pointer none)).run Try.prog w = .ok o.isNone w := by
  have u73 := Try.underlying73
  cases o <;> simp [pt, Op.equalIn, run_underlying u73]

set_option maxRecDepth 100000 in
set_option maxHeartbeats 1000000 in
theorem eql82 (f : Nat → Option Nat) (w : World) : (binOp .eql 82 (.agg #[pt (f 0), pt (f 1), pt (f 2), pt (f 3), pt (f 4), pt (f 5), pt (f 6), pt (f 7)]) (.agg #[.pointer none, .pointer none, .pointer none, .pointer none, .pointer none, .pointer none, .pointer none, .pointer none])).run Try.prog w =
    .ok (.bool ((List.range 8).all fun n => (f n).isNone)) w := by
  have hi : ∃ i, Try.prog.info? 73 = some i := Option.isSome_iff_exists.1 (by kernel_rfl)
  obtain ⟨i, hi⟩ := hi
  have hs : Try.prog.cellsOf 73 = 1 := by kernel_rfl
  rw [run_eql_struct, show (10000 : Nat) = 9999 + 1 from rfl, run_equalIn_array w 9999 _ _ Try.underlying82 hi, hs,
    eqItems_all w 73 (fun n => pt (f n)) (fun _ => .pointer none) (fun n => (f n).isNone) _ _ _ (fun n hn => ⟨part73 (fun n => pt (f n)) n (List.mem_range.1 hn) w, part73 (fun _ => .pointer none) n (List.mem_range.1 hn) w, eqIn73 9998 _ w⟩)]
  rfl

end Go.Proofs.Ytdjfeibcbmelcaa
