/- The document's list: New. -/
import Derived.Test.YtejfoefhaphacaaGreatDd
namespace Go.Proofs.YtejfoefhaphacaaGreat
open Go.RowKit Go.Shelf

set_option maxRecDepth 100000 in
set_option maxHeartbeats 1000000 in
theorem dNew_any (s p b : Int) (w : World) : Calls Tryz.prog 8 #[.agg #[.int .i64 s, .int .i64 p, .int .i64 b]] w (LNewP true w (newC ⟨s, p, b⟩) (errV ⟨s, p, b⟩)) := by
  obtain ⟨W0, hW, hB0, hsz, x0, x1, x2⟩ := new3 w (.int .i64 s) (.int .i64 p) (.int .i64 b) 23
  have HO := Lib.hid (Right_any s p b)
  have HB0 := Lib.hid hB0
  have HX := Lib.hid (fun (w1 : World) (hb1 : Below W0.heap.size W0 w1) => And.intro ((hb1.cell (p := ⟨w.heap.size, 0, none⟩) (Nat.lt_of_succ_le hsz)).trans x0) (And.intro ((hb1.cell (p := ⟨w.heap.size, 1, none⟩) (Nat.lt_of_succ_le hsz)).trans x1) ((hb1.cell (p := ⟨w.heap.size, 2, none⟩) (Nat.lt_of_succ_le hsz)).trans x2)))
  by_cases hok : okC ⟨s, p, b⟩ = true
  · have e1 : errV ⟨s, p, b⟩ = 0 := if_pos hok
    have HF := Lib.hid (fun (W : World) (hb : Below w.heap.size w W) => newL_ok (r := true) (t := 62) (by decide) hok hb s p b rfl rfl rfl)
    rw [e1]
    rw [hok] at HO
    clear hok e1 hB0 hsz
    go_enter Tryz.func8, Tryz.ntmps8
    go_wp2_with (go_at_call 20; refine (HO.out _).mono ?_; rintro e w1 ⟨rfl, hb1⟩; have HB1 := Lib.hid (btr HB0.out hb1 (Nat.le_refl _)); obtain ⟨y0, y1, y2⟩ := HX.out _ hb1; clear hb1 x0 x1 x2)
    go_ret2
    exact HF.out _ HB1.out
  · have e1 : errV ⟨s, p, b⟩ = 1 := if_neg hok
    have e2 : newC ⟨s, p, b⟩ = none := if_neg hok
    rw [e1, e2]
    rw [show okC ⟨s, p, b⟩ = false from by simpa using hok] at HO
    clear hok e1 e2 hB0 hsz
    go_enter Tryz.func8, Tryz.ntmps8
    go_wp2_with (go_at_call 20; refine (HO.out _).mono ?_; rintro e w1 ⟨rfl, hb1⟩; have HB1 := Lib.hid (btr HB0.out hb1 (Nat.le_refl _)); clear hb1 x0 x1 x2)
    go_ret2
    exact LNewP.bad rfl HB1.out

end Go.Proofs.YtejfoefhaphacaaGreat
