/- The statements' helper: the examples of the chapter hold. -/
import Derived.Test.YtgklkjccfnbcdaaFc
namespace Go.Proofs.Ytgklkjccfnbcdaa
open Go.RowKit

def e0 : Option Mo := some (newM 16 ⟨24, 1, 21⟩)
def e1 : Option Mo := tkD e0
def e2 : Option Mo := tkD e1
def e3 : Option Mo := ptD e2 4096
def e4 : Option Mo := ptD e3 4096
def e5 : Option Mo := ptD e4 4100
theorem ex0 : fitB 16 ⟨24, 1, 21⟩ = true := by decide +kernel
theorem ex1 : numO e0 = 10 := by decide +kernel
theorem ex2 : tkV e0 = 4096 := by decide +kernel
theorem ex3 : tkE e0 = 0 := by decide +kernel
theorem ex4 : tkV e1 = 4120 := by decide +kernel
theorem ex5 : tkE e1 = 0 := by decide +kernel
theorem ex6 : bts e2 = [49, 49, 48, 48, 48, 48, 48, 48, 48, 48] := by decide +kernel
theorem ex6' : bitsS e2 = ⟨#[49, 49, 48, 48, 48, 48, 48, 48, 48, 48]⟩ := by unfold bitsS; rw [ex6]
theorem ex7 : ptE e2 4096 = 0 := by decide +kernel
theorem ex8 : ptE e3 4096 = 9 := by decide +kernel
theorem ex9 : ptE e4 4100 = 8 := by decide +kernel
theorem ex10 : ixV e5 4143 = 1 := by decide +kernel
theorem ex11 : ixE e5 4143 = 0 := by decide +kernel
theorem ex12 : ixE e5 4336 = 8 := by decide +kernel

set_option maxRecDepth 100000 in
set_option maxHeartbeats 4000000 in
theorem alive_any (w : World) : Calls Try.prog 11 #[] w (Yes w) := by
  have HN := New_any 16 24 1 21 w
  rw [show newO 16 ⟨24, 1, 21⟩ = e0 from if_pos ex0, show newE 16 ⟨24, 1, 21⟩ = 0 from if_pos ex0] at HN
  have HN := Lib.hid HN
  go_enter Try.func11, Try.ntmps11
  go_wp2_with (go_at_call 12; refine HN.out.mono ?_; rintro e w1 ⟨v, rfl, hob, _, hb1⟩; have HO := Lib.hid (show Own' false w w1 v e0 from ⟨hob, hb1⟩); obtain ⟨B, rfl⟩ := ob_ptr hob; clear hob hb1)
  have C1 := Objects_any HO.out.1
  rw [ex1] at C1
  refine C1.mono ?_
  rintro e _ ⟨rfl, rfl⟩
  clear C1
  go_wp2_with fail
  have C2 := Take_any HO.out.1
  rw [ex2, ex3] at C2
  refine C2.mono ?_
  rintro e w2 ⟨rfl, hM⟩
  have H2 := Lib.hid (show Own' false w w2 _ e1 from HO.out.step hM)
  clear C2 hM
  go_wp2_with fail
  have C3 := Take_any H2.out.1
  rw [ex4, ex5] at C3
  refine C3.mono ?_
  rintro e w3 ⟨rfl, hM⟩
  have H3 := Lib.hid (show Own' false w w3 _ e2 from H2.out.step hM)
  clear C3 hM
  go_wp2_with fail
  have C4 := Bits_any H3.out.1
  rw [ex6'] at C4
  refine C4.mono ?_
  rintro e w4 ⟨rfl, hb⟩
  have H4 := Lib.hid (H3.out.below hb)
  clear C4 hb
  go_wp2_with fail
  have C5 := Put_any H4.out.1 4096 ⟨by omega, by omega⟩
  rw [ex7] at C5
  refine C5.mono ?_
  rintro e w5 ⟨rfl, hM⟩
  have H5 := Lib.hid (show Own' false w w5 _ e3 from H4.out.step hM)
  clear C5 hM
  go_wp2_with fail
  have C6 := Put_any H5.out.1 4096 ⟨by omega, by omega⟩
  rw [ex8] at C6
  refine C6.mono ?_
  rintro e w6 ⟨rfl, hM⟩
  have H6 := Lib.hid (show Own' false w w6 _ e4 from H5.out.step hM)
  clear C6 hM
  go_wp2_with fail
  have C7 := Put_any H6.out.1 4100 ⟨by omega, by omega⟩
  rw [ex9] at C7
  refine C7.mono ?_
  rintro e w7 ⟨rfl, hM⟩
  have H7 := Lib.hid (show Own' false w w7 _ e5 from H6.out.step hM)
  clear C7 hM
  go_wp2_with fail
  have C8 := Index_any H7.out.1 4143 ⟨by omega, by omega⟩
  rw [ex10, ex11] at C8
  refine C8.mono ?_
  rintro e w8 ⟨rfl, hb⟩
  have H8 := Lib.hid (H7.out.below hb)
  clear C8 hb
  go_wp2_with fail
  have C9 := Index_any H8.out.1 4336 ⟨by omega, by omega⟩
  rw [ex12] at C9
  refine C9.mono ?_
  rintro e w9 ⟨rfl, hb⟩
  have H9 := Lib.hid (H8.out.below hb)
  clear C9 hb
  go_wp2_with fail
  go_ret
  exact ⟨rfl, H9.out.2⟩

end Go.Proofs.Ytgklkjccfnbcdaa
