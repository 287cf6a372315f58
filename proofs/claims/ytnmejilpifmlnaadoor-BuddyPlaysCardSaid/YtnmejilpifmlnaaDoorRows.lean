/-
  NARROWER THAN 'FOR EVERY INPUT', by the rows' own cells (each row's printed sentence says how): BuddyPlays: laid · BuddyNone: laid · BuddyOrders: laid · BuddyBlocks: laid · BuddyTakes: laid · BuddyAlone: laid · BuddyBack: laid · BuddyRefuses: laid · BuddyClones: laid.
  DERIVED. THE GIVEN ROWS OF THIS SEAT. 9 by the template 'for every input the law returns true; each argument reads behind the call as it read before'; 0 by the template 'total and deterministic' (their statements: YtnmejilpifmlnaaDoorTotals.lean).
  GIVEN WITH THE SEED: the statements are not yours to turn. If you find one false, say at which input.
  Laid BY PROGRAM, IN A SANDBOX (cutbox-rows.mjs): the forced cells as the released guide's own fill.sh prints them over the translation c6ce8bd4b10f73f8… (all of the seat's roots in one cut). By AI agents, Wed Nov 11 2026. No macro, syntax, notation, axiom, sorry.
-/
import Derived.Test.YtnmejilpifmlnaaDoorChecked
import GoSem.Claim
import GoSem.ClaimJoined
import GoSem.ClaimMapViews
import Derived.JoinedTies
import Derived.KernelRfl
namespace Go.Proofs.YtnmejilpifmlnaaDoor
/- THE CELL 'sum', in the pinned program and in every row, IS THE sha256 OF THE DUMP (.gsa) THAT YtnmejilpifmlnaaDoorProg.lean LOADS. Nothing in Lean hashes anything: it is a label: what it is worth is what the hold of that sum in a sandbox is worth. -/
noncomputable def Tryd.pinned : Pinned := { name := "ytnmejilpifmlnaadoor", sum := "c6ce8bd4b10f73f82cf65609d654ae253c5ff78e6d3f2e3ef0613ebc9109f33e", checked := Tryd.checked }
namespace Rows
def none {H : Type} : Left H := { results := [], args := [] }

/- WHAT THE LISTED PACKAGE-LEVEL VARIABLES READ AS WHEN THE CALL BEGINS. Each datum BY PROGRAM (the guide's laid-datum.mjs) off the statement by which the dump's own 'gosem.cut.vars' lays the variable. In a bare row this is a premise. The card (YtnmejilpifmlnaaDoorCards.lean) ties it to the program's text. -/
def laid_math_bits_deBruijn32tab {H : Type} : DataW H := .agg [.lit (.int .u8 0), .lit (.int .u8 1), .lit (.int .u8 28), .lit (.int .u8 2), .lit (.int .u8 29), .lit (.int .u8 14), .lit (.int .u8 24), .lit (.int .u8 3), .lit (.int .u8 30), .lit (.int .u8 22), .lit (.int .u8 20), .lit (.int .u8 15), .lit (.int .u8 25), .lit (.int .u8 17), .lit (.int .u8 4), .lit (.int .u8 8), .lit (.int .u8 31), .lit (.int .u8 27), .lit (.int .u8 13), .lit (.int .u8 23), .lit (.int .u8 21), .lit (.int .u8 19), .lit (.int .u8 16), .lit (.int .u8 7), .lit (.int .u8 26), .lit (.int .u8 12), .lit (.int .u8 18), .lit (.int .u8 6), .lit (.int .u8 11), .lit (.int .u8 5), .lit (.int .u8 10), .lit (.int .u8 9)]
def laid_math_bits_deBruijn64tab {H : Type} : DataW H := .agg [.lit (.int .u8 0), .lit (.int .u8 1), .lit (.int .u8 56), .lit (.int .u8 2), .lit (.int .u8 57), .lit (.int .u8 49), .lit (.int .u8 28), .lit (.int .u8 3), .lit (.int .u8 61), .lit (.int .u8 58), .lit (.int .u8 42), .lit (.int .u8 50), .lit (.int .u8 38), .lit (.int .u8 29), .lit (.int .u8 17), .lit (.int .u8 4), .lit (.int .u8 62), .lit (.int .u8 47), .lit (.int .u8 59), .lit (.int .u8 36), .lit (.int .u8 45), .lit (.int .u8 43), .lit (.int .u8 51), .lit (.int .u8 22), .lit (.int .u8 53), .lit (.int .u8 39), .lit (.int .u8 33), .lit (.int .u8 30), .lit (.int .u8 24), .lit (.int .u8 18), .lit (.int .u8 12), .lit (.int .u8 5), .lit (.int .u8 63), .lit (.int .u8 55), .lit (.int .u8 48), .lit (.int .u8 27), .lit (.int .u8 60), .lit (.int .u8 41), .lit (.int .u8 37), .lit (.int .u8 16), .lit (.int .u8 46), .lit (.int .u8 35), .lit (.int .u8 44), .lit (.int .u8 21), .lit (.int .u8 52), .lit (.int .u8 32), .lit (.int .u8 23), .lit (.int .u8 11), .lit (.int .u8 54), .lit (.int .u8 26), .lit (.int .u8 40), .lit (.int .u8 15), .lit (.int .u8 34), .lit (.int .u8 20), .lit (.int .u8 31), .lit (.int .u8 10), .lit (.int .u8 25), .lit (.int .u8 14), .lit (.int .u8 19), .lit (.int .u8 9), .lit (.int .u8 13), .lit (.int .u8 8), .lit (.int .u8 7), .lit (.int .u8 6)]

/-- 'freeholdlaw03.BuddyPlays': WHATEVER THE INPUT: true; the input reads as it did. -/
def buddyPlaysSpec : ChangeSpec := { name := "buddyPlays", fn := fun _ => fun
  | [d1, d2, d3] => { results := [.lit (.bool true)], args := [d1, d2, d3] }
  | _ => none }
def buddyPlaysRow : OpenClaim := { program := "ytnmejilpifmlnaadoor", sum := "c6ce8bd4b10f73f82cf65609d654ae253c5ff78e6d3f2e3ef0613ebc9109f33e", func := "freehold/freeholdlaw03.BuddyPlays", spec := "buddyPlays", inPlace := ["maps.clone"], unfollowed := true, recurses := true, named := ["math/bits.deBruijn32tab", "math/bits.deBruijn64tab"], apart := false, laid := [("math/bits.deBruijn32tab", laid_math_bits_deBruijn32tab), ("math/bits.deBruijn64tab", laid_math_bits_deBruijn64tab)] }
def BuddyPlaysSaid : Prop := buddyPlaysRow.holds Tryd.pinned (OpenSpec.ofChange buddyPlaysSpec)

/-- ITS FALSE NEIGHBOUR: 'it returns false'. Refute it at one input. -/
def buddyPlaysWrong : ChangeSpec := { name := "buddyPlays", fn := fun _ => fun
  | [d1, d2, d3] => { results := [.lit (.bool false)], args := [d1, d2, d3] }
  | _ => none }
def BuddyPlaysWrongFalsely : Prop := buddyPlaysRow.holds Tryd.pinned (OpenSpec.ofChange buddyPlaysWrong)

/-- 'freeholdlaw03.BuddyNone': WHATEVER THE INPUT: true; the input reads as it did. -/
def buddyNoneSpec : ChangeSpec := { name := "buddyNone", fn := fun _ => fun
  | [d1, d2] => { results := [.lit (.bool true)], args := [d1, d2] }
  | _ => none }
def buddyNoneRow : OpenClaim := { program := "ytnmejilpifmlnaadoor", sum := "c6ce8bd4b10f73f82cf65609d654ae253c5ff78e6d3f2e3ef0613ebc9109f33e", func := "freehold/freeholdlaw03.BuddyNone", spec := "buddyNone", inPlace := ["maps.clone"], unfollowed := true, recurses := true, named := ["math/bits.deBruijn32tab", "math/bits.deBruijn64tab"], apart := false, laid := [("math/bits.deBruijn32tab", laid_math_bits_deBruijn32tab), ("math/bits.deBruijn64tab", laid_math_bits_deBruijn64tab)] }
def BuddyNoneSaid : Prop := buddyNoneRow.holds Tryd.pinned (OpenSpec.ofChange buddyNoneSpec)

/-- ITS FALSE NEIGHBOUR: 'it returns false'. Refute it at one input. -/
def buddyNoneWrong : ChangeSpec := { name := "buddyNone", fn := fun _ => fun
  | [d1, d2] => { results := [.lit (.bool false)], args := [d1, d2] }
  | _ => none }
def BuddyNoneWrongFalsely : Prop := buddyNoneRow.holds Tryd.pinned (OpenSpec.ofChange buddyNoneWrong)

/-- 'freeholdlaw03.BuddyOrders': WHATEVER THE INPUT: true; the input reads as it did. -/
def buddyOrdersSpec : ChangeSpec := { name := "buddyOrders", fn := fun _ => fun
  | [d1, d2, d3] => { results := [.lit (.bool true)], args := [d1, d2, d3] }
  | _ => none }
def buddyOrdersRow : OpenClaim := { program := "ytnmejilpifmlnaadoor", sum := "c6ce8bd4b10f73f82cf65609d654ae253c5ff78e6d3f2e3ef0613ebc9109f33e", func := "freehold/freeholdlaw03.BuddyOrders", spec := "buddyOrders", unfollowed := true, recurses := true, named := ["math/bits.deBruijn32tab", "math/bits.deBruijn64tab"], apart := false, laid := [("math/bits.deBruijn32tab", laid_math_bits_deBruijn32tab), ("math/bits.deBruijn64tab", laid_math_bits_deBruijn64tab)] }
def BuddyOrdersSaid : Prop := buddyOrdersRow.holds Tryd.pinned (OpenSpec.ofChange buddyOrdersSpec)

/-- ITS FALSE NEIGHBOUR: 'it returns false'. Refute it at one input. -/
def buddyOrdersWrong : ChangeSpec := { name := "buddyOrders", fn := fun _ => fun
  | [d1, d2, d3] => { results := [.lit (.bool false)], args := [d1, d2, d3] }
  | _ => none }
def BuddyOrdersWrongFalsely : Prop := buddyOrdersRow.holds Tryd.pinned (OpenSpec.ofChange buddyOrdersWrong)

/-- 'freeholdlaw03.BuddyBlocks': WHATEVER THE INPUT: true; the input reads as it did. -/
def buddyBlocksSpec : ChangeSpec := { name := "buddyBlocks", fn := fun _ => fun
  | [d1, d2] => { results := [.lit (.bool true)], args := [d1, d2] }
  | _ => none }
def buddyBlocksRow : OpenClaim := { program := "ytnmejilpifmlnaadoor", sum := "c6ce8bd4b10f73f82cf65609d654ae253c5ff78e6d3f2e3ef0613ebc9109f33e", func := "freehold/freeholdlaw03.BuddyBlocks", spec := "buddyBlocks", unfollowed := true, recurses := true, named := ["math/bits.deBruijn32tab", "math/bits.deBruijn64tab"], apart := false, laid := [("math/bits.deBruijn32tab", laid_math_bits_deBruijn32tab), ("math/bits.deBruijn64tab", laid_math_bits_deBruijn64tab)] }
def BuddyBlocksSaid : Prop := buddyBlocksRow.holds Tryd.pinned (OpenSpec.ofChange buddyBlocksSpec)

/-- ITS FALSE NEIGHBOUR: 'it returns false'. Refute it at one input. -/
def buddyBlocksWrong : ChangeSpec := { name := "buddyBlocks", fn := fun _ => fun
  | [d1, d2] => { results := [.lit (.bool false)], args := [d1, d2] }
  | _ => none }
def BuddyBlocksWrongFalsely : Prop := buddyBlocksRow.holds Tryd.pinned (OpenSpec.ofChange buddyBlocksWrong)

/-- 'freeholdlaw03.BuddyTakes': WHATEVER THE INPUT: true; the input reads as it did. -/
def buddyTakesSpec : ChangeSpec := { name := "buddyTakes", fn := fun _ => fun
  | [d1, d2, d3, d4] => { results := [.lit (.bool true)], args := [d1, d2, d3, d4] }
  | _ => none }
def buddyTakesRow : OpenClaim := { program := "ytnmejilpifmlnaadoor", sum := "c6ce8bd4b10f73f82cf65609d654ae253c5ff78e6d3f2e3ef0613ebc9109f33e", func := "freehold/freeholdlaw03.BuddyTakes", spec := "buddyTakes", inPlace := ["maps.clone"], unfollowed := true, recurses := true, named := ["math/bits.deBruijn32tab", "math/bits.deBruijn64tab"], apart := false, laid := [("math/bits.deBruijn32tab", laid_math_bits_deBruijn32tab), ("math/bits.deBruijn64tab", laid_math_bits_deBruijn64tab)] }
def BuddyTakesSaid : Prop := buddyTakesRow.holds Tryd.pinned (OpenSpec.ofChange buddyTakesSpec)

/-- ITS FALSE NEIGHBOUR: 'it returns false'. Refute it at one input. -/
def buddyTakesWrong : ChangeSpec := { name := "buddyTakes", fn := fun _ => fun
  | [d1, d2, d3, d4] => { results := [.lit (.bool false)], args := [d1, d2, d3, d4] }
  | _ => none }
def BuddyTakesWrongFalsely : Prop := buddyTakesRow.holds Tryd.pinned (OpenSpec.ofChange buddyTakesWrong)

/-- 'freeholdlaw03.BuddyAlone': WHATEVER THE INPUT: true; the input reads as it did. -/
def buddyAloneSpec : ChangeSpec := { name := "buddyAlone", fn := fun _ => fun
  | [d1, d2, d3] => { results := [.lit (.bool true)], args := [d1, d2, d3] }
  | _ => none }
def buddyAloneRow : OpenClaim := { program := "ytnmejilpifmlnaadoor", sum := "c6ce8bd4b10f73f82cf65609d654ae253c5ff78e6d3f2e3ef0613ebc9109f33e", func := "freehold/freeholdlaw03.BuddyAlone", spec := "buddyAlone", unfollowed := true, recurses := true, named := ["math/bits.deBruijn32tab", "math/bits.deBruijn64tab"], apart := false, laid := [("math/bits.deBruijn32tab", laid_math_bits_deBruijn32tab), ("math/bits.deBruijn64tab", laid_math_bits_deBruijn64tab)] }
def BuddyAloneSaid : Prop := buddyAloneRow.holds Tryd.pinned (OpenSpec.ofChange buddyAloneSpec)

/-- ITS FALSE NEIGHBOUR: 'it returns false'. Refute it at one input. -/
def buddyAloneWrong : ChangeSpec := { name := "buddyAlone", fn := fun _ => fun
  | [d1, d2, d3] => { results := [.lit (.bool false)], args := [d1, d2, d3] }
  | _ => none }
def BuddyAloneWrongFalsely : Prop := buddyAloneRow.holds Tryd.pinned (OpenSpec.ofChange buddyAloneWrong)

/-- 'freeholdlaw03.BuddyBack': WHATEVER THE INPUT: true; the input reads as it did. -/
def buddyBackSpec : ChangeSpec := { name := "buddyBack", fn := fun _ => fun
  | [d1, d2, d3, d4] => { results := [.lit (.bool true)], args := [d1, d2, d3, d4] }
  | _ => none }
def buddyBackRow : OpenClaim := { program := "ytnmejilpifmlnaadoor", sum := "c6ce8bd4b10f73f82cf65609d654ae253c5ff78e6d3f2e3ef0613ebc9109f33e", func := "freehold/freeholdlaw03.BuddyBack", spec := "buddyBack", inPlace := ["maps.clone"], unfollowed := true, recurses := true, named := ["math/bits.deBruijn32tab", "math/bits.deBruijn64tab"], apart := false, laid := [("math/bits.deBruijn32tab", laid_math_bits_deBruijn32tab), ("math/bits.deBruijn64tab", laid_math_bits_deBruijn64tab)] }
def BuddyBackSaid : Prop := buddyBackRow.holds Tryd.pinned (OpenSpec.ofChange buddyBackSpec)

/-- ITS FALSE NEIGHBOUR: 'it returns false'. Refute it at one input. -/
def buddyBackWrong : ChangeSpec := { name := "buddyBack", fn := fun _ => fun
  | [d1, d2, d3, d4] => { results := [.lit (.bool false)], args := [d1, d2, d3, d4] }
  | _ => none }
def BuddyBackWrongFalsely : Prop := buddyBackRow.holds Tryd.pinned (OpenSpec.ofChange buddyBackWrong)

/-- 'freeholdlaw03.BuddyRefuses': WHATEVER THE INPUT: true; the input reads as it did. -/
def buddyRefusesSpec : ChangeSpec := { name := "buddyRefuses", fn := fun _ => fun
  | [d1, d2, d3] => { results := [.lit (.bool true)], args := [d1, d2, d3] }
  | _ => none }
def buddyRefusesRow : OpenClaim := { program := "ytnmejilpifmlnaadoor", sum := "c6ce8bd4b10f73f82cf65609d654ae253c5ff78e6d3f2e3ef0613ebc9109f33e", func := "freehold/freeholdlaw03.BuddyRefuses", spec := "buddyRefuses", inPlace := ["maps.clone"], unfollowed := true, recurses := true, named := ["math/bits.deBruijn32tab", "math/bits.deBruijn64tab"], apart := false, laid := [("math/bits.deBruijn32tab", laid_math_bits_deBruijn32tab), ("math/bits.deBruijn64tab", laid_math_bits_deBruijn64tab)] }
def BuddyRefusesSaid : Prop := buddyRefusesRow.holds Tryd.pinned (OpenSpec.ofChange buddyRefusesSpec)

/-- ITS FALSE NEIGHBOUR: 'it returns false'. Refute it at one input. -/
def buddyRefusesWrong : ChangeSpec := { name := "buddyRefuses", fn := fun _ => fun
  | [d1, d2, d3] => { results := [.lit (.bool false)], args := [d1, d2, d3] }
  | _ => none }
def BuddyRefusesWrongFalsely : Prop := buddyRefusesRow.holds Tryd.pinned (OpenSpec.ofChange buddyRefusesWrong)

/-- 'freeholdlaw03.BuddyClones': WHATEVER THE INPUT: true; the input reads as it did. -/
def buddyClonesSpec : ChangeSpec := { name := "buddyClones", fn := fun _ => fun
  | [d1, d2, d3, d4] => { results := [.lit (.bool true)], args := [d1, d2, d3, d4] }
  | _ => none }
def buddyClonesRow : OpenClaim := { program := "ytnmejilpifmlnaadoor", sum := "c6ce8bd4b10f73f82cf65609d654ae253c5ff78e6d3f2e3ef0613ebc9109f33e", func := "freehold/freeholdlaw03.BuddyClones", spec := "buddyClones", inPlace := ["maps.clone"], unfollowed := true, recurses := true, named := ["math/bits.deBruijn32tab", "math/bits.deBruijn64tab"], apart := false, laid := [("math/bits.deBruijn32tab", laid_math_bits_deBruijn32tab), ("math/bits.deBruijn64tab", laid_math_bits_deBruijn64tab)] }
def BuddyClonesSaid : Prop := buddyClonesRow.holds Tryd.pinned (OpenSpec.ofChange buddyClonesSpec)

/-- ITS FALSE NEIGHBOUR: 'it returns false'. Refute it at one input. -/
def buddyClonesWrong : ChangeSpec := { name := "buddyClones", fn := fun _ => fun
  | [d1, d2, d3, d4] => { results := [.lit (.bool false)], args := [d1, d2, d3, d4] }
  | _ => none }
def BuddyClonesWrongFalsely : Prop := buddyClonesRow.holds Tryd.pinned (OpenSpec.ofChange buddyClonesWrong)

/- THE SECOND FORM. 'bulk': how many values and letters a reading holds, each counted each time it is reached (what is shared counts as often as it is met; a slice's spare places count too). A statement '..UptoSaid' is the law's where the arguments, and the package variables that the reading takes, are together of bulk at most 1048576: NARROWER than '..Said'. Prove '..Said' where nothing that the law and all that it calls make is longer than what came in: it says more and counts as full. Else prove '..UptoSaid'. A law counts once. -/
mutual
def uptoBulk {H : Type} : DataW H → Nat
  | .lit (.string bytes) => bytes.length + 1
  | .lit _ => 1
  | .nil => 1
  | .ptr d => uptoBulk d + 1
  | .slice elems spare => uptoBulkAll elems + uptoBulkAll spare + 1
  | .agg parts => uptoBulkAll parts + 1
  | .iface _ d => uptoBulk d + 1
  | .map entries => uptoBulkEntries entries + 1
  | .held _ => 1
def uptoBulkAll {H : Type} : List (DataW H) → Nat
  | [] => 0
  | d :: r => uptoBulk d + uptoBulkAll r
def uptoBulkEntries {H : Type} : List (Lit × DataW H) → Nat
  | [] => 0
  | x :: r => uptoBulkEntry x + uptoBulkEntries r
def uptoBulkEntry {H : Type} : Lit × DataW H → Nat
  | (.string bytes, d) => bytes.length + uptoBulk d + 1
  | (_, d) => uptoBulk d + 1
 end
def uptoSmall : (H : Type) → List (DataW H) → Bool := fun _ ds => decide (uptoBulkAll ds ≤ 1048576)
def OpenSpec.upto (s : _root_.Go.ChangeSpec) : _root_.Go.OpenSpec := { _root_.Go.OpenSpec.ofChange s with cond := some uptoSmall }

/-- 'freeholdlaw03.BuddyPlays', WHERE WHAT IT READS IS OF BULK AT MOST 1048576: true; the input reads as it did. -/
def buddyPlaysUptoRow : OpenClaim := { program := "ytnmejilpifmlnaadoor", sum := "c6ce8bd4b10f73f82cf65609d654ae253c5ff78e6d3f2e3ef0613ebc9109f33e", func := "freehold/freeholdlaw03.BuddyPlays", spec := "buddyPlays", inPlace := ["maps.clone"], unfollowed := true, recurses := true, named := ["math/bits.deBruijn32tab", "math/bits.deBruijn64tab"], apart := false, laid := [("math/bits.deBruijn32tab", laid_math_bits_deBruijn32tab), ("math/bits.deBruijn64tab", laid_math_bits_deBruijn64tab)], narrowed := true }
def BuddyPlaysUptoSaid : Prop := buddyPlaysUptoRow.holds Tryd.pinned (OpenSpec.upto buddyPlaysSpec)

/-- 'freeholdlaw03.BuddyNone', WHERE WHAT IT READS IS OF BULK AT MOST 1048576: true; the input reads as it did. -/
def buddyNoneUptoRow : OpenClaim := { program := "ytnmejilpifmlnaadoor", sum := "c6ce8bd4b10f73f82cf65609d654ae253c5ff78e6d3f2e3ef0613ebc9109f33e", func := "freehold/freeholdlaw03.BuddyNone", spec := "buddyNone", inPlace := ["maps.clone"], unfollowed := true, recurses := true, named := ["math/bits.deBruijn32tab", "math/bits.deBruijn64tab"], apart := false, laid := [("math/bits.deBruijn32tab", laid_math_bits_deBruijn32tab), ("math/bits.deBruijn64tab", laid_math_bits_deBruijn64tab)], narrowed := true }
def BuddyNoneUptoSaid : Prop := buddyNoneUptoRow.holds Tryd.pinned (OpenSpec.upto buddyNoneSpec)

/-- 'freeholdlaw03.BuddyOrders', WHERE WHAT IT READS IS OF BULK AT MOST 1048576: true; the input reads as it did. -/
def buddyOrdersUptoRow : OpenClaim := { program := "ytnmejilpifmlnaadoor", sum := "c6ce8bd4b10f73f82cf65609d654ae253c5ff78e6d3f2e3ef0613ebc9109f33e", func := "freehold/freeholdlaw03.BuddyOrders", spec := "buddyOrders", unfollowed := true, recurses := true, named := ["math/bits.deBruijn32tab", "math/bits.deBruijn64tab"], apart := false, laid := [("math/bits.deBruijn32tab", laid_math_bits_deBruijn32tab), ("math/bits.deBruijn64tab", laid_math_bits_deBruijn64tab)], narrowed := true }
def BuddyOrdersUptoSaid : Prop := buddyOrdersUptoRow.holds Tryd.pinned (OpenSpec.upto buddyOrdersSpec)

/-- 'freeholdlaw03.BuddyBlocks', WHERE WHAT IT READS IS OF BULK AT MOST 1048576: true; the input reads as it did. -/
def buddyBlocksUptoRow : OpenClaim := { program := "ytnmejilpifmlnaadoor", sum := "c6ce8bd4b10f73f82cf65609d654ae253c5ff78e6d3f2e3ef0613ebc9109f33e", func := "freehold/freeholdlaw03.BuddyBlocks", spec := "buddyBlocks", unfollowed := true, recurses := true, named := ["math/bits.deBruijn32tab", "math/bits.deBruijn64tab"], apart := false, laid := [("math/bits.deBruijn32tab", laid_math_bits_deBruijn32tab), ("math/bits.deBruijn64tab", laid_math_bits_deBruijn64tab)], narrowed := true }
def BuddyBlocksUptoSaid : Prop := buddyBlocksUptoRow.holds Tryd.pinned (OpenSpec.upto buddyBlocksSpec)

/-- 'freeholdlaw03.BuddyTakes', WHERE WHAT IT READS IS OF BULK AT MOST 1048576: true; the input reads as it did. -/
def buddyTakesUptoRow : OpenClaim := { program := "ytnmejilpifmlnaadoor", sum := "c6ce8bd4b10f73f82cf65609d654ae253c5ff78e6d3f2e3ef0613ebc9109f33e", func := "freehold/freeholdlaw03.BuddyTakes", spec := "buddyTakes", inPlace := ["maps.clone"], unfollowed := true, recurses := true, named := ["math/bits.deBruijn32tab", "math/bits.deBruijn64tab"], apart := false, laid := [("math/bits.deBruijn32tab", laid_math_bits_deBruijn32tab), ("math/bits.deBruijn64tab", laid_math_bits_deBruijn64tab)], narrowed := true }
def BuddyTakesUptoSaid : Prop := buddyTakesUptoRow.holds Tryd.pinned (OpenSpec.upto buddyTakesSpec)

/-- 'freeholdlaw03.BuddyAlone', WHERE WHAT IT READS IS OF BULK AT MOST 1048576: true; the input reads as it did. -/
def buddyAloneUptoRow : OpenClaim := { program := "ytnmejilpifmlnaadoor", sum := "c6ce8bd4b10f73f82cf65609d654ae253c5ff78e6d3f2e3ef0613ebc9109f33e", func := "freehold/freeholdlaw03.BuddyAlone", spec := "buddyAlone", unfollowed := true, recurses := true, named := ["math/bits.deBruijn32tab", "math/bits.deBruijn64tab"], apart := false, laid := [("math/bits.deBruijn32tab", laid_math_bits_deBruijn32tab), ("math/bits.deBruijn64tab", laid_math_bits_deBruijn64tab)], narrowed := true }
def BuddyAloneUptoSaid : Prop := buddyAloneUptoRow.holds Tryd.pinned (OpenSpec.upto buddyAloneSpec)

/-- 'freeholdlaw03.BuddyBack', WHERE WHAT IT READS IS OF BULK AT MOST 1048576: true; the input reads as it did. -/
def buddyBackUptoRow : OpenClaim := { program := "ytnmejilpifmlnaadoor", sum := "c6ce8bd4b10f73f82cf65609d654ae253c5ff78e6d3f2e3ef0613ebc9109f33e", func := "freehold/freeholdlaw03.BuddyBack", spec := "buddyBack", inPlace := ["maps.clone"], unfollowed := true, recurses := true, named := ["math/bits.deBruijn32tab", "math/bits.deBruijn64tab"], apart := false, laid := [("math/bits.deBruijn32tab", laid_math_bits_deBruijn32tab), ("math/bits.deBruijn64tab", laid_math_bits_deBruijn64tab)], narrowed := true }
def BuddyBackUptoSaid : Prop := buddyBackUptoRow.holds Tryd.pinned (OpenSpec.upto buddyBackSpec)

/-- 'freeholdlaw03.BuddyRefuses', WHERE WHAT IT READS IS OF BULK AT MOST 1048576: true; the input reads as it did. -/
def buddyRefusesUptoRow : OpenClaim := { program := "ytnmejilpifmlnaadoor", sum := "c6ce8bd4b10f73f82cf65609d654ae253c5ff78e6d3f2e3ef0613ebc9109f33e", func := "freehold/freeholdlaw03.BuddyRefuses", spec := "buddyRefuses", inPlace := ["maps.clone"], unfollowed := true, recurses := true, named := ["math/bits.deBruijn32tab", "math/bits.deBruijn64tab"], apart := false, laid := [("math/bits.deBruijn32tab", laid_math_bits_deBruijn32tab), ("math/bits.deBruijn64tab", laid_math_bits_deBruijn64tab)], narrowed := true }
def BuddyRefusesUptoSaid : Prop := buddyRefusesUptoRow.holds Tryd.pinned (OpenSpec.upto buddyRefusesSpec)

/-- 'freeholdlaw03.BuddyClones', WHERE WHAT IT READS IS OF BULK AT MOST 1048576: true; the input reads as it did. -/
def buddyClonesUptoRow : OpenClaim := { program := "ytnmejilpifmlnaadoor", sum := "c6ce8bd4b10f73f82cf65609d654ae253c5ff78e6d3f2e3ef0613ebc9109f33e", func := "freehold/freeholdlaw03.BuddyClones", spec := "buddyClones", inPlace := ["maps.clone"], unfollowed := true, recurses := true, named := ["math/bits.deBruijn32tab", "math/bits.deBruijn64tab"], apart := false, laid := [("math/bits.deBruijn32tab", laid_math_bits_deBruijn32tab), ("math/bits.deBruijn64tab", laid_math_bits_deBruijn64tab)], narrowed := true }
def BuddyClonesUptoSaid : Prop := buddyClonesUptoRow.holds Tryd.pinned (OpenSpec.upto buddyClonesSpec)

end Rows
end Go.Proofs.YtnmejilpifmlnaaDoor
