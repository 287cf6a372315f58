/-
  No cell of these rows narrows 'for every input' (looked for: loops, veiled, ifaces, maps, wideKeys, modest, calm, conditions, laid).
  DERIVED. THE GIVEN ROWS OF THIS SEAT. 9 by the template 'for every input the law returns true; each argument reads behind the call as it read before'; 0 by the template 'total and deterministic' (their statements: YtejjendklemebaaTotals.lean).
  GIVEN WITH THE SEED: the statements are not yours to turn. If you find one false, say at which input.
  Laid BY PROGRAM, IN A SANDBOX (cutbox-rows.mjs): the forced cells as the released guide's own fill.sh prints them over the translation 76775b8e1ef0bdf0… (all of the seat's roots in one cut). By AI agents, Wed Nov 11 2026. No macro, syntax, notation, axiom, sorry.
-/
import Derived.Test.YtejjendklemebaaChecked
import GoSem.Claim
import GoSem.ClaimJoined
import GoSem.ClaimMapViews
import Derived.JoinedTies
import Derived.KernelRfl
namespace Go.Proofs.Ytejjendklemebaa
/- THE CELL 'sum', in the pinned program and in every row, IS THE sha256 OF THE DUMP (.gsa) THAT YtejjendklemebaaProg.lean LOADS. Nothing in Lean hashes anything: it is a label: what it is worth is what the hold of that sum in a sandbox is worth. -/
noncomputable def Try.pinned : Pinned := { name := "ytejjendklemebaa", sum := "76775b8e1ef0bdf09e45b6b8d4c872eb3d569e2dcef583e5d637c8303cad38a9", checked := Try.checked }
namespace Rows
def none {H : Type} : Left H := { results := [], args := [] }

/-- 'freeholdlaw02.SpacePlays': WHATEVER THE INPUT: true; the input reads as it did. -/
def spacePlaysSpec : ChangeSpec := { name := "spacePlays", fn := fun _ => fun
  | [d1, d2] => { results := [.lit (.bool true)], args := [d1, d2] }
  | _ => none }
def spacePlaysRow : OpenClaim := { program := "ytejjendklemebaa", sum := "76775b8e1ef0bdf09e45b6b8d4c872eb3d569e2dcef583e5d637c8303cad38a9", func := "freehold/freeholdlaw02.SpacePlays", spec := "spacePlays", unfollowed := true, recurses := true, apart := false }
def SpacePlaysSaid : Prop := spacePlaysRow.holds Try.pinned (OpenSpec.ofChange spacePlaysSpec)

/-- ITS FALSE NEIGHBOUR: 'it returns false'. Refute it at one input. -/
def spacePlaysWrong : ChangeSpec := { name := "spacePlays", fn := fun _ => fun
  | [d1, d2] => { results := [.lit (.bool false)], args := [d1, d2] }
  | _ => none }
def SpacePlaysWrongFalsely : Prop := spacePlaysRow.holds Try.pinned (OpenSpec.ofChange spacePlaysWrong)

/-- 'freeholdlaw02.SpaceNone': WHATEVER THE INPUT: true; the input reads as it did. -/
def spaceNoneSpec : ChangeSpec := { name := "spaceNone", fn := fun _ => fun
  | [d] => { results := [.lit (.bool true)], args := [d] }
  | _ => none }
def spaceNoneRow : OpenClaim := { program := "ytejjendklemebaa", sum := "76775b8e1ef0bdf09e45b6b8d4c872eb3d569e2dcef583e5d637c8303cad38a9", func := "freehold/freeholdlaw02.SpaceNone", spec := "spaceNone", unfollowed := true, recurses := true, apart := false }
def SpaceNoneSaid : Prop := spaceNoneRow.holds Try.pinned (OpenSpec.ofChange spaceNoneSpec)

/-- ITS FALSE NEIGHBOUR: 'it returns false'. Refute it at one input. -/
def spaceNoneWrong : ChangeSpec := { name := "spaceNone", fn := fun _ => fun
  | [d] => { results := [.lit (.bool false)], args := [d] }
  | _ => none }
def SpaceNoneWrongFalsely : Prop := spaceNoneRow.holds Try.pinned (OpenSpec.ofChange spaceNoneWrong)

/-- 'freeholdlaw02.SpaceHolds': WHATEVER THE INPUT: true; the input reads as it did. -/
def spaceHoldsSpec : ChangeSpec := { name := "spaceHolds", fn := fun _ => fun
  | [d1, d2, d3, d4, d5] => { results := [.lit (.bool true)], args := [d1, d2, d3, d4, d5] }
  | _ => none }
def spaceHoldsRow : OpenClaim := { program := "ytejjendklemebaa", sum := "76775b8e1ef0bdf09e45b6b8d4c872eb3d569e2dcef583e5d637c8303cad38a9", func := "freehold/freeholdlaw02.SpaceHolds", spec := "spaceHolds", unfollowed := true, recurses := true, apart := false }
def SpaceHoldsSaid : Prop := spaceHoldsRow.holds Try.pinned (OpenSpec.ofChange spaceHoldsSpec)

/-- ITS FALSE NEIGHBOUR: 'it returns false'. Refute it at one input. -/
def spaceHoldsWrong : ChangeSpec := { name := "spaceHolds", fn := fun _ => fun
  | [d1, d2, d3, d4, d5] => { results := [.lit (.bool false)], args := [d1, d2, d3, d4, d5] }
  | _ => none }
def SpaceHoldsWrongFalsely : Prop := spaceHoldsRow.holds Try.pinned (OpenSpec.ofChange spaceHoldsWrong)

/-- 'freeholdlaw02.SpaceStates': WHATEVER THE INPUT: true; the input reads as it did. -/
def spaceStatesSpec : ChangeSpec := { name := "spaceStates", fn := fun _ => fun
  | [d1, d2, d3] => { results := [.lit (.bool true)], args := [d1, d2, d3] }
  | _ => none }
def spaceStatesRow : OpenClaim := { program := "ytejjendklemebaa", sum := "76775b8e1ef0bdf09e45b6b8d4c872eb3d569e2dcef583e5d637c8303cad38a9", func := "freehold/freeholdlaw02.SpaceStates", spec := "spaceStates", unfollowed := true, recurses := true, apart := false }
def SpaceStatesSaid : Prop := spaceStatesRow.holds Try.pinned (OpenSpec.ofChange spaceStatesSpec)

/-- ITS FALSE NEIGHBOUR: 'it returns false'. Refute it at one input. -/
def spaceStatesWrong : ChangeSpec := { name := "spaceStates", fn := fun _ => fun
  | [d1, d2, d3] => { results := [.lit (.bool false)], args := [d1, d2, d3] }
  | _ => none }
def SpaceStatesWrongFalsely : Prop := spaceStatesRow.holds Try.pinned (OpenSpec.ofChange spaceStatesWrong)

/-- 'freeholdlaw02.SpacePeak': WHATEVER THE INPUT: true; the input reads as it did. -/
def spacePeakSpec : ChangeSpec := { name := "spacePeak", fn := fun _ => fun
  | [d1, d2] => { results := [.lit (.bool true)], args := [d1, d2] }
  | _ => none }
def spacePeakRow : OpenClaim := { program := "ytejjendklemebaa", sum := "76775b8e1ef0bdf09e45b6b8d4c872eb3d569e2dcef583e5d637c8303cad38a9", func := "freehold/freeholdlaw02.SpacePeak", spec := "spacePeak", unfollowed := true, recurses := true, apart := false }
def SpacePeakSaid : Prop := spacePeakRow.holds Try.pinned (OpenSpec.ofChange spacePeakSpec)

/-- ITS FALSE NEIGHBOUR: 'it returns false'. Refute it at one input. -/
def spacePeakWrong : ChangeSpec := { name := "spacePeak", fn := fun _ => fun
  | [d1, d2] => { results := [.lit (.bool false)], args := [d1, d2] }
  | _ => none }
def SpacePeakWrongFalsely : Prop := spacePeakRow.holds Try.pinned (OpenSpec.ofChange spacePeakWrong)

/-- 'freeholdlaw02.SpaceCopies': WHATEVER THE INPUT: true; the input reads as it did. -/
def spaceCopiesSpec : ChangeSpec := { name := "spaceCopies", fn := fun _ => fun
  | [d1, d2, d3, d4, d5, d6, d7] => { results := [.lit (.bool true)], args := [d1, d2, d3, d4, d5, d6, d7] }
  | _ => none }
def spaceCopiesRow : OpenClaim := { program := "ytejjendklemebaa", sum := "76775b8e1ef0bdf09e45b6b8d4c872eb3d569e2dcef583e5d637c8303cad38a9", func := "freehold/freeholdlaw02.SpaceCopies", spec := "spaceCopies", unfollowed := true, recurses := true, apart := false }
def SpaceCopiesSaid : Prop := spaceCopiesRow.holds Try.pinned (OpenSpec.ofChange spaceCopiesSpec)

/-- ITS FALSE NEIGHBOUR: 'it returns false'. Refute it at one input. -/
def spaceCopiesWrong : ChangeSpec := { name := "spaceCopies", fn := fun _ => fun
  | [d1, d2, d3, d4, d5, d6, d7] => { results := [.lit (.bool false)], args := [d1, d2, d3, d4, d5, d6, d7] }
  | _ => none }
def SpaceCopiesWrongFalsely : Prop := spaceCopiesRow.holds Try.pinned (OpenSpec.ofChange spaceCopiesWrong)

/-- 'freeholdlaw02.SpaceRefuses': WHATEVER THE INPUT: true; the input reads as it did. -/
def spaceRefusesSpec : ChangeSpec := { name := "spaceRefuses", fn := fun _ => fun
  | [d1, d2, d3] => { results := [.lit (.bool true)], args := [d1, d2, d3] }
  | _ => none }
def spaceRefusesRow : OpenClaim := { program := "ytejjendklemebaa", sum := "76775b8e1ef0bdf09e45b6b8d4c872eb3d569e2dcef583e5d637c8303cad38a9", func := "freehold/freeholdlaw02.SpaceRefuses", spec := "spaceRefuses", unfollowed := true, recurses := true, apart := false }
def SpaceRefusesSaid : Prop := spaceRefusesRow.holds Try.pinned (OpenSpec.ofChange spaceRefusesSpec)

/-- ITS FALSE NEIGHBOUR: 'it returns false'. Refute it at one input. -/
def spaceRefusesWrong : ChangeSpec := { name := "spaceRefuses", fn := fun _ => fun
  | [d1, d2, d3] => { results := [.lit (.bool false)], args := [d1, d2, d3] }
  | _ => none }
def SpaceRefusesWrongFalsely : Prop := spaceRefusesRow.holds Try.pinned (OpenSpec.ofChange spaceRefusesWrong)

/-- 'freeholdlaw02.SpaceLoses': WHATEVER THE INPUT: true; the input reads as it did. -/
def spaceLosesSpec : ChangeSpec := { name := "spaceLoses", fn := fun _ => fun
  | [d1, d2, d3, d4, d5] => { results := [.lit (.bool true)], args := [d1, d2, d3, d4, d5] }
  | _ => none }
def spaceLosesRow : OpenClaim := { program := "ytejjendklemebaa", sum := "76775b8e1ef0bdf09e45b6b8d4c872eb3d569e2dcef583e5d637c8303cad38a9", func := "freehold/freeholdlaw02.SpaceLoses", spec := "spaceLoses", unfollowed := true, recurses := true, apart := false }
def SpaceLosesSaid : Prop := spaceLosesRow.holds Try.pinned (OpenSpec.ofChange spaceLosesSpec)

/-- ITS FALSE NEIGHBOUR: 'it returns false'. Refute it at one input. -/
def spaceLosesWrong : ChangeSpec := { name := "spaceLoses", fn := fun _ => fun
  | [d1, d2, d3, d4, d5] => { results := [.lit (.bool false)], args := [d1, d2, d3, d4, d5] }
  | _ => none }
def SpaceLosesWrongFalsely : Prop := spaceLosesRow.holds Try.pinned (OpenSpec.ofChange spaceLosesWrong)

/-- 'freeholdlaw02.SpaceClones': WHATEVER THE INPUT: true; the input reads as it did. -/
def spaceClonesSpec : ChangeSpec := { name := "spaceClones", fn := fun _ => fun
  | [d1, d2, d3, d4] => { results := [.lit (.bool true)], args := [d1, d2, d3, d4] }
  | _ => none }
def spaceClonesRow : OpenClaim := { program := "ytejjendklemebaa", sum := "76775b8e1ef0bdf09e45b6b8d4c872eb3d569e2dcef583e5d637c8303cad38a9", func := "freehold/freeholdlaw02.SpaceClones", spec := "spaceClones", unfollowed := true, recurses := true, apart := false }
def SpaceClonesSaid : Prop := spaceClonesRow.holds Try.pinned (OpenSpec.ofChange spaceClonesSpec)

/-- ITS FALSE NEIGHBOUR: 'it returns false'. Refute it at one input. -/
def spaceClonesWrong : ChangeSpec := { name := "spaceClones", fn := fun _ => fun
  | [d1, d2, d3, d4] => { results := [.lit (.bool false)], args := [d1, d2, d3, d4] }
  | _ => none }
def SpaceClonesWrongFalsely : Prop := spaceClonesRow.holds Try.pinned (OpenSpec.ofChange spaceClonesWrong)

/- THE SECOND FORM. 'bulk': how many values and letters a reading holds, each counted each time it is reached (what is shared counts as often as it is met; a slice's spare places count too). A statement '..UptoSaid' is the law's where the arguments, and the package variables that the reading takes, are together of bulk at most 1048576: NARROWER than '..Said'. Prove '..Said' where nothing that the law and all that it calls make is longer than what came in: it says more and counts as full. Else prove '..UptoSaid'. A law counts once. -/
mutual
def uptoBulk {H : Type} : DataW H → Nat
  | .lit (.string bytes) => bytes.length + 1
  | .lit _ => 1
  | .nil => 1
  | .ptr d => uptoBulk d + 1
  | .slice elems spare => uptoBulkAll elems + uptoBulkAll spare + 1
  | .agg parts => uptoBulkAll parts + 1
  | .iface _ d => uptoBulk d + 1
  | .map entries => uptoBulkEntries entries + 1
  | .held _ => 1
def uptoBulkAll {H : Type} : List (DataW H) → Nat
  | [] => 0
  | d :: r => uptoBulk d + uptoBulkAll r
def uptoBulkEntries {H : Type} : List (Lit × DataW H) → Nat
  | [] => 0
  | x :: r => uptoBulkEntry x + uptoBulkEntries r
def uptoBulkEntry {H : Type} : Lit × DataW H → Nat
  | (.string bytes, d) => bytes.length + uptoBulk d + 1
  | (_, d) => uptoBulk d + 1
 end
def uptoSmall : (H : Type) → List (DataW H) → Bool := fun _ ds => decide (uptoBulkAll ds ≤ 1048576)
def OpenSpec.upto (s : _root_.Go.ChangeSpec) : _root_.Go.OpenSpec := { _root_.Go.OpenSpec.ofChange s with cond := some uptoSmall }

/-- 'freeholdlaw02.SpacePlays', WHERE WHAT IT READS IS OF BULK AT MOST 1048576: true; the input reads as it did. -/
def spacePlaysUptoRow : OpenClaim := { program := "ytejjendklemebaa", sum := "76775b8e1ef0bdf09e45b6b8d4c872eb3d569e2dcef583e5d637c8303cad38a9", func := "freehold/freeholdlaw02.SpacePlays", spec := "spacePlays", unfollowed := true, recurses := true, apart := false, narrowed := true }
def SpacePlaysUptoSaid : Prop := spacePlaysUptoRow.holds Try.pinned (OpenSpec.upto spacePlaysSpec)

/-- 'freeholdlaw02.SpaceNone', WHERE WHAT IT READS IS OF BULK AT MOST 1048576: true; the input reads as it did. -/
def spaceNoneUptoRow : OpenClaim := { program := "ytejjendklemebaa", sum := "76775b8e1ef0bdf09e45b6b8d4c872eb3d569e2dcef583e5d637c8303cad38a9", func := "freehold/freeholdlaw02.SpaceNone", spec := "spaceNone", unfollowed := true, recurses := true, apart := false, narrowed := true }
def SpaceNoneUptoSaid : Prop := spaceNoneUptoRow.holds Try.pinned (OpenSpec.upto spaceNoneSpec)

/-- 'freeholdlaw02.SpaceHolds', WHERE WHAT IT READS IS OF BULK AT MOST 1048576: true; the input reads as it did. -/
def spaceHoldsUptoRow : OpenClaim := { program := "ytejjendklemebaa", sum := "76775b8e1ef0bdf09e45b6b8d4c872eb3d569e2dcef583e5d637c8303cad38a9", func := "freehold/freeholdlaw02.SpaceHolds", spec := "spaceHolds", unfollowed := true, recurses := true, apart := false, narrowed := true }
def SpaceHoldsUptoSaid : Prop := spaceHoldsUptoRow.holds Try.pinned (OpenSpec.upto spaceHoldsSpec)

/-- 'freeholdlaw02.SpaceStates', WHERE WHAT IT READS IS OF BULK AT MOST 1048576: true; the input reads as it did. -/
def spaceStatesUptoRow : OpenClaim := { program := "ytejjendklemebaa", sum := "76775b8e1ef0bdf09e45b6b8d4c872eb3d569e2dcef583e5d637c8303cad38a9", func := "freehold/freeholdlaw02.SpaceStates", spec := "spaceStates", unfollowed := true, recurses := true, apart := false, narrowed := true }
def SpaceStatesUptoSaid : Prop := spaceStatesUptoRow.holds Try.pinned (OpenSpec.upto spaceStatesSpec)

/-- 'freeholdlaw02.SpacePeak', WHERE WHAT IT READS IS OF BULK AT MOST 1048576: true; the input reads as it did. -/
def spacePeakUptoRow : OpenClaim := { program := "ytejjendklemebaa", sum := "76775b8e1ef0bdf09e45b6b8d4c872eb3d569e2dcef583e5d637c8303cad38a9", func := "freehold/freeholdlaw02.SpacePeak", spec := "spacePeak", unfollowed := true, recurses := true, apart := false, narrowed := true }
def SpacePeakUptoSaid : Prop := spacePeakUptoRow.holds Try.pinned (OpenSpec.upto spacePeakSpec)

/-- 'freeholdlaw02.SpaceCopies', WHERE WHAT IT READS IS OF BULK AT MOST 1048576: true; the input reads as it did. -/
def spaceCopiesUptoRow : OpenClaim := { program := "ytejjendklemebaa", sum := "76775b8e1ef0bdf09e45b6b8d4c872eb3d569e2dcef583e5d637c8303cad38a9", func := "freehold/freeholdlaw02.SpaceCopies", spec := "spaceCopies", unfollowed := true, recurses := true, apart := false, narrowed := true }
def SpaceCopiesUptoSaid : Prop := spaceCopiesUptoRow.holds Try.pinned (OpenSpec.upto spaceCopiesSpec)

/-- 'freeholdlaw02.SpaceRefuses', WHERE WHAT IT READS IS OF BULK AT MOST 1048576: true; the input reads as it did. -/
def spaceRefusesUptoRow : OpenClaim := { program := "ytejjendklemebaa", sum := "76775b8e1ef0bdf09e45b6b8d4c872eb3d569e2dcef583e5d637c8303cad38a9", func := "freehold/freeholdlaw02.SpaceRefuses", spec := "spaceRefuses", unfollowed := true, recurses := true, apart := false, narrowed := true }
def SpaceRefusesUptoSaid : Prop := spaceRefusesUptoRow.holds Try.pinned (OpenSpec.upto spaceRefusesSpec)

/-- 'freeholdlaw02.SpaceLoses', WHERE WHAT IT READS IS OF BULK AT MOST 1048576: true; the input reads as it did. -/
def spaceLosesUptoRow : OpenClaim := { program := "ytejjendklemebaa", sum := "76775b8e1ef0bdf09e45b6b8d4c872eb3d569e2dcef583e5d637c8303cad38a9", func := "freehold/freeholdlaw02.SpaceLoses", spec := "spaceLoses", unfollowed := true, recurses := true, apart := false, narrowed := true }
def SpaceLosesUptoSaid : Prop := spaceLosesUptoRow.holds Try.pinned (OpenSpec.upto spaceLosesSpec)

/-- 'freeholdlaw02.SpaceClones', WHERE WHAT IT READS IS OF BULK AT MOST 1048576: true; the input reads as it did. -/
def spaceClonesUptoRow : OpenClaim := { program := "ytejjendklemebaa", sum := "76775b8e1ef0bdf09e45b6b8d4c872eb3d569e2dcef583e5d637c8303cad38a9", func := "freehold/freeholdlaw02.SpaceClones", spec := "spaceClones", unfollowed := true, recurses := true, apart := false, narrowed := true }
def SpaceClonesUptoSaid : Prop := spaceClonesUptoRow.holds Try.pinned (OpenSpec.upto spaceClonesSpec)

end Rows
end Go.Proofs.Ytejjendklemebaa
