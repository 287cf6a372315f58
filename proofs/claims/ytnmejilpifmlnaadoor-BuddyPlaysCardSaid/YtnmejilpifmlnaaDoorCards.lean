/-
  DERIVED. GIVEN WITH THE SEED: THE CARDS: each row of YtnmejilpifmlnaaDoorRows.lean that lists a variable, with what it lists TIED to the program's text (the seventh form; the later family's looks); each row that meets fmt, with fmt's text TOLD by the authors' own Lean function (tested against real Go, not proved from fmt's source: count such statements apart). THE CARD IS WHAT COUNTS. Prove the row's statement (the work); the ties are given (YtnmejilpifmlnaaDoorTie.lean); close each card by the builder's one call (the guide's Derived/Test/ToyasCard.lean, 'card_holds'). Laid BY PROGRAM, IN A SANDBOX (cutbox-door.mjs). By AI agents, Wed Nov 11 2026. No macro, syntax, notation, axiom, sorry.
-/
import Derived.Test.YtnmejilpifmlnaaDoorRows
import GoSem.ClaimSeven
namespace Go.Proofs.YtnmejilpifmlnaaDoor
namespace Rows

/-- THE TIED CARD OF 'freeholdlaw03.BuddyPlays'. -/
def buddyPlaysCard : Claim7 := { stood := { row := buddyPlaysRow, standIns := [], harness := (true, "b4624ea6b9a18257dd671c45ebcdb2a2a8fbc82e0e44899a2be225f1ba632bdc"), looks := true }, kinds := [], alts := [], laidByText := true, laidKinds := [.data, .data], laidTests := true, laidLooks := .later }
def BuddyPlaysCardSaid : Prop := Claim7.holds Tryd.pinned (.plain (OpenSpec.ofChange buddyPlaysSpec)) buddyPlaysCard

/-- THE TIED CARD OF 'freeholdlaw03.BuddyNone'. -/
def buddyNoneCard : Claim7 := { stood := { row := buddyNoneRow, standIns := [], harness := (true, "b4624ea6b9a18257dd671c45ebcdb2a2a8fbc82e0e44899a2be225f1ba632bdc"), looks := true }, kinds := [], alts := [], laidByText := true, laidKinds := [.data, .data], laidTests := true, laidLooks := .later }
def BuddyNoneCardSaid : Prop := Claim7.holds Tryd.pinned (.plain (OpenSpec.ofChange buddyNoneSpec)) buddyNoneCard

/-- THE TIED CARD OF 'freeholdlaw03.BuddyOrders'. -/
def buddyOrdersCard : Claim7 := { stood := { row := buddyOrdersRow, standIns := [], harness := (true, "b4624ea6b9a18257dd671c45ebcdb2a2a8fbc82e0e44899a2be225f1ba632bdc"), looks := true }, kinds := [], alts := [], laidByText := true, laidKinds := [.data, .data], laidTests := true, laidLooks := .later }
def BuddyOrdersCardSaid : Prop := Claim7.holds Tryd.pinned (.plain (OpenSpec.ofChange buddyOrdersSpec)) buddyOrdersCard

/-- THE TIED CARD OF 'freeholdlaw03.BuddyBlocks'. -/
def buddyBlocksCard : Claim7 := { stood := { row := buddyBlocksRow, standIns := [], harness := (true, "b4624ea6b9a18257dd671c45ebcdb2a2a8fbc82e0e44899a2be225f1ba632bdc"), looks := true }, kinds := [], alts := [], laidByText := true, laidKinds := [.data, .data], laidTests := true, laidLooks := .later }
def BuddyBlocksCardSaid : Prop := Claim7.holds Tryd.pinned (.plain (OpenSpec.ofChange buddyBlocksSpec)) buddyBlocksCard

/-- THE TIED CARD OF 'freeholdlaw03.BuddyTakes'. -/
def buddyTakesCard : Claim7 := { stood := { row := buddyTakesRow, standIns := [], harness := (true, "b4624ea6b9a18257dd671c45ebcdb2a2a8fbc82e0e44899a2be225f1ba632bdc"), looks := true }, kinds := [], alts := [], laidByText := true, laidKinds := [.data, .data], laidTests := true, laidLooks := .later }
def BuddyTakesCardSaid : Prop := Claim7.holds Tryd.pinned (.plain (OpenSpec.ofChange buddyTakesSpec)) buddyTakesCard

/-- THE TIED CARD OF 'freeholdlaw03.BuddyAlone'. -/
def buddyAloneCard : Claim7 := { stood := { row := buddyAloneRow, standIns := [], harness := (true, "b4624ea6b9a18257dd671c45ebcdb2a2a8fbc82e0e44899a2be225f1ba632bdc"), looks := true }, kinds := [], alts := [], laidByText := true, laidKinds := [.data, .data], laidTests := true, laidLooks := .later }
def BuddyAloneCardSaid : Prop := Claim7.holds Tryd.pinned (.plain (OpenSpec.ofChange buddyAloneSpec)) buddyAloneCard

/-- THE TIED CARD OF 'freeholdlaw03.BuddyBack'. -/
def buddyBackCard : Claim7 := { stood := { row := buddyBackRow, standIns := [], harness := (true, "b4624ea6b9a18257dd671c45ebcdb2a2a8fbc82e0e44899a2be225f1ba632bdc"), looks := true }, kinds := [], alts := [], laidByText := true, laidKinds := [.data, .data], laidTests := true, laidLooks := .later }
def BuddyBackCardSaid : Prop := Claim7.holds Tryd.pinned (.plain (OpenSpec.ofChange buddyBackSpec)) buddyBackCard

/-- THE TIED CARD OF 'freeholdlaw03.BuddyRefuses'. -/
def buddyRefusesCard : Claim7 := { stood := { row := buddyRefusesRow, standIns := [], harness := (true, "b4624ea6b9a18257dd671c45ebcdb2a2a8fbc82e0e44899a2be225f1ba632bdc"), looks := true }, kinds := [], alts := [], laidByText := true, laidKinds := [.data, .data], laidTests := true, laidLooks := .later }
def BuddyRefusesCardSaid : Prop := Claim7.holds Tryd.pinned (.plain (OpenSpec.ofChange buddyRefusesSpec)) buddyRefusesCard

/-- THE TIED CARD OF 'freeholdlaw03.BuddyClones'. -/
def buddyClonesCard : Claim7 := { stood := { row := buddyClonesRow, standIns := [], harness := (true, "b4624ea6b9a18257dd671c45ebcdb2a2a8fbc82e0e44899a2be225f1ba632bdc"), looks := true }, kinds := [], alts := [], laidByText := true, laidKinds := [.data, .data], laidTests := true, laidLooks := .later }
def BuddyClonesCardSaid : Prop := Claim7.holds Tryd.pinned (.plain (OpenSpec.ofChange buddyClonesSpec)) buddyClonesCard

/-- THE SECOND FORM's CARD OF 'freeholdlaw03.BuddyPlays'. -/
def buddyPlaysUptoCard : Claim7 := { stood := { row := buddyPlaysUptoRow, standIns := [], harness := (true, "b4624ea6b9a18257dd671c45ebcdb2a2a8fbc82e0e44899a2be225f1ba632bdc"), looks := true }, kinds := [], alts := [], laidByText := true, laidKinds := [.data, .data], laidTests := true, laidLooks := .later }
def BuddyPlaysUptoCardSaid : Prop := Claim7.holds Tryd.pinned (.plain (OpenSpec.upto buddyPlaysSpec)) buddyPlaysUptoCard

/-- THE SECOND FORM's CARD OF 'freeholdlaw03.BuddyNone'. -/
def buddyNoneUptoCard : Claim7 := { stood := { row := buddyNoneUptoRow, standIns := [], harness := (true, "b4624ea6b9a18257dd671c45ebcdb2a2a8fbc82e0e44899a2be225f1ba632bdc"), looks := true }, kinds := [], alts := [], laidByText := true, laidKinds := [.data, .data], laidTests := true, laidLooks := .later }
def BuddyNoneUptoCardSaid : Prop := Claim7.holds Tryd.pinned (.plain (OpenSpec.upto buddyNoneSpec)) buddyNoneUptoCard

/-- THE SECOND FORM's CARD OF 'freeholdlaw03.BuddyOrders'. -/
def buddyOrdersUptoCard : Claim7 := { stood := { row := buddyOrdersUptoRow, standIns := [], harness := (true, "b4624ea6b9a18257dd671c45ebcdb2a2a8fbc82e0e44899a2be225f1ba632bdc"), looks := true }, kinds := [], alts := [], laidByText := true, laidKinds := [.data, .data], laidTests := true, laidLooks := .later }
def BuddyOrdersUptoCardSaid : Prop := Claim7.holds Tryd.pinned (.plain (OpenSpec.upto buddyOrdersSpec)) buddyOrdersUptoCard

/-- THE SECOND FORM's CARD OF 'freeholdlaw03.BuddyBlocks'. -/
def buddyBlocksUptoCard : Claim7 := { stood := { row := buddyBlocksUptoRow, standIns := [], harness := (true, "b4624ea6b9a18257dd671c45ebcdb2a2a8fbc82e0e44899a2be225f1ba632bdc"), looks := true }, kinds := [], alts := [], laidByText := true, laidKinds := [.data, .data], laidTests := true, laidLooks := .later }
def BuddyBlocksUptoCardSaid : Prop := Claim7.holds Tryd.pinned (.plain (OpenSpec.upto buddyBlocksSpec)) buddyBlocksUptoCard

/-- THE SECOND FORM's CARD OF 'freeholdlaw03.BuddyTakes'. -/
def buddyTakesUptoCard : Claim7 := { stood := { row := buddyTakesUptoRow, standIns := [], harness := (true, "b4624ea6b9a18257dd671c45ebcdb2a2a8fbc82e0e44899a2be225f1ba632bdc"), looks := true }, kinds := [], alts := [], laidByText := true, laidKinds := [.data, .data], laidTests := true, laidLooks := .later }
def BuddyTakesUptoCardSaid : Prop := Claim7.holds Tryd.pinned (.plain (OpenSpec.upto buddyTakesSpec)) buddyTakesUptoCard

/-- THE SECOND FORM's CARD OF 'freeholdlaw03.BuddyAlone'. -/
def buddyAloneUptoCard : Claim7 := { stood := { row := buddyAloneUptoRow, standIns := [], harness := (true, "b4624ea6b9a18257dd671c45ebcdb2a2a8fbc82e0e44899a2be225f1ba632bdc"), looks := true }, kinds := [], alts := [], laidByText := true, laidKinds := [.data, .data], laidTests := true, laidLooks := .later }
def BuddyAloneUptoCardSaid : Prop := Claim7.holds Tryd.pinned (.plain (OpenSpec.upto buddyAloneSpec)) buddyAloneUptoCard

/-- THE SECOND FORM's CARD OF 'freeholdlaw03.BuddyBack'. -/
def buddyBackUptoCard : Claim7 := { stood := { row := buddyBackUptoRow, standIns := [], harness := (true, "b4624ea6b9a18257dd671c45ebcdb2a2a8fbc82e0e44899a2be225f1ba632bdc"), looks := true }, kinds := [], alts := [], laidByText := true, laidKinds := [.data, .data], laidTests := true, laidLooks := .later }
def BuddyBackUptoCardSaid : Prop := Claim7.holds Tryd.pinned (.plain (OpenSpec.upto buddyBackSpec)) buddyBackUptoCard

/-- THE SECOND FORM's CARD OF 'freeholdlaw03.BuddyRefuses'. -/
def buddyRefusesUptoCard : Claim7 := { stood := { row := buddyRefusesUptoRow, standIns := [], harness := (true, "b4624ea6b9a18257dd671c45ebcdb2a2a8fbc82e0e44899a2be225f1ba632bdc"), looks := true }, kinds := [], alts := [], laidByText := true, laidKinds := [.data, .data], laidTests := true, laidLooks := .later }
def BuddyRefusesUptoCardSaid : Prop := Claim7.holds Tryd.pinned (.plain (OpenSpec.upto buddyRefusesSpec)) buddyRefusesUptoCard

/-- THE SECOND FORM's CARD OF 'freeholdlaw03.BuddyClones'. -/
def buddyClonesUptoCard : Claim7 := { stood := { row := buddyClonesUptoRow, standIns := [], harness := (true, "b4624ea6b9a18257dd671c45ebcdb2a2a8fbc82e0e44899a2be225f1ba632bdc"), looks := true }, kinds := [], alts := [], laidByText := true, laidKinds := [.data, .data], laidTests := true, laidLooks := .later }
def BuddyClonesUptoCardSaid : Prop := Claim7.holds Tryd.pinned (.plain (OpenSpec.upto buddyClonesSpec)) buddyClonesUptoCard
end Rows
end Go.Proofs.YtnmejilpifmlnaaDoor
