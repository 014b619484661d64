/-
  DERIVED. GIVEN WITH THE SEED: THE CARDS: each row of YtaepcfidpekflaaGreatDoorRows.lean that lists a variable, with what it lists TIED to the program's text (the seventh form; the later family's looks); each row that meets fmt, with fmt's text TOLD by the authors' own Lean function (tested against real Go, not proved from fmt's source: count such statements apart). THE CARD IS WHAT COUNTS. Prove the row's statement (the work); the ties are given (YtaepcfidpekflaaGreatDoorTie.lean); close each card by the builder's one call (the guide's Derived/Test/ToyasCard.lean, 'card_holds'). Laid BY PROGRAM, IN A SANDBOX (cutbox-door.mjs). By AI agents, Wed Nov 11 2026. No macro, syntax, notation, axiom, sorry.
-/
import Derived.Test.YtaepcfidpekflaaGreatDoorRows
import GoSem.ClaimSeven
namespace Go.Proofs.YtaepcfidpekflaaGreatDoor
namespace Rows

/-- THE TIED CARD OF 'phraseslaw.Numbers'. -/
def numbersCard : Claim7 := { stood := { row := numbersRow, standIns := [], harness := (true, "3c1d932c76529ca307b820d62bd42aa43eefc2295852dc6db81fe24d8d685e84"), looks := true }, kinds := [], alts := [], laidByText := true, laidKinds := [.data, .data, .data, .data, .handle, .sentinel, .sentinel, .pinned], laidTests := true, laidLooks := .later }
def NumbersCardSaid : Prop := Claim7.holds Tryz.pinned (.plain (OpenSpec.ofChange numbersSpec)) numbersCard

/-- THE TIED CARD OF 'phraseskeep.Grouped'. -/
def groupedCard : Claim7 := { stood := { row := groupedRow, standIns := [], harness := (true, "3c1d932c76529ca307b820d62bd42aa43eefc2295852dc6db81fe24d8d685e84"), looks := true }, kinds := [], alts := [], laidByText := true, laidKinds := [.data, .data, .data, .data, .handle, .sentinel, .sentinel, .pinned], laidTests := true, laidLooks := .later }
def GroupedCardSaid : Prop := Claim7.holds Tryz.pinned (.plain (OpenSpec.ofChange groupedSpec)) groupedCard

/-- THE TIED CARD OF 'phraseslaw.Categories'. -/
def categoriesCard : Claim7 := { stood := { row := categoriesRow, standIns := [], harness := (true, "3c1d932c76529ca307b820d62bd42aa43eefc2295852dc6db81fe24d8d685e84"), looks := true }, kinds := [], alts := [], laidByText := true, laidKinds := [.data, .data, .data, .data, .handle, .sentinel, .sentinel, .pinned], laidTests := true, laidLooks := .later }
def CategoriesCardSaid : Prop := Claim7.holds Tryz.pinned (.plain (OpenSpec.ofChange categoriesSpec)) categoriesCard

/-- THE TIED CARD OF 'phraseskeep.Logic'. -/
def logicCard : Claim7 := { stood := { row := logicRow, standIns := [], harness := (true, "3c1d932c76529ca307b820d62bd42aa43eefc2295852dc6db81fe24d8d685e84"), looks := true }, kinds := [], alts := [], laidByText := true, laidKinds := [.data, .data, .data, .data, .handle, .sentinel, .sentinel, .pinned], laidTests := true, laidLooks := .later }
def LogicCardSaid : Prop := Claim7.holds Tryz.pinned (.plain (OpenSpec.ofChange logicSpec)) logicCard

/-- THE TIED CARD OF 'phraseslaw.Canons'. -/
def canonsCard : Claim7 := { stood := { row := canonsRow, standIns := [], harness := (true, "3c1d932c76529ca307b820d62bd42aa43eefc2295852dc6db81fe24d8d685e84"), looks := true }, kinds := [], alts := [], laidByText := true, laidKinds := [.data, .data, .data, .data, .handle, .pinned], laidTests := true, laidLooks := .later }
def CanonsCardSaid : Prop := Claim7.holds Tryz.pinned (.plain (OpenSpec.ofChange canonsSpec)) canonsCard

/-- THE TIED CARD OF 'phraseslaw.Walks'. -/
def walksCard : Claim7 := { stood := { row := walksRow, standIns := [], harness := (true, "3c1d932c76529ca307b820d62bd42aa43eefc2295852dc6db81fe24d8d685e84"), looks := true }, kinds := [], alts := [], laidByText := true, laidKinds := [.data, .handle, .pinned], laidTests := true, laidLooks := .later }
def WalksCardSaid : Prop := Claim7.holds Tryz.pinned (.plain (OpenSpec.ofChange walksSpec)) walksCard

/-- THE TIED CARD OF 'phraseslaw.Compiles'. -/
def compilesCard : Claim7 := { stood := { row := compilesRow, standIns := [], harness := (true, "3c1d932c76529ca307b820d62bd42aa43eefc2295852dc6db81fe24d8d685e84"), looks := true }, kinds := [], alts := [], laidByText := true, laidKinds := [.data, .data, .data, .data, .handle, .sentinel, .sentinel, .pinned], laidTests := true, laidLooks := .later }
def CompilesCardSaid : Prop := Claim7.holds Tryz.pinned (.plain (OpenSpec.ofChange compilesSpec)) compilesCard

/-- THE SECOND FORM's CARD OF 'phraseslaw.Numbers'. -/
def numbersUptoCard : Claim7 := { stood := { row := numbersUptoRow, standIns := [], harness := (true, "3c1d932c76529ca307b820d62bd42aa43eefc2295852dc6db81fe24d8d685e84"), looks := true }, kinds := [], alts := [], laidByText := true, laidKinds := [.data, .data, .data, .data, .handle, .sentinel, .sentinel, .pinned], laidTests := true, laidLooks := .later }
def NumbersUptoCardSaid : Prop := Claim7.holds Tryz.pinned (.plain (OpenSpec.upto numbersSpec)) numbersUptoCard

/-- THE SECOND FORM's CARD OF 'phraseskeep.Grouped'. -/
def groupedUptoCard : Claim7 := { stood := { row := groupedUptoRow, standIns := [], harness := (true, "3c1d932c76529ca307b820d62bd42aa43eefc2295852dc6db81fe24d8d685e84"), looks := true }, kinds := [], alts := [], laidByText := true, laidKinds := [.data, .data, .data, .data, .handle, .sentinel, .sentinel, .pinned], laidTests := true, laidLooks := .later }
def GroupedUptoCardSaid : Prop := Claim7.holds Tryz.pinned (.plain (OpenSpec.upto groupedSpec)) groupedUptoCard

/-- THE SECOND FORM's CARD OF 'phraseslaw.Categories'. -/
def categoriesUptoCard : Claim7 := { stood := { row := categoriesUptoRow, standIns := [], harness := (true, "3c1d932c76529ca307b820d62bd42aa43eefc2295852dc6db81fe24d8d685e84"), looks := true }, kinds := [], alts := [], laidByText := true, laidKinds := [.data, .data, .data, .data, .handle, .sentinel, .sentinel, .pinned], laidTests := true, laidLooks := .later }
def CategoriesUptoCardSaid : Prop := Claim7.holds Tryz.pinned (.plain (OpenSpec.upto categoriesSpec)) categoriesUptoCard

/-- THE SECOND FORM's CARD OF 'phraseskeep.Logic'. -/
def logicUptoCard : Claim7 := { stood := { row := logicUptoRow, standIns := [], harness := (true, "3c1d932c76529ca307b820d62bd42aa43eefc2295852dc6db81fe24d8d685e84"), looks := true }, kinds := [], alts := [], laidByText := true, laidKinds := [.data, .data, .data, .data, .handle, .sentinel, .sentinel, .pinned], laidTests := true, laidLooks := .later }
def LogicUptoCardSaid : Prop := Claim7.holds Tryz.pinned (.plain (OpenSpec.upto logicSpec)) logicUptoCard

/-- THE SECOND FORM's CARD OF 'phraseslaw.Canons'. -/
def canonsUptoCard : Claim7 := { stood := { row := canonsUptoRow, standIns := [], harness := (true, "3c1d932c76529ca307b820d62bd42aa43eefc2295852dc6db81fe24d8d685e84"), looks := true }, kinds := [], alts := [], laidByText := true, laidKinds := [.data, .data, .data, .data, .handle, .pinned], laidTests := true, laidLooks := .later }
def CanonsUptoCardSaid : Prop := Claim7.holds Tryz.pinned (.plain (OpenSpec.upto canonsSpec)) canonsUptoCard

/-- THE SECOND FORM's CARD OF 'phraseslaw.Walks'. -/
def walksUptoCard : Claim7 := { stood := { row := walksUptoRow, standIns := [], harness := (true, "3c1d932c76529ca307b820d62bd42aa43eefc2295852dc6db81fe24d8d685e84"), looks := true }, kinds := [], alts := [], laidByText := true, laidKinds := [.data, .handle, .pinned], laidTests := true, laidLooks := .later }
def WalksUptoCardSaid : Prop := Claim7.holds Tryz.pinned (.plain (OpenSpec.upto walksSpec)) walksUptoCard

/-- THE SECOND FORM's CARD OF 'phraseslaw.Compiles'. -/
def compilesUptoCard : Claim7 := { stood := { row := compilesUptoRow, standIns := [], harness := (true, "3c1d932c76529ca307b820d62bd42aa43eefc2295852dc6db81fe24d8d685e84"), looks := true }, kinds := [], alts := [], laidByText := true, laidKinds := [.data, .data, .data, .data, .handle, .sentinel, .sentinel, .pinned], laidTests := true, laidLooks := .later }
def CompilesUptoCardSaid : Prop := Claim7.holds Tryz.pinned (.plain (OpenSpec.upto compilesSpec)) compilesUptoCard
end Rows
end Go.Proofs.YtaepcfidpekflaaGreatDoor
