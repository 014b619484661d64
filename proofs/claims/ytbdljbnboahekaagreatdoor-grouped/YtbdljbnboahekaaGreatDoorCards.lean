/-
  DERIVED. GIVEN WITH THE SEED: THE CARDS: each row of YtbdljbnboahekaaGreatDoorRows.lean that lists a variable, with what it lists TIED to the program's text (the seventh form; the later family's looks); each row that meets fmt, with fmt's text TOLD by the authors' own Lean function (tested against real Go, not proved from fmt's source: count such statements apart). THE CARD IS WHAT COUNTS. Prove the row's statement (the work); the ties are given (YtbdljbnboahekaaGreatDoorTie.lean); close each card by the builder's one call (the guide's Derived/Test/ToyasCard.lean, 'card_holds'). Laid BY PROGRAM, IN A SANDBOX (cutbox-door.mjs). By AI agents, Wed Nov 11 2026. No macro, syntax, notation, axiom, sorry.
-/
import Derived.Test.YtbdljbnboahekaaGreatDoorRows
import GoSem.ClaimSeven
namespace Go.Proofs.YtbdljbnboahekaaGreatDoor
namespace Rows

/-- THE TIED CARD OF 'phraseslaw.Numbers'. -/
def numbersCard : Claim7 := { stood := { row := numbersRow, standIns := [], harness := (true, "92715d033a09aef1ead9b41e0aadf14a9a58da8305c1d529796e9c33807cc154"), looks := true }, kinds := [], alts := [], laidByText := true, laidKinds := [.data, .data, .data, .data, .handle, .sentinel, .sentinel, .pinned], laidTests := true, laidLooks := .later }
def NumbersCardSaid : Prop := Claim7.holds Tryz.pinned (.plain (OpenSpec.ofChange numbersSpec)) numbersCard

/-- THE TIED CARD OF 'phraseskeep.Grouped'. -/
def groupedCard : Claim7 := { stood := { row := groupedRow, standIns := [], harness := (true, "92715d033a09aef1ead9b41e0aadf14a9a58da8305c1d529796e9c33807cc154"), looks := true }, kinds := [], alts := [], laidByText := true, laidKinds := [.data, .data, .data, .data, .handle, .sentinel, .sentinel, .pinned], laidTests := true, laidLooks := .later }
def GroupedCardSaid : Prop := Claim7.holds Tryz.pinned (.plain (OpenSpec.ofChange groupedSpec)) groupedCard

/-- THE TIED CARD OF 'phraseslaw.Categories'. -/
def categoriesCard : Claim7 := { stood := { row := categoriesRow, standIns := [], harness := (true, "92715d033a09aef1ead9b41e0aadf14a9a58da8305c1d529796e9c33807cc154"), looks := true }, kinds := [], alts := [], laidByText := true, laidKinds := [.data, .data, .data, .data, .handle, .sentinel, .sentinel, .pinned], laidTests := true, laidLooks := .later }
def CategoriesCardSaid : Prop := Claim7.holds Tryz.pinned (.plain (OpenSpec.ofChange categoriesSpec)) categoriesCard

/-- THE TIED CARD OF 'phraseskeep.Logic'. -/
def logicCard : Claim7 := { stood := { row := logicRow, standIns := [], harness := (true, "92715d033a09aef1ead9b41e0aadf14a9a58da8305c1d529796e9c33807cc154"), looks := true }, kinds := [], alts := [], laidByText := true, laidKinds := [.data, .data, .data, .data, .handle, .sentinel, .sentinel, .pinned], laidTests := true, laidLooks := .later }
def LogicCardSaid : Prop := Claim7.holds Tryz.pinned (.plain (OpenSpec.ofChange logicSpec)) logicCard

/-- THE SECOND FORM's CARD OF 'phraseslaw.Numbers'. -/
def numbersUptoCard : Claim7 := { stood := { row := numbersUptoRow, standIns := [], harness := (true, "92715d033a09aef1ead9b41e0aadf14a9a58da8305c1d529796e9c33807cc154"), looks := true }, kinds := [], alts := [], laidByText := true, laidKinds := [.data, .data, .data, .data, .handle, .sentinel, .sentinel, .pinned], laidTests := true, laidLooks := .later }
def NumbersUptoCardSaid : Prop := Claim7.holds Tryz.pinned (.plain (OpenSpec.upto numbersSpec)) numbersUptoCard

/-- THE SECOND FORM's CARD OF 'phraseskeep.Grouped'. -/
def groupedUptoCard : Claim7 := { stood := { row := groupedUptoRow, standIns := [], harness := (true, "92715d033a09aef1ead9b41e0aadf14a9a58da8305c1d529796e9c33807cc154"), looks := true }, kinds := [], alts := [], laidByText := true, laidKinds := [.data, .data, .data, .data, .handle, .sentinel, .sentinel, .pinned], laidTests := true, laidLooks := .later }
def GroupedUptoCardSaid : Prop := Claim7.holds Tryz.pinned (.plain (OpenSpec.upto groupedSpec)) groupedUptoCard

/-- THE SECOND FORM's CARD OF 'phraseslaw.Categories'. -/
def categoriesUptoCard : Claim7 := { stood := { row := categoriesUptoRow, standIns := [], harness := (true, "92715d033a09aef1ead9b41e0aadf14a9a58da8305c1d529796e9c33807cc154"), looks := true }, kinds := [], alts := [], laidByText := true, laidKinds := [.data, .data, .data, .data, .handle, .sentinel, .sentinel, .pinned], laidTests := true, laidLooks := .later }
def CategoriesUptoCardSaid : Prop := Claim7.holds Tryz.pinned (.plain (OpenSpec.upto categoriesSpec)) categoriesUptoCard

/-- THE SECOND FORM's CARD OF 'phraseskeep.Logic'. -/
def logicUptoCard : Claim7 := { stood := { row := logicUptoRow, standIns := [], harness := (true, "92715d033a09aef1ead9b41e0aadf14a9a58da8305c1d529796e9c33807cc154"), looks := true }, kinds := [], alts := [], laidByText := true, laidKinds := [.data, .data, .data, .data, .handle, .sentinel, .sentinel, .pinned], laidTests := true, laidLooks := .later }
def LogicUptoCardSaid : Prop := Claim7.holds Tryz.pinned (.plain (OpenSpec.upto logicSpec)) logicUptoCard
end Rows
end Go.Proofs.YtbdljbnboahekaaGreatDoor
