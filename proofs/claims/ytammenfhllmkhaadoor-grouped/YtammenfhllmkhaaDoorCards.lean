/-
  DERIVED. GIVEN WITH THE SEED: THE CARDS: each row of YtammenfhllmkhaaDoorRows.lean that lists a variable, with what it lists TIED to the program's text (the seventh form; the later family's looks); each row that meets fmt, with fmt's text TOLD by the authors' own Lean function (tested against real Go, not proved from fmt's source: count such statements apart). THE CARD IS WHAT COUNTS. Prove the row's statement (the work); the ties are given (YtammenfhllmkhaaDoorTie.lean); close each card by the builder's one call (the guide's Derived/Test/ToyasCard.lean, 'card_holds'). Laid BY PROGRAM, IN A SANDBOX (cutbox-door.mjs). By AI agents, Wed Nov 11 2026. No macro, syntax, notation, axiom, sorry.
-/
import Derived.Test.YtammenfhllmkhaaDoorRows
import GoSem.ClaimSeven
namespace Go.Proofs.YtammenfhllmkhaaDoor
namespace Rows

/-- THE TIED CARD OF 'phraseskeep.Grouped'. -/
def groupedCard : Claim7 := { stood := { row := groupedRow, standIns := [], harness := (true, "154f5afe40a766325941abbb149b1a22eef69ab2012b79b3794f85024e330fcf"), looks := true }, kinds := [], alts := [], laidByText := true, laidKinds := [.data, .handle, .pinned], laidTests := true, laidLooks := .later }
def GroupedCardSaid : Prop := Claim7.holds Tryd.pinned (.plain (OpenSpec.ofChange groupedSpec)) groupedCard

/-- THE SECOND FORM's CARD OF 'phraseskeep.Grouped'. -/
def groupedUptoCard : Claim7 := { stood := { row := groupedUptoRow, standIns := [], harness := (true, "154f5afe40a766325941abbb149b1a22eef69ab2012b79b3794f85024e330fcf"), looks := true }, kinds := [], alts := [], laidByText := true, laidKinds := [.data, .handle, .pinned], laidTests := true, laidLooks := .later }
def GroupedUptoCardSaid : Prop := Claim7.holds Tryd.pinned (.plain (OpenSpec.upto groupedSpec)) groupedUptoCard
end Rows
end Go.Proofs.YtammenfhllmkhaaDoor
