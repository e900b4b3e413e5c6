/-
  DERIVED. GIVEN WITH THE SEED: THE CARDS: each row of YtkogldlhidppaaaDoorRows.lean that lists a variable, with what it lists TIED to the program's text (the seventh form; the later family's looks); each row that meets fmt, with fmt's text TOLD by the authors' own Lean function (tested against real Go, not proved from fmt's source: count such statements apart). THE CARD IS WHAT COUNTS. Prove the row's statement (the work); the ties are given (YtkogldlhidppaaaDoorTie.lean); close each card by the builder's one call (the guide's Derived/Test/ToyasCard.lean, 'card_holds'). Laid BY PROGRAM, IN A SANDBOX (cutbox-door.mjs). By AI agents, Wed Nov 11 2026. No macro, syntax, notation, axiom, sorry.
-/
import Derived.Test.YtkogldlhidppaaaDoorRows
import GoSem.ClaimSeven
namespace Go.Proofs.YtkogldlhidppaaaDoor
namespace Rows

/-- THE TIED CARD OF 'synthesislaw05.PatternPrints'. -/
def patternPrintsCard : Claim7 := { stood := { row := patternPrintsRow, standIns := [], harness := (true, "1870512fdbb03485b5581d0c7aca451ce62cdfcada849e66754629cee9b0bec7"), looks := false }, kinds := [], alts := [], laidByText := true, laidKinds := [.wider], laidTests := true, laidLooks := .later }
def PatternPrintsCardSaid : Prop := Claim7.holds Tryd.pinned (.plain (OpenSpec.ofChange patternPrintsSpec)) patternPrintsCard

/-- THE SECOND FORM's CARD OF 'synthesislaw05.PatternPrints'. -/
def patternPrintsUptoCard : Claim7 := { stood := { row := patternPrintsUptoRow, standIns := [], harness := (true, "1870512fdbb03485b5581d0c7aca451ce62cdfcada849e66754629cee9b0bec7"), looks := false }, kinds := [], alts := [], laidByText := true, laidKinds := [.wider], laidTests := true, laidLooks := .later }
def PatternPrintsUptoCardSaid : Prop := Claim7.holds Tryd.pinned (.plain (OpenSpec.upto patternPrintsSpec)) patternPrintsUptoCard
end Rows
end Go.Proofs.YtkogldlhidppaaaDoor
