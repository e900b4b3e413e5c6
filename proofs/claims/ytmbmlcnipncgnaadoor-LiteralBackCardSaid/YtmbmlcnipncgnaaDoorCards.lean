/-
  DERIVED. GIVEN WITH THE SEED: THE CARDS: each row of YtmbmlcnipncgnaaDoorRows.lean that lists a variable, with what it lists TIED to the program's text (the seventh form; the later family's looks); each row that meets fmt, with fmt's text TOLD by the authors' own Lean function (tested against real Go, not proved from fmt's source: count such statements apart). THE CARD IS WHAT COUNTS. Prove the row's statement (the work); the ties are given (YtmbmlcnipncgnaaDoorTie.lean); close each card by the builder's one call (the guide's Derived/Test/ToyasCard.lean, 'card_holds'). Laid BY PROGRAM, IN A SANDBOX (cutbox-door.mjs). By AI agents, Wed Nov 11 2026. No macro, syntax, notation, axiom, sorry.
-/
import Derived.Test.YtmbmlcnipncgnaaDoorRows
import GoSem.ClaimSeven
namespace Go.Proofs.YtmbmlcnipncgnaaDoor
namespace Rows

/-- THE TIED CARD OF 'synthesislaw02.LiteralPrints'. -/
def literalPrintsCard : Claim7 := { stood := { row := literalPrintsRow, standIns := [], harness := (true, "dff811b5fb88f251335d67c17ae1784d567abf4a842457b6ded9be7ed3de0ea0"), looks := false }, kinds := [], alts := [], laidByText := true, laidKinds := [.data, .data, .data, .data, .pinned], laidTests := true, laidLooks := .later }
def LiteralPrintsCardSaid : Prop := Claim7.holds Tryd.pinned (.plain (OpenSpec.ofChange literalPrintsSpec)) literalPrintsCard

/-- THE TIED CARD OF 'synthesislaw02.LiteralBack'. -/
def literalBackCard : Claim7 := { stood := { row := literalBackRow, standIns := [], harness := (true, "dff811b5fb88f251335d67c17ae1784d567abf4a842457b6ded9be7ed3de0ea0"), looks := false }, kinds := [], alts := [], laidByText := true, laidKinds := [.data, .data, .data, .data, .pinned], laidTests := true, laidLooks := .later }
def LiteralBackCardSaid : Prop := Claim7.holds Tryd.pinned (.plain (OpenSpec.ofChange literalBackSpec)) literalBackCard

/-- THE SECOND FORM's CARD OF 'synthesislaw02.LiteralPrints'. -/
def literalPrintsUptoCard : Claim7 := { stood := { row := literalPrintsUptoRow, standIns := [], harness := (true, "dff811b5fb88f251335d67c17ae1784d567abf4a842457b6ded9be7ed3de0ea0"), looks := false }, kinds := [], alts := [], laidByText := true, laidKinds := [.data, .data, .data, .data, .pinned], laidTests := true, laidLooks := .later }
def LiteralPrintsUptoCardSaid : Prop := Claim7.holds Tryd.pinned (.plain (OpenSpec.upto literalPrintsSpec)) literalPrintsUptoCard

/-- THE SECOND FORM's CARD OF 'synthesislaw02.LiteralBack'. -/
def literalBackUptoCard : Claim7 := { stood := { row := literalBackUptoRow, standIns := [], harness := (true, "dff811b5fb88f251335d67c17ae1784d567abf4a842457b6ded9be7ed3de0ea0"), looks := false }, kinds := [], alts := [], laidByText := true, laidKinds := [.data, .data, .data, .data, .pinned], laidTests := true, laidLooks := .later }
def LiteralBackUptoCardSaid : Prop := Claim7.holds Tryd.pinned (.plain (OpenSpec.upto literalBackSpec)) literalBackUptoCard
end Rows
end Go.Proofs.YtmbmlcnipncgnaaDoor
