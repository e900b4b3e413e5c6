/-
  DERIVED. GIVEN WITH THE SEED: THE CARDS: each row of YtokhcoocgddodaaDoorRows.lean that lists a variable, with what it lists TIED to the program's text (the seventh form; the later family's looks); each row that meets fmt, with fmt's text TOLD by the authors' own Lean function (tested against real Go, not proved from fmt's source: count such statements apart). THE CARD IS WHAT COUNTS. Prove the row's statement (the work); the ties are given (YtokhcoocgddodaaDoorTie.lean); close each card by the builder's one call (the guide's Derived/Test/ToyasCard.lean, 'card_holds'). Laid BY PROGRAM, IN A SANDBOX (cutbox-door.mjs). By AI agents, Wed Nov 11 2026. No macro, syntax, notation, axiom, sorry.
-/
import Derived.Test.YtokhcoocgddodaaDoorRows
import GoSem.ClaimSeven
namespace Go.Proofs.YtokhcoocgddodaaDoor
namespace Rows

/-- THE TIED CARD OF 'synthesislaw02.LiteralPrints'. -/
def literalPrintsCard : Claim7 := { stood := { row := literalPrintsRow, standIns := [], harness := (true, "8d1b83b09928be03ca54c2b4d953a27218a449093c571509b401b7c470fe0bfb"), looks := false }, kinds := [], alts := [], laidByText := true, laidKinds := [.data, .data, .data, .data, .pinned], laidTests := true, laidLooks := .later }
def LiteralPrintsCardSaid : Prop := Claim7.holds Tryd.pinned (.plain (OpenSpec.ofChange literalPrintsSpec)) literalPrintsCard

/-- THE TIED CARD OF 'synthesislaw02.LiteralParses'. -/
def literalParsesCard : Claim7 := { stood := { row := literalParsesRow, standIns := [], harness := (true, "8d1b83b09928be03ca54c2b4d953a27218a449093c571509b401b7c470fe0bfb"), looks := false }, kinds := [], alts := [], laidByText := true, laidKinds := [.data, .data, .data, .data, .pinned], laidTests := true, laidLooks := .later }
def LiteralParsesCardSaid : Prop := Claim7.holds Tryd.pinned (.plain (OpenSpec.ofChange literalParsesSpec)) literalParsesCard

/-- THE TIED CARD OF 'synthesislaw02.LiteralQuotes'. -/
def literalQuotesCard : Claim7 := { stood := { row := literalQuotesRow, standIns := [], harness := (true, "8d1b83b09928be03ca54c2b4d953a27218a449093c571509b401b7c470fe0bfb"), looks := false }, kinds := [], alts := [], laidByText := true, laidKinds := [.data, .data, .data, .data, .pinned], laidTests := true, laidLooks := .later }
def LiteralQuotesCardSaid : Prop := Claim7.holds Tryd.pinned (.plain (OpenSpec.ofChange literalQuotesSpec)) literalQuotesCard

/-- THE TIED CARD OF 'synthesislaw02.LiteralBack'. -/
def literalBackCard : Claim7 := { stood := { row := literalBackRow, standIns := [], harness := (true, "8d1b83b09928be03ca54c2b4d953a27218a449093c571509b401b7c470fe0bfb"), looks := false }, kinds := [], alts := [], laidByText := true, laidKinds := [.data, .data, .data, .data, .pinned], laidTests := true, laidLooks := .later }
def LiteralBackCardSaid : Prop := Claim7.holds Tryd.pinned (.plain (OpenSpec.ofChange literalBackSpec)) literalBackCard

/-- THE TIED CARD OF 'synthesislaw02.LiteralFaults'. -/
def literalFaultsCard : Claim7 := { stood := { row := literalFaultsRow, standIns := [], harness := (true, "8d1b83b09928be03ca54c2b4d953a27218a449093c571509b401b7c470fe0bfb"), looks := false }, kinds := [], alts := [], laidByText := true, laidKinds := [.data, .data, .data, .data, .pinned], laidTests := true, laidLooks := .later }
def LiteralFaultsCardSaid : Prop := Claim7.holds Tryd.pinned (.plain (OpenSpec.ofChange literalFaultsSpec)) literalFaultsCard

/-- THE TIED CARD OF 'synthesislaw02.LiteralPrefixes'. -/
def literalPrefixesCard : Claim7 := { stood := { row := literalPrefixesRow, standIns := [], harness := (true, "8d1b83b09928be03ca54c2b4d953a27218a449093c571509b401b7c470fe0bfb"), looks := false }, kinds := [], alts := [], laidByText := true, laidKinds := [.data, .data, .data, .data, .pinned], laidTests := true, laidLooks := .later }
def LiteralPrefixesCardSaid : Prop := Claim7.holds Tryd.pinned (.plain (OpenSpec.ofChange literalPrefixesSpec)) literalPrefixesCard

/-- THE SECOND FORM's CARD OF 'synthesislaw02.LiteralPrints'. -/
def literalPrintsUptoCard : Claim7 := { stood := { row := literalPrintsUptoRow, standIns := [], harness := (true, "8d1b83b09928be03ca54c2b4d953a27218a449093c571509b401b7c470fe0bfb"), looks := false }, kinds := [], alts := [], laidByText := true, laidKinds := [.data, .data, .data, .data, .pinned], laidTests := true, laidLooks := .later }
def LiteralPrintsUptoCardSaid : Prop := Claim7.holds Tryd.pinned (.plain (OpenSpec.upto literalPrintsSpec)) literalPrintsUptoCard

/-- THE SECOND FORM's CARD OF 'synthesislaw02.LiteralParses'. -/
def literalParsesUptoCard : Claim7 := { stood := { row := literalParsesUptoRow, standIns := [], harness := (true, "8d1b83b09928be03ca54c2b4d953a27218a449093c571509b401b7c470fe0bfb"), looks := false }, kinds := [], alts := [], laidByText := true, laidKinds := [.data, .data, .data, .data, .pinned], laidTests := true, laidLooks := .later }
def LiteralParsesUptoCardSaid : Prop := Claim7.holds Tryd.pinned (.plain (OpenSpec.upto literalParsesSpec)) literalParsesUptoCard

/-- THE SECOND FORM's CARD OF 'synthesislaw02.LiteralQuotes'. -/
def literalQuotesUptoCard : Claim7 := { stood := { row := literalQuotesUptoRow, standIns := [], harness := (true, "8d1b83b09928be03ca54c2b4d953a27218a449093c571509b401b7c470fe0bfb"), looks := false }, kinds := [], alts := [], laidByText := true, laidKinds := [.data, .data, .data, .data, .pinned], laidTests := true, laidLooks := .later }
def LiteralQuotesUptoCardSaid : Prop := Claim7.holds Tryd.pinned (.plain (OpenSpec.upto literalQuotesSpec)) literalQuotesUptoCard

/-- THE SECOND FORM's CARD OF 'synthesislaw02.LiteralBack'. -/
def literalBackUptoCard : Claim7 := { stood := { row := literalBackUptoRow, standIns := [], harness := (true, "8d1b83b09928be03ca54c2b4d953a27218a449093c571509b401b7c470fe0bfb"), looks := false }, kinds := [], alts := [], laidByText := true, laidKinds := [.data, .data, .data, .data, .pinned], laidTests := true, laidLooks := .later }
def LiteralBackUptoCardSaid : Prop := Claim7.holds Tryd.pinned (.plain (OpenSpec.upto literalBackSpec)) literalBackUptoCard

/-- THE SECOND FORM's CARD OF 'synthesislaw02.LiteralFaults'. -/
def literalFaultsUptoCard : Claim7 := { stood := { row := literalFaultsUptoRow, standIns := [], harness := (true, "8d1b83b09928be03ca54c2b4d953a27218a449093c571509b401b7c470fe0bfb"), looks := false }, kinds := [], alts := [], laidByText := true, laidKinds := [.data, .data, .data, .data, .pinned], laidTests := true, laidLooks := .later }
def LiteralFaultsUptoCardSaid : Prop := Claim7.holds Tryd.pinned (.plain (OpenSpec.upto literalFaultsSpec)) literalFaultsUptoCard

/-- THE SECOND FORM's CARD OF 'synthesislaw02.LiteralPrefixes'. -/
def literalPrefixesUptoCard : Claim7 := { stood := { row := literalPrefixesUptoRow, standIns := [], harness := (true, "8d1b83b09928be03ca54c2b4d953a27218a449093c571509b401b7c470fe0bfb"), looks := false }, kinds := [], alts := [], laidByText := true, laidKinds := [.data, .data, .data, .data, .pinned], laidTests := true, laidLooks := .later }
def LiteralPrefixesUptoCardSaid : Prop := Claim7.holds Tryd.pinned (.plain (OpenSpec.upto literalPrefixesSpec)) literalPrefixesUptoCard
end Rows
end Go.Proofs.YtokhcoocgddodaaDoor
