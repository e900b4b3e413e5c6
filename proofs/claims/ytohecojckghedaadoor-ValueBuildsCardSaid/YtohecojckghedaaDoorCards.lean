/-
  DERIVED. GIVEN WITH THE SEED: THE CARDS: each row of YtohecojckghedaaDoorRows.lean that lists a variable, with what it lists TIED to the program's text (the seventh form; the later family's looks); each row that meets fmt, with fmt's text TOLD by the authors' own Lean function (tested against real Go, not proved from fmt's source: count such statements apart). THE CARD IS WHAT COUNTS. Prove the row's statement (the work); the ties are given (YtohecojckghedaaDoorTie.lean); close each card by the builder's one call (the guide's Derived/Test/ToyasCard.lean, 'card_holds'). Laid BY PROGRAM, IN A SANDBOX (cutbox-door.mjs). By AI agents, Wed Nov 11 2026. No macro, syntax, notation, axiom, sorry.
-/
import Derived.Test.YtohecojckghedaaDoorRows
import GoSem.ClaimSeven
namespace Go.Proofs.YtohecojckghedaaDoor
namespace Rows

/-- THE TIED CARD OF 'synthesislaw01.ValueChecks'. -/
def valueChecksCard : Claim7 := { stood := { row := valueChecksRow, standIns := [], harness := (true, "1d9a9fda0aceef5fb46284caa59ebce2d4009d829f844bae39edb52fe78bc1cd"), looks := false }, kinds := [], alts := [], laidByText := true, laidKinds := [.data], laidTests := true, laidLooks := .later }
def ValueChecksCardSaid : Prop := Claim7.holds Tryd.pinned (.plain (OpenSpec.ofChange valueChecksSpec)) valueChecksCard

/-- THE TIED CARD OF 'synthesislaw01.ValueCompares'. -/
def valueComparesCard : Claim7 := { stood := { row := valueComparesRow, standIns := [], harness := (true, "1d9a9fda0aceef5fb46284caa59ebce2d4009d829f844bae39edb52fe78bc1cd"), looks := false }, kinds := [], alts := [], laidByText := true, laidKinds := [.data], laidTests := true, laidLooks := .later }
def ValueComparesCardSaid : Prop := Claim7.holds Tryd.pinned (.plain (OpenSpec.ofChange valueComparesSpec)) valueComparesCard

/-- THE TIED CARD OF 'synthesislaw01.ValueOrders'. -/
def valueOrdersCard : Claim7 := { stood := { row := valueOrdersRow, standIns := [], harness := (true, "1d9a9fda0aceef5fb46284caa59ebce2d4009d829f844bae39edb52fe78bc1cd"), looks := false }, kinds := [], alts := [], laidByText := true, laidKinds := [.data], laidTests := true, laidLooks := .later }
def ValueOrdersCardSaid : Prop := Claim7.holds Tryd.pinned (.plain (OpenSpec.ofChange valueOrdersSpec)) valueOrdersCard

/-- THE TIED CARD OF 'synthesislaw01.ValueSizes'. -/
def valueSizesCard : Claim7 := { stood := { row := valueSizesRow, standIns := [], harness := (true, "1d9a9fda0aceef5fb46284caa59ebce2d4009d829f844bae39edb52fe78bc1cd"), looks := false }, kinds := [], alts := [], laidByText := true, laidKinds := [.data], laidTests := true, laidLooks := .later }
def ValueSizesCardSaid : Prop := Claim7.holds Tryd.pinned (.plain (OpenSpec.ofChange valueSizesSpec)) valueSizesCard

/-- THE TIED CARD OF 'synthesislaw01.ValueNames'. -/
def valueNamesCard : Claim7 := { stood := { row := valueNamesRow, standIns := [], harness := (true, "1d9a9fda0aceef5fb46284caa59ebce2d4009d829f844bae39edb52fe78bc1cd"), looks := false }, kinds := [], alts := [], laidByText := true, laidKinds := [.data], laidTests := true, laidLooks := .later }
def ValueNamesCardSaid : Prop := Claim7.holds Tryd.pinned (.plain (OpenSpec.ofChange valueNamesSpec)) valueNamesCard

/-- THE TIED CARD OF 'synthesislaw01.ValueBuilds'. -/
def valueBuildsCard : Claim7 := { stood := { row := valueBuildsRow, standIns := [], harness := (true, "1d9a9fda0aceef5fb46284caa59ebce2d4009d829f844bae39edb52fe78bc1cd"), looks := false }, kinds := [], alts := [], laidByText := true, laidKinds := [.data], laidTests := true, laidLooks := .later }
def ValueBuildsCardSaid : Prop := Claim7.holds Tryd.pinned (.plain (OpenSpec.ofChange valueBuildsSpec)) valueBuildsCard

/-- THE TIED CARD OF 'synthesislaw01.ValueReads'. -/
def valueReadsCard : Claim7 := { stood := { row := valueReadsRow, standIns := [], harness := (true, "1d9a9fda0aceef5fb46284caa59ebce2d4009d829f844bae39edb52fe78bc1cd"), looks := false }, kinds := [], alts := [], laidByText := true, laidKinds := [.data], laidTests := true, laidLooks := .later }
def ValueReadsCardSaid : Prop := Claim7.holds Tryd.pinned (.plain (OpenSpec.ofChange valueReadsSpec)) valueReadsCard

/-- THE TIED CARD OF 'synthesislaw01.ValueReturns'. -/
def valueReturnsCard : Claim7 := { stood := { row := valueReturnsRow, standIns := [], harness := (true, "1d9a9fda0aceef5fb46284caa59ebce2d4009d829f844bae39edb52fe78bc1cd"), looks := false }, kinds := [], alts := [], laidByText := true, laidKinds := [.data], laidTests := true, laidLooks := .later }
def ValueReturnsCardSaid : Prop := Claim7.holds Tryd.pinned (.plain (OpenSpec.ofChange valueReturnsSpec)) valueReturnsCard

/-- THE TIED CARD OF 'synthesislaw01.ValueLeast'. -/
def valueLeastCard : Claim7 := { stood := { row := valueLeastRow, standIns := [], harness := (true, "1d9a9fda0aceef5fb46284caa59ebce2d4009d829f844bae39edb52fe78bc1cd"), looks := false }, kinds := [], alts := [], laidByText := true, laidKinds := [.data], laidTests := true, laidLooks := .later }
def ValueLeastCardSaid : Prop := Claim7.holds Tryd.pinned (.plain (OpenSpec.ofChange valueLeastSpec)) valueLeastCard

/-- THE TIED CARD OF 'synthesislaw02.LiteralPrints'. -/
def literalPrintsCard : Claim7 := { stood := { row := literalPrintsRow, standIns := [], harness := (true, "1d9a9fda0aceef5fb46284caa59ebce2d4009d829f844bae39edb52fe78bc1cd"), looks := false }, kinds := [], alts := [], laidByText := true, laidKinds := [.data, .data, .data, .data, .pinned], laidTests := true, laidLooks := .later }
def LiteralPrintsCardSaid : Prop := Claim7.holds Tryd.pinned (.plain (OpenSpec.ofChange literalPrintsSpec)) literalPrintsCard

/-- THE TIED CARD OF 'synthesislaw02.LiteralParses'. -/
def literalParsesCard : Claim7 := { stood := { row := literalParsesRow, standIns := [], harness := (true, "1d9a9fda0aceef5fb46284caa59ebce2d4009d829f844bae39edb52fe78bc1cd"), looks := false }, kinds := [], alts := [], laidByText := true, laidKinds := [.data, .data, .data, .data, .pinned], laidTests := true, laidLooks := .later }
def LiteralParsesCardSaid : Prop := Claim7.holds Tryd.pinned (.plain (OpenSpec.ofChange literalParsesSpec)) literalParsesCard

/-- THE TIED CARD OF 'synthesislaw02.LiteralQuotes'. -/
def literalQuotesCard : Claim7 := { stood := { row := literalQuotesRow, standIns := [], harness := (true, "1d9a9fda0aceef5fb46284caa59ebce2d4009d829f844bae39edb52fe78bc1cd"), looks := false }, kinds := [], alts := [], laidByText := true, laidKinds := [.data, .data, .data, .data, .pinned], laidTests := true, laidLooks := .later }
def LiteralQuotesCardSaid : Prop := Claim7.holds Tryd.pinned (.plain (OpenSpec.ofChange literalQuotesSpec)) literalQuotesCard

/-- THE TIED CARD OF 'synthesislaw02.LiteralBack'. -/
def literalBackCard : Claim7 := { stood := { row := literalBackRow, standIns := [], harness := (true, "1d9a9fda0aceef5fb46284caa59ebce2d4009d829f844bae39edb52fe78bc1cd"), looks := false }, kinds := [], alts := [], laidByText := true, laidKinds := [.data, .data, .data, .data, .pinned], laidTests := true, laidLooks := .later }
def LiteralBackCardSaid : Prop := Claim7.holds Tryd.pinned (.plain (OpenSpec.ofChange literalBackSpec)) literalBackCard

/-- THE TIED CARD OF 'synthesislaw02.LiteralFaults'. -/
def literalFaultsCard : Claim7 := { stood := { row := literalFaultsRow, standIns := [], harness := (true, "1d9a9fda0aceef5fb46284caa59ebce2d4009d829f844bae39edb52fe78bc1cd"), looks := false }, kinds := [], alts := [], laidByText := true, laidKinds := [.data, .data, .data, .data, .pinned], laidTests := true, laidLooks := .later }
def LiteralFaultsCardSaid : Prop := Claim7.holds Tryd.pinned (.plain (OpenSpec.ofChange literalFaultsSpec)) literalFaultsCard

/-- THE TIED CARD OF 'synthesislaw02.LiteralPrefixes'. -/
def literalPrefixesCard : Claim7 := { stood := { row := literalPrefixesRow, standIns := [], harness := (true, "1d9a9fda0aceef5fb46284caa59ebce2d4009d829f844bae39edb52fe78bc1cd"), looks := false }, kinds := [], alts := [], laidByText := true, laidKinds := [.data, .data, .data, .data, .pinned], laidTests := true, laidLooks := .later }
def LiteralPrefixesCardSaid : Prop := Claim7.holds Tryd.pinned (.plain (OpenSpec.ofChange literalPrefixesSpec)) literalPrefixesCard

/-- THE SECOND FORM's CARD OF 'synthesislaw01.ValueChecks'. -/
def valueChecksUptoCard : Claim7 := { stood := { row := valueChecksUptoRow, standIns := [], harness := (true, "1d9a9fda0aceef5fb46284caa59ebce2d4009d829f844bae39edb52fe78bc1cd"), looks := false }, kinds := [], alts := [], laidByText := true, laidKinds := [.data], laidTests := true, laidLooks := .later }
def ValueChecksUptoCardSaid : Prop := Claim7.holds Tryd.pinned (.plain (OpenSpec.upto valueChecksSpec)) valueChecksUptoCard

/-- THE SECOND FORM's CARD OF 'synthesislaw01.ValueCompares'. -/
def valueComparesUptoCard : Claim7 := { stood := { row := valueComparesUptoRow, standIns := [], harness := (true, "1d9a9fda0aceef5fb46284caa59ebce2d4009d829f844bae39edb52fe78bc1cd"), looks := false }, kinds := [], alts := [], laidByText := true, laidKinds := [.data], laidTests := true, laidLooks := .later }
def ValueComparesUptoCardSaid : Prop := Claim7.holds Tryd.pinned (.plain (OpenSpec.upto valueComparesSpec)) valueComparesUptoCard

/-- THE SECOND FORM's CARD OF 'synthesislaw01.ValueOrders'. -/
def valueOrdersUptoCard : Claim7 := { stood := { row := valueOrdersUptoRow, standIns := [], harness := (true, "1d9a9fda0aceef5fb46284caa59ebce2d4009d829f844bae39edb52fe78bc1cd"), looks := false }, kinds := [], alts := [], laidByText := true, laidKinds := [.data], laidTests := true, laidLooks := .later }
def ValueOrdersUptoCardSaid : Prop := Claim7.holds Tryd.pinned (.plain (OpenSpec.upto valueOrdersSpec)) valueOrdersUptoCard

/-- THE SECOND FORM's CARD OF 'synthesislaw01.ValueSizes'. -/
def valueSizesUptoCard : Claim7 := { stood := { row := valueSizesUptoRow, standIns := [], harness := (true, "1d9a9fda0aceef5fb46284caa59ebce2d4009d829f844bae39edb52fe78bc1cd"), looks := false }, kinds := [], alts := [], laidByText := true, laidKinds := [.data], laidTests := true, laidLooks := .later }
def ValueSizesUptoCardSaid : Prop := Claim7.holds Tryd.pinned (.plain (OpenSpec.upto valueSizesSpec)) valueSizesUptoCard

/-- THE SECOND FORM's CARD OF 'synthesislaw01.ValueNames'. -/
def valueNamesUptoCard : Claim7 := { stood := { row := valueNamesUptoRow, standIns := [], harness := (true, "1d9a9fda0aceef5fb46284caa59ebce2d4009d829f844bae39edb52fe78bc1cd"), looks := false }, kinds := [], alts := [], laidByText := true, laidKinds := [.data], laidTests := true, laidLooks := .later }
def ValueNamesUptoCardSaid : Prop := Claim7.holds Tryd.pinned (.plain (OpenSpec.upto valueNamesSpec)) valueNamesUptoCard

/-- THE SECOND FORM's CARD OF 'synthesislaw01.ValueBuilds'. -/
def valueBuildsUptoCard : Claim7 := { stood := { row := valueBuildsUptoRow, standIns := [], harness := (true, "1d9a9fda0aceef5fb46284caa59ebce2d4009d829f844bae39edb52fe78bc1cd"), looks := false }, kinds := [], alts := [], laidByText := true, laidKinds := [.data], laidTests := true, laidLooks := .later }
def ValueBuildsUptoCardSaid : Prop := Claim7.holds Tryd.pinned (.plain (OpenSpec.upto valueBuildsSpec)) valueBuildsUptoCard

/-- THE SECOND FORM's CARD OF 'synthesislaw01.ValueReads'. -/
def valueReadsUptoCard : Claim7 := { stood := { row := valueReadsUptoRow, standIns := [], harness := (true, "1d9a9fda0aceef5fb46284caa59ebce2d4009d829f844bae39edb52fe78bc1cd"), looks := false }, kinds := [], alts := [], laidByText := true, laidKinds := [.data], laidTests := true, laidLooks := .later }
def ValueReadsUptoCardSaid : Prop := Claim7.holds Tryd.pinned (.plain (OpenSpec.upto valueReadsSpec)) valueReadsUptoCard

/-- THE SECOND FORM's CARD OF 'synthesislaw01.ValueReturns'. -/
def valueReturnsUptoCard : Claim7 := { stood := { row := valueReturnsUptoRow, standIns := [], harness := (true, "1d9a9fda0aceef5fb46284caa59ebce2d4009d829f844bae39edb52fe78bc1cd"), looks := false }, kinds := [], alts := [], laidByText := true, laidKinds := [.data], laidTests := true, laidLooks := .later }
def ValueReturnsUptoCardSaid : Prop := Claim7.holds Tryd.pinned (.plain (OpenSpec.upto valueReturnsSpec)) valueReturnsUptoCard

/-- THE SECOND FORM's CARD OF 'synthesislaw01.ValueLeast'. -/
def valueLeastUptoCard : Claim7 := { stood := { row := valueLeastUptoRow, standIns := [], harness := (true, "1d9a9fda0aceef5fb46284caa59ebce2d4009d829f844bae39edb52fe78bc1cd"), looks := false }, kinds := [], alts := [], laidByText := true, laidKinds := [.data], laidTests := true, laidLooks := .later }
def ValueLeastUptoCardSaid : Prop := Claim7.holds Tryd.pinned (.plain (OpenSpec.upto valueLeastSpec)) valueLeastUptoCard

/-- THE SECOND FORM's CARD OF 'synthesislaw02.LiteralPrints'. -/
def literalPrintsUptoCard : Claim7 := { stood := { row := literalPrintsUptoRow, standIns := [], harness := (true, "1d9a9fda0aceef5fb46284caa59ebce2d4009d829f844bae39edb52fe78bc1cd"), looks := false }, kinds := [], alts := [], laidByText := true, laidKinds := [.data, .data, .data, .data, .pinned], laidTests := true, laidLooks := .later }
def LiteralPrintsUptoCardSaid : Prop := Claim7.holds Tryd.pinned (.plain (OpenSpec.upto literalPrintsSpec)) literalPrintsUptoCard

/-- THE SECOND FORM's CARD OF 'synthesislaw02.LiteralParses'. -/
def literalParsesUptoCard : Claim7 := { stood := { row := literalParsesUptoRow, standIns := [], harness := (true, "1d9a9fda0aceef5fb46284caa59ebce2d4009d829f844bae39edb52fe78bc1cd"), looks := false }, kinds := [], alts := [], laidByText := true, laidKinds := [.data, .data, .data, .data, .pinned], laidTests := true, laidLooks := .later }
def LiteralParsesUptoCardSaid : Prop := Claim7.holds Tryd.pinned (.plain (OpenSpec.upto literalParsesSpec)) literalParsesUptoCard

/-- THE SECOND FORM's CARD OF 'synthesislaw02.LiteralQuotes'. -/
def literalQuotesUptoCard : Claim7 := { stood := { row := literalQuotesUptoRow, standIns := [], harness := (true, "1d9a9fda0aceef5fb46284caa59ebce2d4009d829f844bae39edb52fe78bc1cd"), looks := false }, kinds := [], alts := [], laidByText := true, laidKinds := [.data, .data, .data, .data, .pinned], laidTests := true, laidLooks := .later }
def LiteralQuotesUptoCardSaid : Prop := Claim7.holds Tryd.pinned (.plain (OpenSpec.upto literalQuotesSpec)) literalQuotesUptoCard

/-- THE SECOND FORM's CARD OF 'synthesislaw02.LiteralBack'. -/
def literalBackUptoCard : Claim7 := { stood := { row := literalBackUptoRow, standIns := [], harness := (true, "1d9a9fda0aceef5fb46284caa59ebce2d4009d829f844bae39edb52fe78bc1cd"), looks := false }, kinds := [], alts := [], laidByText := true, laidKinds := [.data, .data, .data, .data, .pinned], laidTests := true, laidLooks := .later }
def LiteralBackUptoCardSaid : Prop := Claim7.holds Tryd.pinned (.plain (OpenSpec.upto literalBackSpec)) literalBackUptoCard

/-- THE SECOND FORM's CARD OF 'synthesislaw02.LiteralFaults'. -/
def literalFaultsUptoCard : Claim7 := { stood := { row := literalFaultsUptoRow, standIns := [], harness := (true, "1d9a9fda0aceef5fb46284caa59ebce2d4009d829f844bae39edb52fe78bc1cd"), looks := false }, kinds := [], alts := [], laidByText := true, laidKinds := [.data, .data, .data, .data, .pinned], laidTests := true, laidLooks := .later }
def LiteralFaultsUptoCardSaid : Prop := Claim7.holds Tryd.pinned (.plain (OpenSpec.upto literalFaultsSpec)) literalFaultsUptoCard

/-- THE SECOND FORM's CARD OF 'synthesislaw02.LiteralPrefixes'. -/
def literalPrefixesUptoCard : Claim7 := { stood := { row := literalPrefixesUptoRow, standIns := [], harness := (true, "1d9a9fda0aceef5fb46284caa59ebce2d4009d829f844bae39edb52fe78bc1cd"), looks := false }, kinds := [], alts := [], laidByText := true, laidKinds := [.data, .data, .data, .data, .pinned], laidTests := true, laidLooks := .later }
def LiteralPrefixesUptoCardSaid : Prop := Claim7.holds Tryd.pinned (.plain (OpenSpec.upto literalPrefixesSpec)) literalPrefixesUptoCard
end Rows
end Go.Proofs.YtohecojckghedaaDoor
