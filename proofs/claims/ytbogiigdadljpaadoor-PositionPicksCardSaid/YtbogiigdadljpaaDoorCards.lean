/-
  DERIVED. GIVEN WITH THE SEED: THE CARDS: each row of YtbogiigdadljpaaDoorRows.lean that lists a variable, with what it lists TIED to the program's text (the seventh form; the later family's looks); each row that meets fmt, with fmt's text TOLD by the authors' own Lean function (tested against real Go, not proved from fmt's source: count such statements apart). THE CARD IS WHAT COUNTS. Prove the row's statement (the work); the ties are given (YtbogiigdadljpaaDoorTie.lean); close each card by the builder's one call (the guide's Derived/Test/ToyasCard.lean, 'card_holds'). Laid BY PROGRAM, IN A SANDBOX (cutbox-door.mjs). By AI agents, Wed Nov 11 2026. No macro, syntax, notation, axiom, sorry.
-/
import Derived.Test.YtbogiigdadljpaaDoorRows
import GoSem.ClaimSeven
namespace Go.Proofs.YtbogiigdadljpaaDoor
namespace Rows

/-- THE TIED CARD OF 'synthesislaw06.PositionMatches'. -/
def positionMatchesCard : Claim7 := { stood := { row := positionMatchesRow, standIns := [], harness := (true, "db4e4deb8e556913084a123748c724a44d213bd7e113b1b9b669380a10417403"), looks := false }, kinds := [], alts := [], laidByText := true, laidKinds := [.wider], laidTests := true, laidLooks := .later }
def PositionMatchesCardSaid : Prop := Claim7.holds Tryd.pinned (.plain (OpenSpec.ofChange positionMatchesSpec)) positionMatchesCard

/-- THE TIED CARD OF 'synthesislaw06.PositionPicks'. -/
def positionPicksCard : Claim7 := { stood := { row := positionPicksRow, standIns := [], harness := (true, "db4e4deb8e556913084a123748c724a44d213bd7e113b1b9b669380a10417403"), looks := false }, kinds := [], alts := [], laidByText := true, laidKinds := [.wider], laidTests := true, laidLooks := .later }
def PositionPicksCardSaid : Prop := Claim7.holds Tryd.pinned (.plain (OpenSpec.ofChange positionPicksSpec)) positionPicksCard

/-- THE TIED CARD OF 'synthesislaw06.PositionErases'. -/
def positionErasesCard : Claim7 := { stood := { row := positionErasesRow, standIns := [], harness := (true, "db4e4deb8e556913084a123748c724a44d213bd7e113b1b9b669380a10417403"), looks := false }, kinds := [], alts := [], laidByText := true, laidKinds := [.wider], laidTests := true, laidLooks := .later }
def PositionErasesCardSaid : Prop := Claim7.holds Tryd.pinned (.plain (OpenSpec.ofChange positionErasesSpec)) positionErasesCard

/-- THE TIED CARD OF 'synthesislaw06.PositionLeftmost'. -/
def positionLeftmostCard : Claim7 := { stood := { row := positionLeftmostRow, standIns := [], harness := (true, "db4e4deb8e556913084a123748c724a44d213bd7e113b1b9b669380a10417403"), looks := false }, kinds := [], alts := [], laidByText := true, laidKinds := [.wider], laidTests := true, laidLooks := .later }
def PositionLeftmostCardSaid : Prop := Claim7.holds Tryd.pinned (.plain (OpenSpec.ofChange positionLeftmostSpec)) positionLeftmostCard

/-- THE TIED CARD OF 'synthesislaw06.PositionNumbers'. -/
def positionNumbersCard : Claim7 := { stood := { row := positionNumbersRow, standIns := [], harness := (true, "db4e4deb8e556913084a123748c724a44d213bd7e113b1b9b669380a10417403"), looks := false }, kinds := [], alts := [], laidByText := true, laidKinds := [.wider], laidTests := true, laidLooks := .later }
def PositionNumbersCardSaid : Prop := Claim7.holds Tryd.pinned (.plain (OpenSpec.ofChange positionNumbersSpec)) positionNumbersCard

/-- THE TIED CARD OF 'synthesislaw06.PositionParts'. -/
def positionPartsCard : Claim7 := { stood := { row := positionPartsRow, standIns := [], harness := (true, "db4e4deb8e556913084a123748c724a44d213bd7e113b1b9b669380a10417403"), looks := false }, kinds := [], alts := [], laidByText := true, laidKinds := [.wider], laidTests := true, laidLooks := .later }
def PositionPartsCardSaid : Prop := Claim7.holds Tryd.pinned (.plain (OpenSpec.ofChange positionPartsSpec)) positionPartsCard

/-- THE SECOND FORM's CARD OF 'synthesislaw06.PositionMatches'. -/
def positionMatchesUptoCard : Claim7 := { stood := { row := positionMatchesUptoRow, standIns := [], harness := (true, "db4e4deb8e556913084a123748c724a44d213bd7e113b1b9b669380a10417403"), looks := false }, kinds := [], alts := [], laidByText := true, laidKinds := [.wider], laidTests := true, laidLooks := .later }
def PositionMatchesUptoCardSaid : Prop := Claim7.holds Tryd.pinned (.plain (OpenSpec.upto positionMatchesSpec)) positionMatchesUptoCard

/-- THE SECOND FORM's CARD OF 'synthesislaw06.PositionPicks'. -/
def positionPicksUptoCard : Claim7 := { stood := { row := positionPicksUptoRow, standIns := [], harness := (true, "db4e4deb8e556913084a123748c724a44d213bd7e113b1b9b669380a10417403"), looks := false }, kinds := [], alts := [], laidByText := true, laidKinds := [.wider], laidTests := true, laidLooks := .later }
def PositionPicksUptoCardSaid : Prop := Claim7.holds Tryd.pinned (.plain (OpenSpec.upto positionPicksSpec)) positionPicksUptoCard

/-- THE SECOND FORM's CARD OF 'synthesislaw06.PositionErases'. -/
def positionErasesUptoCard : Claim7 := { stood := { row := positionErasesUptoRow, standIns := [], harness := (true, "db4e4deb8e556913084a123748c724a44d213bd7e113b1b9b669380a10417403"), looks := false }, kinds := [], alts := [], laidByText := true, laidKinds := [.wider], laidTests := true, laidLooks := .later }
def PositionErasesUptoCardSaid : Prop := Claim7.holds Tryd.pinned (.plain (OpenSpec.upto positionErasesSpec)) positionErasesUptoCard

/-- THE SECOND FORM's CARD OF 'synthesislaw06.PositionLeftmost'. -/
def positionLeftmostUptoCard : Claim7 := { stood := { row := positionLeftmostUptoRow, standIns := [], harness := (true, "db4e4deb8e556913084a123748c724a44d213bd7e113b1b9b669380a10417403"), looks := false }, kinds := [], alts := [], laidByText := true, laidKinds := [.wider], laidTests := true, laidLooks := .later }
def PositionLeftmostUptoCardSaid : Prop := Claim7.holds Tryd.pinned (.plain (OpenSpec.upto positionLeftmostSpec)) positionLeftmostUptoCard

/-- THE SECOND FORM's CARD OF 'synthesislaw06.PositionNumbers'. -/
def positionNumbersUptoCard : Claim7 := { stood := { row := positionNumbersUptoRow, standIns := [], harness := (true, "db4e4deb8e556913084a123748c724a44d213bd7e113b1b9b669380a10417403"), looks := false }, kinds := [], alts := [], laidByText := true, laidKinds := [.wider], laidTests := true, laidLooks := .later }
def PositionNumbersUptoCardSaid : Prop := Claim7.holds Tryd.pinned (.plain (OpenSpec.upto positionNumbersSpec)) positionNumbersUptoCard

/-- THE SECOND FORM's CARD OF 'synthesislaw06.PositionParts'. -/
def positionPartsUptoCard : Claim7 := { stood := { row := positionPartsUptoRow, standIns := [], harness := (true, "db4e4deb8e556913084a123748c724a44d213bd7e113b1b9b669380a10417403"), looks := false }, kinds := [], alts := [], laidByText := true, laidKinds := [.wider], laidTests := true, laidLooks := .later }
def PositionPartsUptoCardSaid : Prop := Claim7.holds Tryd.pinned (.plain (OpenSpec.upto positionPartsSpec)) positionPartsUptoCard
end Rows
end Go.Proofs.YtbogiigdadljpaaDoor
