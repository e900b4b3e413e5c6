/-
  DERIVED. GIVEN WITH THE SEED: THE CARDS: each row of YtaipaddfehpmgaaDoorRows.lean that lists a variable, with what it lists TIED to the program's text (the seventh form; the later family's looks); each row that meets fmt, with fmt's text TOLD by the authors' own Lean function (tested against real Go, not proved from fmt's source: count such statements apart). THE CARD IS WHAT COUNTS. Prove the row's statement (the work); the ties are given (YtaipaddfehpmgaaDoorTie.lean); close each card by the builder's one call (the guide's Derived/Test/ToyasCard.lean, 'card_holds'). Laid BY PROGRAM, IN A SANDBOX (cutbox-door.mjs). By AI agents, Wed Nov 11 2026. No macro, syntax, notation, axiom, sorry.
-/
import Derived.Test.YtaipaddfehpmgaaDoorRows
import GoSem.ClaimSeven
namespace Go.Proofs.YtaipaddfehpmgaaDoor
namespace Rows

/-- THE TIED CARD OF 'synthesislaw05.PatternSame'. -/
def patternSameCard : Claim7 := { stood := { row := patternSameRow, standIns := [], harness := (true, "9e5fd0075736211e9405fe4a87c6f175b0ef3d4f3a7b1b09576717abc1ed64cf"), looks := false }, kinds := [], alts := [], laidByText := true, laidKinds := [.wider], laidTests := true, laidLooks := .later }
def PatternSameCardSaid : Prop := Claim7.holds Tryd.pinned (.plain (OpenSpec.ofChange patternSameSpec)) patternSameCard

/-- THE TIED CARD OF 'synthesislaw05.PatternWords'. -/
def patternWordsCard : Claim7 := { stood := { row := patternWordsRow, standIns := [], harness := (true, "9e5fd0075736211e9405fe4a87c6f175b0ef3d4f3a7b1b09576717abc1ed64cf"), looks := false }, kinds := [], alts := [], laidByText := true, laidKinds := [.wider], laidTests := true, laidLooks := .later }
def PatternWordsCardSaid : Prop := Claim7.holds Tryd.pinned (.plain (OpenSpec.ofChange patternWordsSpec)) patternWordsCard

/-- THE SECOND FORM's CARD OF 'synthesislaw05.PatternSame'. -/
def patternSameUptoCard : Claim7 := { stood := { row := patternSameUptoRow, standIns := [], harness := (true, "9e5fd0075736211e9405fe4a87c6f175b0ef3d4f3a7b1b09576717abc1ed64cf"), looks := false }, kinds := [], alts := [], laidByText := true, laidKinds := [.wider], laidTests := true, laidLooks := .later }
def PatternSameUptoCardSaid : Prop := Claim7.holds Tryd.pinned (.plain (OpenSpec.upto patternSameSpec)) patternSameUptoCard

/-- THE SECOND FORM's CARD OF 'synthesislaw05.PatternWords'. -/
def patternWordsUptoCard : Claim7 := { stood := { row := patternWordsUptoRow, standIns := [], harness := (true, "9e5fd0075736211e9405fe4a87c6f175b0ef3d4f3a7b1b09576717abc1ed64cf"), looks := false }, kinds := [], alts := [], laidByText := true, laidKinds := [.wider], laidTests := true, laidLooks := .later }
def PatternWordsUptoCardSaid : Prop := Claim7.holds Tryd.pinned (.plain (OpenSpec.upto patternWordsSpec)) patternWordsUptoCard
end Rows
end Go.Proofs.YtaipaddfehpmgaaDoor
