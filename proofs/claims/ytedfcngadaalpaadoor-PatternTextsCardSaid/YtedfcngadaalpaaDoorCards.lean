/-
  DERIVED. GIVEN WITH THE SEED: THE CARDS: each row of YtedfcngadaalpaaDoorRows.lean that lists a variable, with what it lists TIED to the program's text (the seventh form; the later family's looks); each row that meets fmt, with fmt's text TOLD by the authors' own Lean function (tested against real Go, not proved from fmt's source: count such statements apart). THE CARD IS WHAT COUNTS. Prove the row's statement (the work); the ties are given (YtedfcngadaalpaaDoorTie.lean); close each card by the builder's one call (the guide's Derived/Test/ToyasCard.lean, 'card_holds'). Laid BY PROGRAM, IN A SANDBOX (cutbox-door.mjs). By AI agents, Wed Nov 11 2026. No macro, syntax, notation, axiom, sorry.
-/
import Derived.Test.YtedfcngadaalpaaDoorRows
import GoSem.ClaimSeven
namespace Go.Proofs.YtedfcngadaalpaaDoor
namespace Rows

/-- THE TIED CARD OF 'synthesislaw05.PatternSame'. -/
def patternSameCard : Claim7 := { stood := { row := patternSameRow, standIns := [], harness := (true, "0b2a02546ef02d9ac0e1593d6da3c5430cc1bde3ecba7cb9af82a5cc0da57d96"), looks := false }, kinds := [], alts := [], laidByText := true, laidKinds := [.wider], laidTests := true, laidLooks := .later }
def PatternSameCardSaid : Prop := Claim7.holds Tryd.pinned (.plain (OpenSpec.ofChange patternSameSpec)) patternSameCard

/-- THE TIED CARD OF 'synthesislaw05.PatternWords'. -/
def patternWordsCard : Claim7 := { stood := { row := patternWordsRow, standIns := [], harness := (true, "0b2a02546ef02d9ac0e1593d6da3c5430cc1bde3ecba7cb9af82a5cc0da57d96"), looks := false }, kinds := [], alts := [], laidByText := true, laidKinds := [.wider], laidTests := true, laidLooks := .later }
def PatternWordsCardSaid : Prop := Claim7.holds Tryd.pinned (.plain (OpenSpec.ofChange patternWordsSpec)) patternWordsCard

/-- THE TIED CARD OF 'synthesislaw05.PatternLimits'. -/
def patternLimitsCard : Claim7 := { stood := { row := patternLimitsRow, standIns := [], harness := (true, "0b2a02546ef02d9ac0e1593d6da3c5430cc1bde3ecba7cb9af82a5cc0da57d96"), looks := false }, kinds := [], alts := [], laidByText := true, laidKinds := [.wider], laidTests := true, laidLooks := .later }
def PatternLimitsCardSaid : Prop := Claim7.holds Tryd.pinned (.plain (OpenSpec.ofChange patternLimitsSpec)) patternLimitsCard

/-- THE TIED CARD OF 'synthesislaw05.PatternTexts'. -/
def patternTextsCard : Claim7 := { stood := { row := patternTextsRow, standIns := [], harness := (true, "0b2a02546ef02d9ac0e1593d6da3c5430cc1bde3ecba7cb9af82a5cc0da57d96"), looks := false }, kinds := [], alts := [], laidByText := true, laidKinds := [.wider], laidTests := true, laidLooks := .later }
def PatternTextsCardSaid : Prop := Claim7.holds Tryd.pinned (.plain (OpenSpec.ofChange patternTextsSpec)) patternTextsCard

/-- THE SECOND FORM's CARD OF 'synthesislaw05.PatternSame'. -/
def patternSameUptoCard : Claim7 := { stood := { row := patternSameUptoRow, standIns := [], harness := (true, "0b2a02546ef02d9ac0e1593d6da3c5430cc1bde3ecba7cb9af82a5cc0da57d96"), looks := false }, kinds := [], alts := [], laidByText := true, laidKinds := [.wider], laidTests := true, laidLooks := .later }
def PatternSameUptoCardSaid : Prop := Claim7.holds Tryd.pinned (.plain (OpenSpec.upto patternSameSpec)) patternSameUptoCard

/-- THE SECOND FORM's CARD OF 'synthesislaw05.PatternWords'. -/
def patternWordsUptoCard : Claim7 := { stood := { row := patternWordsUptoRow, standIns := [], harness := (true, "0b2a02546ef02d9ac0e1593d6da3c5430cc1bde3ecba7cb9af82a5cc0da57d96"), looks := false }, kinds := [], alts := [], laidByText := true, laidKinds := [.wider], laidTests := true, laidLooks := .later }
def PatternWordsUptoCardSaid : Prop := Claim7.holds Tryd.pinned (.plain (OpenSpec.upto patternWordsSpec)) patternWordsUptoCard

/-- THE SECOND FORM's CARD OF 'synthesislaw05.PatternLimits'. -/
def patternLimitsUptoCard : Claim7 := { stood := { row := patternLimitsUptoRow, standIns := [], harness := (true, "0b2a02546ef02d9ac0e1593d6da3c5430cc1bde3ecba7cb9af82a5cc0da57d96"), looks := false }, kinds := [], alts := [], laidByText := true, laidKinds := [.wider], laidTests := true, laidLooks := .later }
def PatternLimitsUptoCardSaid : Prop := Claim7.holds Tryd.pinned (.plain (OpenSpec.upto patternLimitsSpec)) patternLimitsUptoCard

/-- THE SECOND FORM's CARD OF 'synthesislaw05.PatternTexts'. -/
def patternTextsUptoCard : Claim7 := { stood := { row := patternTextsUptoRow, standIns := [], harness := (true, "0b2a02546ef02d9ac0e1593d6da3c5430cc1bde3ecba7cb9af82a5cc0da57d96"), looks := false }, kinds := [], alts := [], laidByText := true, laidKinds := [.wider], laidTests := true, laidLooks := .later }
def PatternTextsUptoCardSaid : Prop := Claim7.holds Tryd.pinned (.plain (OpenSpec.upto patternTextsSpec)) patternTextsUptoCard
end Rows
end Go.Proofs.YtedfcngadaalpaaDoor
