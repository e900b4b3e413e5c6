/-
  DERIVED. GIVEN WITH THE SEED: THE CARDS: each row of YtlonddlemlkhoaaDoorRows.lean that lists a variable, with what it lists TIED to the program's text (the seventh form; the later family's looks); each row that meets fmt, with fmt's text TOLD by the authors' own Lean function (tested against real Go, not proved from fmt's source: count such statements apart). THE CARD IS WHAT COUNTS. Prove the row's statement (the work); the ties are given (YtlonddlemlkhoaaDoorTie.lean); close each card by the builder's one call (the guide's Derived/Test/ToyasCard.lean, 'card_holds'). Laid BY PROGRAM, IN A SANDBOX (cutbox-door.mjs). By AI agents, Wed Nov 11 2026. No macro, syntax, notation, axiom, sorry.
-/
import Derived.Test.YtlonddlemlkhoaaDoorRows
import GoSem.ClaimSeven
namespace Go.Proofs.YtlonddlemlkhoaaDoor
namespace Rows

/-- THE TIED CARD OF 'synthesislaw05.PatternParses'. -/
def patternParsesCard : Claim7 := { stood := { row := patternParsesRow, standIns := [], harness := (true, "00ccf9ccd227006cdc90e010de4c4344ee756705a4e94a14c44b5d5a851f2beb"), looks := false }, kinds := [], alts := [], laidByText := true, laidKinds := [.wider], laidTests := true, laidLooks := .later }
def PatternParsesCardSaid : Prop := Claim7.holds Tryd.pinned (.plain (OpenSpec.ofChange patternParsesSpec)) patternParsesCard

/-- THE TIED CARD OF 'synthesislaw05.PatternMatches'. -/
def patternMatchesCard : Claim7 := { stood := { row := patternMatchesRow, standIns := [], harness := (true, "00ccf9ccd227006cdc90e010de4c4344ee756705a4e94a14c44b5d5a851f2beb"), looks := false }, kinds := [], alts := [], laidByText := true, laidKinds := [.wider], laidTests := true, laidLooks := .later }
def PatternMatchesCardSaid : Prop := Claim7.holds Tryd.pinned (.plain (OpenSpec.ofChange patternMatchesSpec)) patternMatchesCard

/-- THE TIED CARD OF 'synthesislaw05.PatternCombines'. -/
def patternCombinesCard : Claim7 := { stood := { row := patternCombinesRow, standIns := [], harness := (true, "00ccf9ccd227006cdc90e010de4c4344ee756705a4e94a14c44b5d5a851f2beb"), looks := false }, kinds := [], alts := [], laidByText := true, laidKinds := [.wider], laidTests := true, laidLooks := .later }
def PatternCombinesCardSaid : Prop := Claim7.holds Tryd.pinned (.plain (OpenSpec.ofChange patternCombinesSpec)) patternCombinesCard

/-- THE TIED CARD OF 'synthesislaw05.PatternWays'. -/
def patternWaysCard : Claim7 := { stood := { row := patternWaysRow, standIns := [], harness := (true, "00ccf9ccd227006cdc90e010de4c4344ee756705a4e94a14c44b5d5a851f2beb"), looks := false }, kinds := [], alts := [], laidByText := true, laidKinds := [.wider], laidTests := true, laidLooks := .later }
def PatternWaysCardSaid : Prop := Claim7.holds Tryd.pinned (.plain (OpenSpec.ofChange patternWaysSpec)) patternWaysCard

/-- THE TIED CARD OF 'synthesislaw05.PatternLiterals'. -/
def patternLiteralsCard : Claim7 := { stood := { row := patternLiteralsRow, standIns := [], harness := (true, "00ccf9ccd227006cdc90e010de4c4344ee756705a4e94a14c44b5d5a851f2beb"), looks := false }, kinds := [], alts := [], laidByText := true, laidKinds := [.wider], laidTests := true, laidLooks := .later }
def PatternLiteralsCardSaid : Prop := Claim7.holds Tryd.pinned (.plain (OpenSpec.ofChange patternLiteralsSpec)) patternLiteralsCard

/-- THE SECOND FORM's CARD OF 'synthesislaw05.PatternParses'. -/
def patternParsesUptoCard : Claim7 := { stood := { row := patternParsesUptoRow, standIns := [], harness := (true, "00ccf9ccd227006cdc90e010de4c4344ee756705a4e94a14c44b5d5a851f2beb"), looks := false }, kinds := [], alts := [], laidByText := true, laidKinds := [.wider], laidTests := true, laidLooks := .later }
def PatternParsesUptoCardSaid : Prop := Claim7.holds Tryd.pinned (.plain (OpenSpec.upto patternParsesSpec)) patternParsesUptoCard

/-- THE SECOND FORM's CARD OF 'synthesislaw05.PatternMatches'. -/
def patternMatchesUptoCard : Claim7 := { stood := { row := patternMatchesUptoRow, standIns := [], harness := (true, "00ccf9ccd227006cdc90e010de4c4344ee756705a4e94a14c44b5d5a851f2beb"), looks := false }, kinds := [], alts := [], laidByText := true, laidKinds := [.wider], laidTests := true, laidLooks := .later }
def PatternMatchesUptoCardSaid : Prop := Claim7.holds Tryd.pinned (.plain (OpenSpec.upto patternMatchesSpec)) patternMatchesUptoCard

/-- THE SECOND FORM's CARD OF 'synthesislaw05.PatternCombines'. -/
def patternCombinesUptoCard : Claim7 := { stood := { row := patternCombinesUptoRow, standIns := [], harness := (true, "00ccf9ccd227006cdc90e010de4c4344ee756705a4e94a14c44b5d5a851f2beb"), looks := false }, kinds := [], alts := [], laidByText := true, laidKinds := [.wider], laidTests := true, laidLooks := .later }
def PatternCombinesUptoCardSaid : Prop := Claim7.holds Tryd.pinned (.plain (OpenSpec.upto patternCombinesSpec)) patternCombinesUptoCard

/-- THE SECOND FORM's CARD OF 'synthesislaw05.PatternWays'. -/
def patternWaysUptoCard : Claim7 := { stood := { row := patternWaysUptoRow, standIns := [], harness := (true, "00ccf9ccd227006cdc90e010de4c4344ee756705a4e94a14c44b5d5a851f2beb"), looks := false }, kinds := [], alts := [], laidByText := true, laidKinds := [.wider], laidTests := true, laidLooks := .later }
def PatternWaysUptoCardSaid : Prop := Claim7.holds Tryd.pinned (.plain (OpenSpec.upto patternWaysSpec)) patternWaysUptoCard

/-- THE SECOND FORM's CARD OF 'synthesislaw05.PatternLiterals'. -/
def patternLiteralsUptoCard : Claim7 := { stood := { row := patternLiteralsUptoRow, standIns := [], harness := (true, "00ccf9ccd227006cdc90e010de4c4344ee756705a4e94a14c44b5d5a851f2beb"), looks := false }, kinds := [], alts := [], laidByText := true, laidKinds := [.wider], laidTests := true, laidLooks := .later }
def PatternLiteralsUptoCardSaid : Prop := Claim7.holds Tryd.pinned (.plain (OpenSpec.upto patternLiteralsSpec)) patternLiteralsUptoCard
end Rows
end Go.Proofs.YtlonddlemlkhoaaDoor
