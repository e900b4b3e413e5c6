/-
  DERIVED. GIVEN WITH THE SEED: THE CARDS: each row of YtlpmaeemegphiaaDoorRows.lean that lists a variable, with what it lists TIED to the program's text (the seventh form; the later family's looks); each row that meets fmt, with fmt's text TOLD by the authors' own Lean function (tested against real Go, not proved from fmt's source: count such statements apart). THE CARD IS WHAT COUNTS. Prove the row's statement (the work); the ties are given (YtlpmaeemegphiaaDoorTie.lean); close each card by the builder's one call (the guide's Derived/Test/ToyasCard.lean, 'card_holds'). Laid BY PROGRAM, IN A SANDBOX (cutbox-door.mjs). By AI agents, Wed Nov 11 2026. No macro, syntax, notation, axiom, sorry.
-/
import Derived.Test.YtlpmaeemegphiaaDoorRows
import GoSem.ClaimSeven
namespace Go.Proofs.YtlpmaeemegphiaaDoor
namespace Rows

/-- THE TIED CARD OF 'synthesislaw04.StrsSlices'. -/
def strsSlicesCard : Claim7 := { stood := { row := strsSlicesRow, standIns := [], harness := (true, "8708e142b79ea77e29d189f65ba613900be2a08691071864ba0729db6fcb94df"), looks := false }, kinds := [], alts := [], laidByText := true, laidKinds := [.data, .data, .data], laidTests := true, laidLooks := .later }
def StrsSlicesCardSaid : Prop := Claim7.holds Tryd.pinned (.plain (OpenSpec.ofChange strsSlicesSpec)) strsSlicesCard

/-- THE TIED CARD OF 'synthesislaw04.StrsWords'. -/
def strsWordsCard : Claim7 := { stood := { row := strsWordsRow, standIns := [], harness := (true, "8708e142b79ea77e29d189f65ba613900be2a08691071864ba0729db6fcb94df"), looks := false }, kinds := [], alts := [], laidByText := true, laidKinds := [.data, .data, .data], laidTests := true, laidLooks := .later }
def StrsWordsCardSaid : Prop := Claim7.holds Tryd.pinned (.plain (OpenSpec.ofChange strsWordsSpec)) strsWordsCard

/-- THE TIED CARD OF 'synthesislaw04.StrsCases'. -/
def strsCasesCard : Claim7 := { stood := { row := strsCasesRow, standIns := [], harness := (true, "8708e142b79ea77e29d189f65ba613900be2a08691071864ba0729db6fcb94df"), looks := false }, kinds := [], alts := [], laidByText := true, laidKinds := [.data, .data, .data, .data, .pinned], laidTests := true, laidLooks := .later }
def StrsCasesCardSaid : Prop := Claim7.holds Tryd.pinned (.plain (OpenSpec.ofChange strsCasesSpec)) strsCasesCard

/-- THE TIED CARD OF 'synthesislaw04.StrsFinds'. -/
def strsFindsCard : Claim7 := { stood := { row := strsFindsRow, standIns := [], harness := (true, "8708e142b79ea77e29d189f65ba613900be2a08691071864ba0729db6fcb94df"), looks := false }, kinds := [], alts := [], laidByText := true, laidKinds := [.data, .data, .data], laidTests := true, laidLooks := .later }
def StrsFindsCardSaid : Prop := Claim7.holds Tryd.pinned (.plain (OpenSpec.ofChange strsFindsSpec)) strsFindsCard

/-- THE TIED CARD OF 'synthesislaw04.StrsRepeats'. -/
def strsRepeatsCard : Claim7 := { stood := { row := strsRepeatsRow, standIns := [], harness := (true, "8708e142b79ea77e29d189f65ba613900be2a08691071864ba0729db6fcb94df"), looks := false }, kinds := [], alts := [], laidByText := true, laidKinds := [.data, .data, .data], laidTests := true, laidLooks := .later }
def StrsRepeatsCardSaid : Prop := Claim7.holds Tryd.pinned (.plain (OpenSpec.ofChange strsRepeatsSpec)) strsRepeatsCard

/-- THE TIED CARD OF 'synthesislaw04.StrsShows'. -/
def strsShowsCard : Claim7 := { stood := { row := strsShowsRow, standIns := [], harness := (true, "8708e142b79ea77e29d189f65ba613900be2a08691071864ba0729db6fcb94df"), looks := false }, kinds := [], alts := [], laidByText := true, laidKinds := [.data, .data, .data], laidTests := true, laidLooks := .later }
def StrsShowsCardSaid : Prop := Claim7.holds Tryd.pinned (.plain (OpenSpec.ofChange strsShowsSpec)) strsShowsCard

/-- THE TIED CARD OF 'synthesislaw04.StrsReads'. -/
def strsReadsCard : Claim7 := { stood := { row := strsReadsRow, standIns := [], harness := (true, "8708e142b79ea77e29d189f65ba613900be2a08691071864ba0729db6fcb94df"), looks := false }, kinds := [], alts := [], laidByText := true, laidKinds := [.data, .data, .data], laidTests := true, laidLooks := .later }
def StrsReadsCardSaid : Prop := Claim7.holds Tryd.pinned (.plain (OpenSpec.ofChange strsReadsSpec)) strsReadsCard

/-- THE TIED CARD OF 'synthesislaw04.StrsSplits'. -/
def strsSplitsCard : Claim7 := { stood := { row := strsSplitsRow, standIns := [], harness := (true, "8708e142b79ea77e29d189f65ba613900be2a08691071864ba0729db6fcb94df"), looks := false }, kinds := [], alts := [], laidByText := true, laidKinds := [.data, .data, .data], laidTests := true, laidLooks := .later }
def StrsSplitsCardSaid : Prop := Claim7.holds Tryd.pinned (.plain (OpenSpec.ofChange strsSplitsSpec)) strsSplitsCard

/-- THE TIED CARD OF 'synthesislaw04.StrsKeeps'. -/
def strsKeepsCard : Claim7 := { stood := { row := strsKeepsRow, standIns := [], harness := (true, "8708e142b79ea77e29d189f65ba613900be2a08691071864ba0729db6fcb94df"), looks := false }, kinds := [], alts := [], laidByText := true, laidKinds := [.data, .data, .data], laidTests := true, laidLooks := .later }
def StrsKeepsCardSaid : Prop := Claim7.holds Tryd.pinned (.plain (OpenSpec.ofChange strsKeepsSpec)) strsKeepsCard

/-- THE SECOND FORM's CARD OF 'synthesislaw04.StrsSlices'. -/
def strsSlicesUptoCard : Claim7 := { stood := { row := strsSlicesUptoRow, standIns := [], harness := (true, "8708e142b79ea77e29d189f65ba613900be2a08691071864ba0729db6fcb94df"), looks := false }, kinds := [], alts := [], laidByText := true, laidKinds := [.data, .data, .data], laidTests := true, laidLooks := .later }
def StrsSlicesUptoCardSaid : Prop := Claim7.holds Tryd.pinned (.plain (OpenSpec.upto strsSlicesSpec)) strsSlicesUptoCard

/-- THE SECOND FORM's CARD OF 'synthesislaw04.StrsWords'. -/
def strsWordsUptoCard : Claim7 := { stood := { row := strsWordsUptoRow, standIns := [], harness := (true, "8708e142b79ea77e29d189f65ba613900be2a08691071864ba0729db6fcb94df"), looks := false }, kinds := [], alts := [], laidByText := true, laidKinds := [.data, .data, .data], laidTests := true, laidLooks := .later }
def StrsWordsUptoCardSaid : Prop := Claim7.holds Tryd.pinned (.plain (OpenSpec.upto strsWordsSpec)) strsWordsUptoCard

/-- THE SECOND FORM's CARD OF 'synthesislaw04.StrsCases'. -/
def strsCasesUptoCard : Claim7 := { stood := { row := strsCasesUptoRow, standIns := [], harness := (true, "8708e142b79ea77e29d189f65ba613900be2a08691071864ba0729db6fcb94df"), looks := false }, kinds := [], alts := [], laidByText := true, laidKinds := [.data, .data, .data, .data, .pinned], laidTests := true, laidLooks := .later }
def StrsCasesUptoCardSaid : Prop := Claim7.holds Tryd.pinned (.plain (OpenSpec.upto strsCasesSpec)) strsCasesUptoCard

/-- THE SECOND FORM's CARD OF 'synthesislaw04.StrsFinds'. -/
def strsFindsUptoCard : Claim7 := { stood := { row := strsFindsUptoRow, standIns := [], harness := (true, "8708e142b79ea77e29d189f65ba613900be2a08691071864ba0729db6fcb94df"), looks := false }, kinds := [], alts := [], laidByText := true, laidKinds := [.data, .data, .data], laidTests := true, laidLooks := .later }
def StrsFindsUptoCardSaid : Prop := Claim7.holds Tryd.pinned (.plain (OpenSpec.upto strsFindsSpec)) strsFindsUptoCard

/-- THE SECOND FORM's CARD OF 'synthesislaw04.StrsRepeats'. -/
def strsRepeatsUptoCard : Claim7 := { stood := { row := strsRepeatsUptoRow, standIns := [], harness := (true, "8708e142b79ea77e29d189f65ba613900be2a08691071864ba0729db6fcb94df"), looks := false }, kinds := [], alts := [], laidByText := true, laidKinds := [.data, .data, .data], laidTests := true, laidLooks := .later }
def StrsRepeatsUptoCardSaid : Prop := Claim7.holds Tryd.pinned (.plain (OpenSpec.upto strsRepeatsSpec)) strsRepeatsUptoCard

/-- THE SECOND FORM's CARD OF 'synthesislaw04.StrsShows'. -/
def strsShowsUptoCard : Claim7 := { stood := { row := strsShowsUptoRow, standIns := [], harness := (true, "8708e142b79ea77e29d189f65ba613900be2a08691071864ba0729db6fcb94df"), looks := false }, kinds := [], alts := [], laidByText := true, laidKinds := [.data, .data, .data], laidTests := true, laidLooks := .later }
def StrsShowsUptoCardSaid : Prop := Claim7.holds Tryd.pinned (.plain (OpenSpec.upto strsShowsSpec)) strsShowsUptoCard

/-- THE SECOND FORM's CARD OF 'synthesislaw04.StrsReads'. -/
def strsReadsUptoCard : Claim7 := { stood := { row := strsReadsUptoRow, standIns := [], harness := (true, "8708e142b79ea77e29d189f65ba613900be2a08691071864ba0729db6fcb94df"), looks := false }, kinds := [], alts := [], laidByText := true, laidKinds := [.data, .data, .data], laidTests := true, laidLooks := .later }
def StrsReadsUptoCardSaid : Prop := Claim7.holds Tryd.pinned (.plain (OpenSpec.upto strsReadsSpec)) strsReadsUptoCard

/-- THE SECOND FORM's CARD OF 'synthesislaw04.StrsSplits'. -/
def strsSplitsUptoCard : Claim7 := { stood := { row := strsSplitsUptoRow, standIns := [], harness := (true, "8708e142b79ea77e29d189f65ba613900be2a08691071864ba0729db6fcb94df"), looks := false }, kinds := [], alts := [], laidByText := true, laidKinds := [.data, .data, .data], laidTests := true, laidLooks := .later }
def StrsSplitsUptoCardSaid : Prop := Claim7.holds Tryd.pinned (.plain (OpenSpec.upto strsSplitsSpec)) strsSplitsUptoCard

/-- THE SECOND FORM's CARD OF 'synthesislaw04.StrsKeeps'. -/
def strsKeepsUptoCard : Claim7 := { stood := { row := strsKeepsUptoRow, standIns := [], harness := (true, "8708e142b79ea77e29d189f65ba613900be2a08691071864ba0729db6fcb94df"), looks := false }, kinds := [], alts := [], laidByText := true, laidKinds := [.data, .data, .data], laidTests := true, laidLooks := .later }
def StrsKeepsUptoCardSaid : Prop := Claim7.holds Tryd.pinned (.plain (OpenSpec.upto strsKeepsSpec)) strsKeepsUptoCard
end Rows
end Go.Proofs.YtlpmaeemegphiaaDoor
