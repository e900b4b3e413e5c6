/-
  DERIVED. GIVEN WITH THE SEED: THE CARDS: each row of YthfdlaphglpnpaaDoorRows.lean that lists a variable, with what it lists TIED to the program's text (the seventh form; the later family's looks); each row that meets fmt, with fmt's text TOLD by the authors' own Lean function (tested against real Go, not proved from fmt's source: count such statements apart). THE CARD IS WHAT COUNTS. Prove the row's statement (the work); the ties are given (YthfdlaphglpnpaaDoorTie.lean); close each card by the builder's one call (the guide's Derived/Test/ToyasCard.lean, 'card_holds'). Laid BY PROGRAM, IN A SANDBOX (cutbox-door.mjs). By AI agents, Wed Nov 11 2026. No macro, syntax, notation, axiom, sorry.
-/
import Derived.Test.YthfdlaphglpnpaaDoorRows
import GoSem.ClaimSeven
namespace Go.Proofs.YthfdlaphglpnpaaDoor
namespace Rows

/-- THE TIED CARD OF 'synthesislaw19.DomainChecks'. -/
def domainChecksCard : Claim7 := { stood := { row := domainChecksRow, standIns := [], harness := (true, "a06015c3b888422b58b629f878b72a44c0ba7cf04a55c921fe712f6f6aef03c6"), looks := false }, kinds := [], alts := [], laidByText := true, laidKinds := [.data], laidTests := true, laidLooks := .later }
def DomainChecksCardSaid : Prop := Claim7.holds Tryd.pinned (.plain (OpenSpec.ofChange domainChecksSpec)) domainChecksCard

/-- THE TIED CARD OF 'synthesislaw19.DomainSizes'. -/
def domainSizesCard : Claim7 := { stood := { row := domainSizesRow, standIns := [], harness := (true, "a06015c3b888422b58b629f878b72a44c0ba7cf04a55c921fe712f6f6aef03c6"), looks := false }, kinds := [], alts := [], laidByText := true, laidKinds := [.data], laidTests := true, laidLooks := .later }
def DomainSizesCardSaid : Prop := Claim7.holds Tryd.pinned (.plain (OpenSpec.ofChange domainSizesSpec)) domainSizesCard

/-- THE TIED CARD OF 'synthesislaw19.DomainAts'. -/
def domainAtsCard : Claim7 := { stood := { row := domainAtsRow, standIns := [], harness := (true, "a06015c3b888422b58b629f878b72a44c0ba7cf04a55c921fe712f6f6aef03c6"), looks := false }, kinds := [], alts := [], laidByText := true, laidKinds := [.data], laidTests := true, laidLooks := .later }
def DomainAtsCardSaid : Prop := Claim7.holds Tryd.pinned (.plain (OpenSpec.ofChange domainAtsSpec)) domainAtsCard

/-- THE TIED CARD OF 'synthesislaw19.DomainIndexes'. -/
def domainIndexesCard : Claim7 := { stood := { row := domainIndexesRow, standIns := [], harness := (true, "a06015c3b888422b58b629f878b72a44c0ba7cf04a55c921fe712f6f6aef03c6"), looks := false }, kinds := [], alts := [], laidByText := true, laidKinds := [.data], laidTests := true, laidLooks := .later }
def DomainIndexesCardSaid : Prop := Claim7.holds Tryd.pinned (.plain (OpenSpec.ofChange domainIndexesSpec)) domainIndexesCard

/-- THE TIED CARD OF 'synthesislaw19.DomainSmalls'. -/
def domainSmallsCard : Claim7 := { stood := { row := domainSmallsRow, standIns := [], harness := (true, "a06015c3b888422b58b629f878b72a44c0ba7cf04a55c921fe712f6f6aef03c6"), looks := false }, kinds := [], alts := [], laidByText := true, laidKinds := [.data], laidTests := true, laidLooks := .later }
def DomainSmallsCardSaid : Prop := Claim7.holds Tryd.pinned (.plain (OpenSpec.ofChange domainSmallsSpec)) domainSmallsCard

/-- THE TIED CARD OF 'synthesislaw19.DomainRestricts'. -/
def domainRestrictsCard : Claim7 := { stood := { row := domainRestrictsRow, standIns := [], harness := (true, "a06015c3b888422b58b629f878b72a44c0ba7cf04a55c921fe712f6f6aef03c6"), looks := false }, kinds := [], alts := [], laidByText := true, laidKinds := [.data], laidTests := true, laidLooks := .later }
def DomainRestrictsCardSaid : Prop := Claim7.holds Tryd.pinned (.plain (OpenSpec.ofChange domainRestrictsSpec)) domainRestrictsCard

/-- THE TIED CARD OF 'synthesislaw19.DomainReturns'. -/
def domainReturnsCard : Claim7 := { stood := { row := domainReturnsRow, standIns := [], harness := (true, "a06015c3b888422b58b629f878b72a44c0ba7cf04a55c921fe712f6f6aef03c6"), looks := false }, kinds := [], alts := [], laidByText := true, laidKinds := [.data], laidTests := true, laidLooks := .later }
def DomainReturnsCardSaid : Prop := Claim7.holds Tryd.pinned (.plain (OpenSpec.ofChange domainReturnsSpec)) domainReturnsCard

/-- THE TIED CARD OF 'synthesislaw19.DomainSteps'. -/
def domainStepsCard : Claim7 := { stood := { row := domainStepsRow, standIns := [], harness := (true, "a06015c3b888422b58b629f878b72a44c0ba7cf04a55c921fe712f6f6aef03c6"), looks := false }, kinds := [], alts := [], laidByText := true, laidKinds := [.data], laidTests := true, laidLooks := .later }
def DomainStepsCardSaid : Prop := Claim7.holds Tryd.pinned (.plain (OpenSpec.ofChange domainStepsSpec)) domainStepsCard

/-- THE SECOND FORM's CARD OF 'synthesislaw19.DomainChecks'. -/
def domainChecksUptoCard : Claim7 := { stood := { row := domainChecksUptoRow, standIns := [], harness := (true, "a06015c3b888422b58b629f878b72a44c0ba7cf04a55c921fe712f6f6aef03c6"), looks := false }, kinds := [], alts := [], laidByText := true, laidKinds := [.data], laidTests := true, laidLooks := .later }
def DomainChecksUptoCardSaid : Prop := Claim7.holds Tryd.pinned (.plain (OpenSpec.upto domainChecksSpec)) domainChecksUptoCard

/-- THE SECOND FORM's CARD OF 'synthesislaw19.DomainSizes'. -/
def domainSizesUptoCard : Claim7 := { stood := { row := domainSizesUptoRow, standIns := [], harness := (true, "a06015c3b888422b58b629f878b72a44c0ba7cf04a55c921fe712f6f6aef03c6"), looks := false }, kinds := [], alts := [], laidByText := true, laidKinds := [.data], laidTests := true, laidLooks := .later }
def DomainSizesUptoCardSaid : Prop := Claim7.holds Tryd.pinned (.plain (OpenSpec.upto domainSizesSpec)) domainSizesUptoCard

/-- THE SECOND FORM's CARD OF 'synthesislaw19.DomainAts'. -/
def domainAtsUptoCard : Claim7 := { stood := { row := domainAtsUptoRow, standIns := [], harness := (true, "a06015c3b888422b58b629f878b72a44c0ba7cf04a55c921fe712f6f6aef03c6"), looks := false }, kinds := [], alts := [], laidByText := true, laidKinds := [.data], laidTests := true, laidLooks := .later }
def DomainAtsUptoCardSaid : Prop := Claim7.holds Tryd.pinned (.plain (OpenSpec.upto domainAtsSpec)) domainAtsUptoCard

/-- THE SECOND FORM's CARD OF 'synthesislaw19.DomainIndexes'. -/
def domainIndexesUptoCard : Claim7 := { stood := { row := domainIndexesUptoRow, standIns := [], harness := (true, "a06015c3b888422b58b629f878b72a44c0ba7cf04a55c921fe712f6f6aef03c6"), looks := false }, kinds := [], alts := [], laidByText := true, laidKinds := [.data], laidTests := true, laidLooks := .later }
def DomainIndexesUptoCardSaid : Prop := Claim7.holds Tryd.pinned (.plain (OpenSpec.upto domainIndexesSpec)) domainIndexesUptoCard

/-- THE SECOND FORM's CARD OF 'synthesislaw19.DomainSmalls'. -/
def domainSmallsUptoCard : Claim7 := { stood := { row := domainSmallsUptoRow, standIns := [], harness := (true, "a06015c3b888422b58b629f878b72a44c0ba7cf04a55c921fe712f6f6aef03c6"), looks := false }, kinds := [], alts := [], laidByText := true, laidKinds := [.data], laidTests := true, laidLooks := .later }
def DomainSmallsUptoCardSaid : Prop := Claim7.holds Tryd.pinned (.plain (OpenSpec.upto domainSmallsSpec)) domainSmallsUptoCard

/-- THE SECOND FORM's CARD OF 'synthesislaw19.DomainRestricts'. -/
def domainRestrictsUptoCard : Claim7 := { stood := { row := domainRestrictsUptoRow, standIns := [], harness := (true, "a06015c3b888422b58b629f878b72a44c0ba7cf04a55c921fe712f6f6aef03c6"), looks := false }, kinds := [], alts := [], laidByText := true, laidKinds := [.data], laidTests := true, laidLooks := .later }
def DomainRestrictsUptoCardSaid : Prop := Claim7.holds Tryd.pinned (.plain (OpenSpec.upto domainRestrictsSpec)) domainRestrictsUptoCard

/-- THE SECOND FORM's CARD OF 'synthesislaw19.DomainReturns'. -/
def domainReturnsUptoCard : Claim7 := { stood := { row := domainReturnsUptoRow, standIns := [], harness := (true, "a06015c3b888422b58b629f878b72a44c0ba7cf04a55c921fe712f6f6aef03c6"), looks := false }, kinds := [], alts := [], laidByText := true, laidKinds := [.data], laidTests := true, laidLooks := .later }
def DomainReturnsUptoCardSaid : Prop := Claim7.holds Tryd.pinned (.plain (OpenSpec.upto domainReturnsSpec)) domainReturnsUptoCard

/-- THE SECOND FORM's CARD OF 'synthesislaw19.DomainSteps'. -/
def domainStepsUptoCard : Claim7 := { stood := { row := domainStepsUptoRow, standIns := [], harness := (true, "a06015c3b888422b58b629f878b72a44c0ba7cf04a55c921fe712f6f6aef03c6"), looks := false }, kinds := [], alts := [], laidByText := true, laidKinds := [.data], laidTests := true, laidLooks := .later }
def DomainStepsUptoCardSaid : Prop := Claim7.holds Tryd.pinned (.plain (OpenSpec.upto domainStepsSpec)) domainStepsUptoCard
end Rows
end Go.Proofs.YthfdlaphglpnpaaDoor
