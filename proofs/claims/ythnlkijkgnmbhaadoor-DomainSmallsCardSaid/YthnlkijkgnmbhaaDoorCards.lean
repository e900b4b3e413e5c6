/-
  DERIVED. GIVEN WITH THE SEED: THE CARDS: each row of YthnlkijkgnmbhaaDoorRows.lean that lists a variable, with what it lists TIED to the program's text (the seventh form; the later family's looks); each row that meets fmt, with fmt's text TOLD by the authors' own Lean function (tested against real Go, not proved from fmt's source: count such statements apart). THE CARD IS WHAT COUNTS. Prove the row's statement (the work); the ties are given (YthnlkijkgnmbhaaDoorTie.lean); close each card by the builder's one call (the guide's Derived/Test/ToyasCard.lean, 'card_holds'). Laid BY PROGRAM, IN A SANDBOX (cutbox-door.mjs). By AI agents, Wed Nov 11 2026. No macro, syntax, notation, axiom, sorry.
-/
import Derived.Test.YthnlkijkgnmbhaaDoorRows
import GoSem.ClaimSeven
namespace Go.Proofs.YthnlkijkgnmbhaaDoor
namespace Rows

/-- THE TIED CARD OF 'synthesislaw19.DomainSizes'. -/
def domainSizesCard : Claim7 := { stood := { row := domainSizesRow, standIns := [], harness := (true, "6fb4dbdfad4f13708228206eff050d1204c457cd04edea45f137dc7f2a2c0747"), looks := false }, kinds := [], alts := [], laidByText := true, laidKinds := [.data], laidTests := true, laidLooks := .later }
def DomainSizesCardSaid : Prop := Claim7.holds Tryd.pinned (.plain (OpenSpec.ofChange domainSizesSpec)) domainSizesCard

/-- THE TIED CARD OF 'synthesislaw19.DomainSmalls'. -/
def domainSmallsCard : Claim7 := { stood := { row := domainSmallsRow, standIns := [], harness := (true, "6fb4dbdfad4f13708228206eff050d1204c457cd04edea45f137dc7f2a2c0747"), looks := false }, kinds := [], alts := [], laidByText := true, laidKinds := [.data], laidTests := true, laidLooks := .later }
def DomainSmallsCardSaid : Prop := Claim7.holds Tryd.pinned (.plain (OpenSpec.ofChange domainSmallsSpec)) domainSmallsCard

/-- THE TIED CARD OF 'synthesislaw19.DomainRestricts'. -/
def domainRestrictsCard : Claim7 := { stood := { row := domainRestrictsRow, standIns := [], harness := (true, "6fb4dbdfad4f13708228206eff050d1204c457cd04edea45f137dc7f2a2c0747"), looks := false }, kinds := [], alts := [], laidByText := true, laidKinds := [.data], laidTests := true, laidLooks := .later }
def DomainRestrictsCardSaid : Prop := Claim7.holds Tryd.pinned (.plain (OpenSpec.ofChange domainRestrictsSpec)) domainRestrictsCard

/-- THE TIED CARD OF 'synthesislaw19.DomainSteps'. -/
def domainStepsCard : Claim7 := { stood := { row := domainStepsRow, standIns := [], harness := (true, "6fb4dbdfad4f13708228206eff050d1204c457cd04edea45f137dc7f2a2c0747"), looks := false }, kinds := [], alts := [], laidByText := true, laidKinds := [.data], laidTests := true, laidLooks := .later }
def DomainStepsCardSaid : Prop := Claim7.holds Tryd.pinned (.plain (OpenSpec.ofChange domainStepsSpec)) domainStepsCard

/-- THE SECOND FORM's CARD OF 'synthesislaw19.DomainSizes'. -/
def domainSizesUptoCard : Claim7 := { stood := { row := domainSizesUptoRow, standIns := [], harness := (true, "6fb4dbdfad4f13708228206eff050d1204c457cd04edea45f137dc7f2a2c0747"), looks := false }, kinds := [], alts := [], laidByText := true, laidKinds := [.data], laidTests := true, laidLooks := .later }
def DomainSizesUptoCardSaid : Prop := Claim7.holds Tryd.pinned (.plain (OpenSpec.upto domainSizesSpec)) domainSizesUptoCard

/-- THE SECOND FORM's CARD OF 'synthesislaw19.DomainSmalls'. -/
def domainSmallsUptoCard : Claim7 := { stood := { row := domainSmallsUptoRow, standIns := [], harness := (true, "6fb4dbdfad4f13708228206eff050d1204c457cd04edea45f137dc7f2a2c0747"), looks := false }, kinds := [], alts := [], laidByText := true, laidKinds := [.data], laidTests := true, laidLooks := .later }
def DomainSmallsUptoCardSaid : Prop := Claim7.holds Tryd.pinned (.plain (OpenSpec.upto domainSmallsSpec)) domainSmallsUptoCard

/-- THE SECOND FORM's CARD OF 'synthesislaw19.DomainRestricts'. -/
def domainRestrictsUptoCard : Claim7 := { stood := { row := domainRestrictsUptoRow, standIns := [], harness := (true, "6fb4dbdfad4f13708228206eff050d1204c457cd04edea45f137dc7f2a2c0747"), looks := false }, kinds := [], alts := [], laidByText := true, laidKinds := [.data], laidTests := true, laidLooks := .later }
def DomainRestrictsUptoCardSaid : Prop := Claim7.holds Tryd.pinned (.plain (OpenSpec.upto domainRestrictsSpec)) domainRestrictsUptoCard

/-- THE SECOND FORM's CARD OF 'synthesislaw19.DomainSteps'. -/
def domainStepsUptoCard : Claim7 := { stood := { row := domainStepsUptoRow, standIns := [], harness := (true, "6fb4dbdfad4f13708228206eff050d1204c457cd04edea45f137dc7f2a2c0747"), looks := false }, kinds := [], alts := [], laidByText := true, laidKinds := [.data], laidTests := true, laidLooks := .later }
def DomainStepsUptoCardSaid : Prop := Claim7.holds Tryd.pinned (.plain (OpenSpec.upto domainStepsSpec)) domainStepsUptoCard
end Rows
end Go.Proofs.YthnlkijkgnmbhaaDoor
