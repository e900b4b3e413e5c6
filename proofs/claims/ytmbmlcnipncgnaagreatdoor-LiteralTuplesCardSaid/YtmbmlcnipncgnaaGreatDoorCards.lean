/-
  DERIVED. GIVEN WITH THE SEED: THE CARDS: each row of YtmbmlcnipncgnaaGreatDoorRows.lean that lists a variable, with what it lists TIED to the program's text (the seventh form; the later family's looks); each row that meets fmt, with fmt's text TOLD by the authors' own Lean function (tested against real Go, not proved from fmt's source: count such statements apart). THE CARD IS WHAT COUNTS. Prove the row's statement (the work); the ties are given (YtmbmlcnipncgnaaGreatDoorTie.lean); close each card by the builder's one call (the guide's Derived/Test/ToyasCard.lean, 'card_holds'). Laid BY PROGRAM, IN A SANDBOX (cutbox-door.mjs). By AI agents, Wed Nov 11 2026. No macro, syntax, notation, axiom, sorry.
-/
import Derived.Test.YtmbmlcnipncgnaaGreatDoorRows
import GoSem.ClaimSeven
namespace Go.Proofs.YtmbmlcnipncgnaaGreatDoor
namespace Rows

/-- THE TIED CARD OF 'synthesislaw02.LiteralTuples'. -/
def literalTuplesCard : Claim7 := { stood := { row := literalTuplesRow, standIns := [], harness := (true, "f6d60d903714dbb89d1eac17974d08f26dc2b45299d96f657fb6837ae646b1d3"), looks := false }, kinds := [], alts := [], laidByText := true, laidKinds := [.data, .data, .data, .data, .pinned], laidTests := true, laidLooks := .later }
def LiteralTuplesCardSaid : Prop := Claim7.holds Tryz.pinned (.plain (OpenSpec.ofChange literalTuplesSpec)) literalTuplesCard

/-- THE SECOND FORM's CARD OF 'synthesislaw02.LiteralTuples'. -/
def literalTuplesUptoCard : Claim7 := { stood := { row := literalTuplesUptoRow, standIns := [], harness := (true, "f6d60d903714dbb89d1eac17974d08f26dc2b45299d96f657fb6837ae646b1d3"), looks := false }, kinds := [], alts := [], laidByText := true, laidKinds := [.data, .data, .data, .data, .pinned], laidTests := true, laidLooks := .later }
def LiteralTuplesUptoCardSaid : Prop := Claim7.holds Tryz.pinned (.plain (OpenSpec.upto literalTuplesSpec)) literalTuplesUptoCard
end Rows
end Go.Proofs.YtmbmlcnipncgnaaGreatDoor
