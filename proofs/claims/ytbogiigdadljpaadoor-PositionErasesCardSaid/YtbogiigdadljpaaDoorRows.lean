/-
  NARROWER THAN 'FOR EVERY INPUT', by the rows' own cells (each row's printed sentence says how): PositionMatches: laid · PositionPicks: laid · PositionErases: laid · PositionLeftmost: laid · PositionNumbers: laid · PositionParts: laid.
  DERIVED. THE GIVEN ROWS OF THIS SEAT. 6 by the template 'for every input the law returns true; each argument reads behind the call as it read before'; 0 by the template 'total and deterministic' (their statements: YtbogiigdadljpaaDoorTotals.lean).
  GIVEN WITH THE SEED: the statements are not yours to turn. If you find one false, say at which input.
  Laid BY PROGRAM, IN A SANDBOX (cutbox-rows.mjs): the forced cells as the released guide's own fill.sh prints them over the translation 0dea732fd0b658c0… (all of the seat's roots in one cut). By AI agents, Wed Nov 11 2026. No macro, syntax, notation, axiom, sorry.
-/
import Derived.Test.YtbogiigdadljpaaDoorChecked
import GoSem.Claim
import GoSem.ClaimJoined
import GoSem.ClaimMapViews
import Derived.JoinedTies
import Derived.KernelRfl
namespace Go.Proofs.YtbogiigdadljpaaDoor
/- THE CELL 'sum', in the pinned program and in every row, IS THE sha256 OF THE DUMP (.gsa) THAT YtbogiigdadljpaaDoorProg.lean LOADS. Nothing in Lean hashes anything: it is a label: what it is worth is what the hold of that sum in a sandbox is worth. -/
noncomputable def Tryd.pinned : Pinned := { name := "ytbogiigdadljpaadoor", sum := "0dea732fd0b658c08280cce5c8e59710387d5d49ebd42d5d84322740c82ef435", checked := Tryd.checked }
namespace Rows
def none {H : Type} : Left H := { results := [], args := [] }

/- WHAT THE LISTED PACKAGE-LEVEL VARIABLES READ AS WHEN THE CALL BEGINS. Each datum BY PROGRAM (the guide's laid-datum.mjs) off the statement by which the dump's own 'gosem.cut.vars' lays the variable. In a bare row this is a premise. The card (YtbogiigdadljpaaDoorCards.lean) ties it to the program's text. -/
def laid_synthesis_pattern_alphabet {H : Type} : DataW H := .agg [.lit (.int .u64 18446744069414584320), .lit (.int .u64 9223372036854775807), .lit (.int .u64 0), .lit (.int .u64 0)]

/-- 'synthesislaw06.PositionMatches': WHATEVER THE INPUT: true; the input reads as it did. -/
def positionMatchesSpec : ChangeSpec := { name := "positionMatches", fn := fun _ => fun
  | [d1, d2] => { results := [.lit (.bool true)], args := [d1, d2] }
  | _ => none }
def positionMatchesRow : OpenClaim := { program := "ytbogiigdadljpaadoor", sum := "0dea732fd0b658c08280cce5c8e59710387d5d49ebd42d5d84322740c82ef435", func := "synthesis/synthesislaw06.PositionMatches", spec := "positionMatches", inPlace := ["internal/bytealg.IndexByteString", "internal/abi.NoEscape"], unfollowed := true, recurses := true, named := ["synthesis/pattern.alphabet"], apart := false, laid := [("synthesis/pattern.alphabet", laid_synthesis_pattern_alphabet)] }
def PositionMatchesSaid : Prop := positionMatchesRow.holds Tryd.pinned (OpenSpec.ofChange positionMatchesSpec)

/-- ITS FALSE NEIGHBOUR: 'it returns false'. Refute it at one input. -/
def positionMatchesWrong : ChangeSpec := { name := "positionMatches", fn := fun _ => fun
  | [d1, d2] => { results := [.lit (.bool false)], args := [d1, d2] }
  | _ => none }
def PositionMatchesWrongFalsely : Prop := positionMatchesRow.holds Tryd.pinned (OpenSpec.ofChange positionMatchesWrong)

/-- 'synthesislaw06.PositionPicks': WHATEVER THE INPUT: true; the input reads as it did. -/
def positionPicksSpec : ChangeSpec := { name := "positionPicks", fn := fun _ => fun
  | [d1, d2, d3] => { results := [.lit (.bool true)], args := [d1, d2, d3] }
  | _ => none }
def positionPicksRow : OpenClaim := { program := "ytbogiigdadljpaadoor", sum := "0dea732fd0b658c08280cce5c8e59710387d5d49ebd42d5d84322740c82ef435", func := "synthesis/synthesislaw06.PositionPicks", spec := "positionPicks", inPlace := ["internal/bytealg.IndexByteString", "internal/abi.NoEscape"], unfollowed := true, recurses := true, named := ["synthesis/pattern.alphabet"], apart := false, laid := [("synthesis/pattern.alphabet", laid_synthesis_pattern_alphabet)] }
def PositionPicksSaid : Prop := positionPicksRow.holds Tryd.pinned (OpenSpec.ofChange positionPicksSpec)

/-- ITS FALSE NEIGHBOUR: 'it returns false'. Refute it at one input. -/
def positionPicksWrong : ChangeSpec := { name := "positionPicks", fn := fun _ => fun
  | [d1, d2, d3] => { results := [.lit (.bool false)], args := [d1, d2, d3] }
  | _ => none }
def PositionPicksWrongFalsely : Prop := positionPicksRow.holds Tryd.pinned (OpenSpec.ofChange positionPicksWrong)

/-- 'synthesislaw06.PositionErases': WHATEVER THE INPUT: true; the input reads as it did. -/
def positionErasesSpec : ChangeSpec := { name := "positionErases", fn := fun _ => fun
  | [d1, d2] => { results := [.lit (.bool true)], args := [d1, d2] }
  | _ => none }
def positionErasesRow : OpenClaim := { program := "ytbogiigdadljpaadoor", sum := "0dea732fd0b658c08280cce5c8e59710387d5d49ebd42d5d84322740c82ef435", func := "synthesis/synthesislaw06.PositionErases", spec := "positionErases", inPlace := ["internal/bytealg.IndexByteString", "internal/abi.NoEscape"], unfollowed := true, recurses := true, named := ["synthesis/pattern.alphabet"], apart := false, laid := [("synthesis/pattern.alphabet", laid_synthesis_pattern_alphabet)] }
def PositionErasesSaid : Prop := positionErasesRow.holds Tryd.pinned (OpenSpec.ofChange positionErasesSpec)

/-- ITS FALSE NEIGHBOUR: 'it returns false'. Refute it at one input. -/
def positionErasesWrong : ChangeSpec := { name := "positionErases", fn := fun _ => fun
  | [d1, d2] => { results := [.lit (.bool false)], args := [d1, d2] }
  | _ => none }
def PositionErasesWrongFalsely : Prop := positionErasesRow.holds Tryd.pinned (OpenSpec.ofChange positionErasesWrong)

/-- 'synthesislaw06.PositionLeftmost': WHATEVER THE INPUT: true; the input reads as it did. -/
def positionLeftmostSpec : ChangeSpec := { name := "positionLeftmost", fn := fun _ => fun
  | [d1, d2] => { results := [.lit (.bool true)], args := [d1, d2] }
  | _ => none }
def positionLeftmostRow : OpenClaim := { program := "ytbogiigdadljpaadoor", sum := "0dea732fd0b658c08280cce5c8e59710387d5d49ebd42d5d84322740c82ef435", func := "synthesis/synthesislaw06.PositionLeftmost", spec := "positionLeftmost", inPlace := ["internal/bytealg.IndexByteString", "internal/abi.NoEscape"], unfollowed := true, recurses := true, named := ["synthesis/pattern.alphabet"], apart := false, laid := [("synthesis/pattern.alphabet", laid_synthesis_pattern_alphabet)] }
def PositionLeftmostSaid : Prop := positionLeftmostRow.holds Tryd.pinned (OpenSpec.ofChange positionLeftmostSpec)

/-- ITS FALSE NEIGHBOUR: 'it returns false'. Refute it at one input. -/
def positionLeftmostWrong : ChangeSpec := { name := "positionLeftmost", fn := fun _ => fun
  | [d1, d2] => { results := [.lit (.bool false)], args := [d1, d2] }
  | _ => none }
def PositionLeftmostWrongFalsely : Prop := positionLeftmostRow.holds Tryd.pinned (OpenSpec.ofChange positionLeftmostWrong)

/-- 'synthesislaw06.PositionNumbers': WHATEVER THE INPUT: true; the input reads as it did. -/
def positionNumbersSpec : ChangeSpec := { name := "positionNumbers", fn := fun _ => fun
  | [d1, d2] => { results := [.lit (.bool true)], args := [d1, d2] }
  | _ => none }
def positionNumbersRow : OpenClaim := { program := "ytbogiigdadljpaadoor", sum := "0dea732fd0b658c08280cce5c8e59710387d5d49ebd42d5d84322740c82ef435", func := "synthesis/synthesislaw06.PositionNumbers", spec := "positionNumbers", inPlace := ["internal/bytealg.IndexByteString", "internal/abi.NoEscape"], unfollowed := true, recurses := true, named := ["synthesis/pattern.alphabet"], apart := false, laid := [("synthesis/pattern.alphabet", laid_synthesis_pattern_alphabet)] }
def PositionNumbersSaid : Prop := positionNumbersRow.holds Tryd.pinned (OpenSpec.ofChange positionNumbersSpec)

/-- ITS FALSE NEIGHBOUR: 'it returns false'. Refute it at one input. -/
def positionNumbersWrong : ChangeSpec := { name := "positionNumbers", fn := fun _ => fun
  | [d1, d2] => { results := [.lit (.bool false)], args := [d1, d2] }
  | _ => none }
def PositionNumbersWrongFalsely : Prop := positionNumbersRow.holds Tryd.pinned (OpenSpec.ofChange positionNumbersWrong)

/-- 'synthesislaw06.PositionParts': WHATEVER THE INPUT: true; the input reads as it did. -/
def positionPartsSpec : ChangeSpec := { name := "positionParts", fn := fun _ => fun
  | [d1, d2] => { results := [.lit (.bool true)], args := [d1, d2] }
  | _ => none }
def positionPartsRow : OpenClaim := { program := "ytbogiigdadljpaadoor", sum := "0dea732fd0b658c08280cce5c8e59710387d5d49ebd42d5d84322740c82ef435", func := "synthesis/synthesislaw06.PositionParts", spec := "positionParts", inPlace := ["internal/bytealg.IndexByteString", "internal/abi.NoEscape"], unfollowed := true, recurses := true, named := ["synthesis/pattern.alphabet"], apart := false, laid := [("synthesis/pattern.alphabet", laid_synthesis_pattern_alphabet)] }
def PositionPartsSaid : Prop := positionPartsRow.holds Tryd.pinned (OpenSpec.ofChange positionPartsSpec)

/-- ITS FALSE NEIGHBOUR: 'it returns false'. Refute it at one input. -/
def positionPartsWrong : ChangeSpec := { name := "positionParts", fn := fun _ => fun
  | [d1, d2] => { results := [.lit (.bool false)], args := [d1, d2] }
  | _ => none }
def PositionPartsWrongFalsely : Prop := positionPartsRow.holds Tryd.pinned (OpenSpec.ofChange positionPartsWrong)

/- THE SECOND FORM. 'bulk': how many values and letters a reading holds, each counted each time it is reached (what is shared counts as often as it is met; a slice's spare places count too). A statement '..UptoSaid' is the law's where the arguments, and the package variables that the reading takes, are together of bulk at most 1048576: NARROWER than '..Said'. Prove '..Said' where nothing that the law and all that it calls make is longer than what came in: it says more and counts as full. Else prove '..UptoSaid'. A law counts once. -/
mutual
def uptoBulk {H : Type} : DataW H → Nat
  | .lit (.string bytes) => bytes.length + 1
  | .lit _ => 1
  | .nil => 1
  | .ptr d => uptoBulk d + 1
  | .slice elems spare => uptoBulkAll elems + uptoBulkAll spare + 1
  | .agg parts => uptoBulkAll parts + 1
  | .iface _ d => uptoBulk d + 1
  | .map entries => uptoBulkEntries entries + 1
  | .held _ => 1
def uptoBulkAll {H : Type} : List (DataW H) → Nat
  | [] => 0
  | d :: r => uptoBulk d + uptoBulkAll r
def uptoBulkEntries {H : Type} : List (Lit × DataW H) → Nat
  | [] => 0
  | x :: r => uptoBulkEntry x + uptoBulkEntries r
def uptoBulkEntry {H : Type} : Lit × DataW H → Nat
  | (.string bytes, d) => bytes.length + uptoBulk d + 1
  | (_, d) => uptoBulk d + 1
 end
def uptoSmall : (H : Type) → List (DataW H) → Bool := fun _ ds => decide (uptoBulkAll ds ≤ 1048576)
def OpenSpec.upto (s : _root_.Go.ChangeSpec) : _root_.Go.OpenSpec := { _root_.Go.OpenSpec.ofChange s with cond := some uptoSmall }

/-- 'synthesislaw06.PositionMatches', WHERE WHAT IT READS IS OF BULK AT MOST 1048576: true; the input reads as it did. -/
def positionMatchesUptoRow : OpenClaim := { program := "ytbogiigdadljpaadoor", sum := "0dea732fd0b658c08280cce5c8e59710387d5d49ebd42d5d84322740c82ef435", func := "synthesis/synthesislaw06.PositionMatches", spec := "positionMatches", inPlace := ["internal/bytealg.IndexByteString", "internal/abi.NoEscape"], unfollowed := true, recurses := true, named := ["synthesis/pattern.alphabet"], apart := false, laid := [("synthesis/pattern.alphabet", laid_synthesis_pattern_alphabet)], narrowed := true }
def PositionMatchesUptoSaid : Prop := positionMatchesUptoRow.holds Tryd.pinned (OpenSpec.upto positionMatchesSpec)

/-- 'synthesislaw06.PositionPicks', WHERE WHAT IT READS IS OF BULK AT MOST 1048576: true; the input reads as it did. -/
def positionPicksUptoRow : OpenClaim := { program := "ytbogiigdadljpaadoor", sum := "0dea732fd0b658c08280cce5c8e59710387d5d49ebd42d5d84322740c82ef435", func := "synthesis/synthesislaw06.PositionPicks", spec := "positionPicks", inPlace := ["internal/bytealg.IndexByteString", "internal/abi.NoEscape"], unfollowed := true, recurses := true, named := ["synthesis/pattern.alphabet"], apart := false, laid := [("synthesis/pattern.alphabet", laid_synthesis_pattern_alphabet)], narrowed := true }
def PositionPicksUptoSaid : Prop := positionPicksUptoRow.holds Tryd.pinned (OpenSpec.upto positionPicksSpec)

/-- 'synthesislaw06.PositionErases', WHERE WHAT IT READS IS OF BULK AT MOST 1048576: true; the input reads as it did. -/
def positionErasesUptoRow : OpenClaim := { program := "ytbogiigdadljpaadoor", sum := "0dea732fd0b658c08280cce5c8e59710387d5d49ebd42d5d84322740c82ef435", func := "synthesis/synthesislaw06.PositionErases", spec := "positionErases", inPlace := ["internal/bytealg.IndexByteString", "internal/abi.NoEscape"], unfollowed := true, recurses := true, named := ["synthesis/pattern.alphabet"], apart := false, laid := [("synthesis/pattern.alphabet", laid_synthesis_pattern_alphabet)], narrowed := true }
def PositionErasesUptoSaid : Prop := positionErasesUptoRow.holds Tryd.pinned (OpenSpec.upto positionErasesSpec)

/-- 'synthesislaw06.PositionLeftmost', WHERE WHAT IT READS IS OF BULK AT MOST 1048576: true; the input reads as it did. -/
def positionLeftmostUptoRow : OpenClaim := { program := "ytbogiigdadljpaadoor", sum := "0dea732fd0b658c08280cce5c8e59710387d5d49ebd42d5d84322740c82ef435", func := "synthesis/synthesislaw06.PositionLeftmost", spec := "positionLeftmost", inPlace := ["internal/bytealg.IndexByteString", "internal/abi.NoEscape"], unfollowed := true, recurses := true, named := ["synthesis/pattern.alphabet"], apart := false, laid := [("synthesis/pattern.alphabet", laid_synthesis_pattern_alphabet)], narrowed := true }
def PositionLeftmostUptoSaid : Prop := positionLeftmostUptoRow.holds Tryd.pinned (OpenSpec.upto positionLeftmostSpec)

/-- 'synthesislaw06.PositionNumbers', WHERE WHAT IT READS IS OF BULK AT MOST 1048576: true; the input reads as it did. -/
def positionNumbersUptoRow : OpenClaim := { program := "ytbogiigdadljpaadoor", sum := "0dea732fd0b658c08280cce5c8e59710387d5d49ebd42d5d84322740c82ef435", func := "synthesis/synthesislaw06.PositionNumbers", spec := "positionNumbers", inPlace := ["internal/bytealg.IndexByteString", "internal/abi.NoEscape"], unfollowed := true, recurses := true, named := ["synthesis/pattern.alphabet"], apart := false, laid := [("synthesis/pattern.alphabet", laid_synthesis_pattern_alphabet)], narrowed := true }
def PositionNumbersUptoSaid : Prop := positionNumbersUptoRow.holds Tryd.pinned (OpenSpec.upto positionNumbersSpec)

/-- 'synthesislaw06.PositionParts', WHERE WHAT IT READS IS OF BULK AT MOST 1048576: true; the input reads as it did. -/
def positionPartsUptoRow : OpenClaim := { program := "ytbogiigdadljpaadoor", sum := "0dea732fd0b658c08280cce5c8e59710387d5d49ebd42d5d84322740c82ef435", func := "synthesis/synthesislaw06.PositionParts", spec := "positionParts", inPlace := ["internal/bytealg.IndexByteString", "internal/abi.NoEscape"], unfollowed := true, recurses := true, named := ["synthesis/pattern.alphabet"], apart := false, laid := [("synthesis/pattern.alphabet", laid_synthesis_pattern_alphabet)], narrowed := true }
def PositionPartsUptoSaid : Prop := positionPartsUptoRow.holds Tryd.pinned (OpenSpec.upto positionPartsSpec)

end Rows
end Go.Proofs.YtbogiigdadljpaaDoor
