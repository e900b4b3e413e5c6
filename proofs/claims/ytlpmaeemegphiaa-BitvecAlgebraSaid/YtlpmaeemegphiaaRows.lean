/-
  No cell of these rows narrows 'for every input' (looked for: loops, veiled, ifaces, maps, wideKeys, modest, calm, conditions, laid).
  DERIVED. THE GIVEN ROWS OF THIS SEAT. 7 by the template 'for every input the law returns true; each argument reads behind the call as it read before'; 0 by the template 'total and deterministic' (their statements: YtlpmaeemegphiaaTotals.lean).
  GIVEN WITH THE SEED: the statements are not yours to turn. If you find one false, say at which input.
  Laid BY PROGRAM, IN A SANDBOX (cutbox-rows.mjs): the forced cells as the released guide's own fill.sh prints them over the translation 7fc7c4bf6e054aef… (all of the seat's roots in one cut). By AI agents, Wed Nov 11 2026. No macro, syntax, notation, axiom, sorry.
-/
import Derived.Test.YtlpmaeemegphiaaChecked
import GoSem.Claim
import GoSem.ClaimJoined
import GoSem.ClaimMapViews
import Derived.JoinedTies
import Derived.KernelRfl
namespace Go.Proofs.Ytlpmaeemegphiaa
/- THE CELL 'sum', in the pinned program and in every row, IS THE sha256 OF THE DUMP (.gsa) THAT YtlpmaeemegphiaaProg.lean LOADS. Nothing in Lean hashes anything: it is a label: what it is worth is what the hold of that sum in a sandbox is worth. -/
noncomputable def Try.pinned : Pinned := { name := "ytlpmaeemegphiaa", sum := "7fc7c4bf6e054aefa87ce443b056f34ca437284523feff96b0f53f73e8442cff", checked := Try.checked }
namespace Rows
def none {H : Type} : Left H := { results := [], args := [] }

/-- 'synthesislaw03.BitvecBits': WHATEVER THE INPUT: true; the input reads as it did. -/
def bitvecBitsSpec : ChangeSpec := { name := "bitvecBits", fn := fun _ => fun
  | [d1, d2] => { results := [.lit (.bool true)], args := [d1, d2] }
  | _ => none }
def bitvecBitsRow : OpenClaim := { program := "ytlpmaeemegphiaa", sum := "7fc7c4bf6e054aefa87ce443b056f34ca437284523feff96b0f53f73e8442cff", func := "synthesis/synthesislaw03.BitvecBits", spec := "bitvecBits", unfollowed := true, recurses := true, apart := false }
def BitvecBitsSaid : Prop := bitvecBitsRow.holds Try.pinned (OpenSpec.ofChange bitvecBitsSpec)

/-- ITS FALSE NEIGHBOUR: 'it returns false'. Refute it at one input. -/
def bitvecBitsWrong : ChangeSpec := { name := "bitvecBits", fn := fun _ => fun
  | [d1, d2] => { results := [.lit (.bool false)], args := [d1, d2] }
  | _ => none }
def BitvecBitsWrongFalsely : Prop := bitvecBitsRow.holds Try.pinned (OpenSpec.ofChange bitvecBitsWrong)

/-- 'synthesislaw03.BitvecNumbers': WHATEVER THE INPUT: true; the input reads as it did. -/
def bitvecNumbersSpec : ChangeSpec := { name := "bitvecNumbers", fn := fun _ => fun
  | [d1, d2] => { results := [.lit (.bool true)], args := [d1, d2] }
  | _ => none }
def bitvecNumbersRow : OpenClaim := { program := "ytlpmaeemegphiaa", sum := "7fc7c4bf6e054aefa87ce443b056f34ca437284523feff96b0f53f73e8442cff", func := "synthesis/synthesislaw03.BitvecNumbers", spec := "bitvecNumbers", unfollowed := true, recurses := true, apart := false }
def BitvecNumbersSaid : Prop := bitvecNumbersRow.holds Try.pinned (OpenSpec.ofChange bitvecNumbersSpec)

/-- ITS FALSE NEIGHBOUR: 'it returns false'. Refute it at one input. -/
def bitvecNumbersWrong : ChangeSpec := { name := "bitvecNumbers", fn := fun _ => fun
  | [d1, d2] => { results := [.lit (.bool false)], args := [d1, d2] }
  | _ => none }
def BitvecNumbersWrongFalsely : Prop := bitvecNumbersRow.holds Try.pinned (OpenSpec.ofChange bitvecNumbersWrong)

/-- 'synthesislaw03.BitvecShifts': WHATEVER THE INPUT: true; the input reads as it did. -/
def bitvecShiftsSpec : ChangeSpec := { name := "bitvecShifts", fn := fun _ => fun
  | [d1, d2] => { results := [.lit (.bool true)], args := [d1, d2] }
  | _ => none }
def bitvecShiftsRow : OpenClaim := { program := "ytlpmaeemegphiaa", sum := "7fc7c4bf6e054aefa87ce443b056f34ca437284523feff96b0f53f73e8442cff", func := "synthesis/synthesislaw03.BitvecShifts", spec := "bitvecShifts", unfollowed := true, recurses := true, apart := false }
def BitvecShiftsSaid : Prop := bitvecShiftsRow.holds Try.pinned (OpenSpec.ofChange bitvecShiftsSpec)

/-- ITS FALSE NEIGHBOUR: 'it returns false'. Refute it at one input. -/
def bitvecShiftsWrong : ChangeSpec := { name := "bitvecShifts", fn := fun _ => fun
  | [d1, d2] => { results := [.lit (.bool false)], args := [d1, d2] }
  | _ => none }
def BitvecShiftsWrongFalsely : Prop := bitvecShiftsRow.holds Try.pinned (OpenSpec.ofChange bitvecShiftsWrong)

/-- 'synthesislaw03.BitvecTexts': WHATEVER THE INPUT: true; the input reads as it did. -/
def bitvecTextsSpec : ChangeSpec := { name := "bitvecTexts", fn := fun _ => fun
  | [d] => { results := [.lit (.bool true)], args := [d] }
  | _ => none }
def bitvecTextsRow : OpenClaim := { program := "ytlpmaeemegphiaa", sum := "7fc7c4bf6e054aefa87ce443b056f34ca437284523feff96b0f53f73e8442cff", func := "synthesis/synthesislaw03.BitvecTexts", spec := "bitvecTexts", unfollowed := true, recurses := true, apart := false }
def BitvecTextsSaid : Prop := bitvecTextsRow.holds Try.pinned (OpenSpec.ofChange bitvecTextsSpec)

/-- ITS FALSE NEIGHBOUR: 'it returns false'. Refute it at one input. -/
def bitvecTextsWrong : ChangeSpec := { name := "bitvecTexts", fn := fun _ => fun
  | [d] => { results := [.lit (.bool false)], args := [d] }
  | _ => none }
def BitvecTextsWrongFalsely : Prop := bitvecTextsRow.holds Try.pinned (OpenSpec.ofChange bitvecTextsWrong)

/-- 'synthesislaw03.BitvecSolve': WHATEVER THE INPUT: true; the input reads as it did. -/
def bitvecSolveSpec : ChangeSpec := { name := "bitvecSolve", fn := fun _ => fun
  | [d1, d2, d3] => { results := [.lit (.bool true)], args := [d1, d2, d3] }
  | _ => none }
def bitvecSolveRow : OpenClaim := { program := "ytlpmaeemegphiaa", sum := "7fc7c4bf6e054aefa87ce443b056f34ca437284523feff96b0f53f73e8442cff", func := "synthesis/synthesislaw03.BitvecSolve", spec := "bitvecSolve", unfollowed := true, recurses := true, apart := false }
def BitvecSolveSaid : Prop := bitvecSolveRow.holds Try.pinned (OpenSpec.ofChange bitvecSolveSpec)

/-- ITS FALSE NEIGHBOUR: 'it returns false'. Refute it at one input. -/
def bitvecSolveWrong : ChangeSpec := { name := "bitvecSolve", fn := fun _ => fun
  | [d1, d2, d3] => { results := [.lit (.bool false)], args := [d1, d2, d3] }
  | _ => none }
def BitvecSolveWrongFalsely : Prop := bitvecSolveRow.holds Try.pinned (OpenSpec.ofChange bitvecSolveWrong)

/-- 'synthesislaw03.BitvecRing': WHATEVER THE INPUT: true; the input reads as it did. -/
def bitvecRingSpec : ChangeSpec := { name := "bitvecRing", fn := fun _ => fun
  | [d1, d2, d3] => { results := [.lit (.bool true)], args := [d1, d2, d3] }
  | _ => none }
def bitvecRingRow : OpenClaim := { program := "ytlpmaeemegphiaa", sum := "7fc7c4bf6e054aefa87ce443b056f34ca437284523feff96b0f53f73e8442cff", func := "synthesis/synthesislaw03.BitvecRing", spec := "bitvecRing", unfollowed := true, recurses := true, apart := false }
def BitvecRingSaid : Prop := bitvecRingRow.holds Try.pinned (OpenSpec.ofChange bitvecRingSpec)

/-- ITS FALSE NEIGHBOUR: 'it returns false'. Refute it at one input. -/
def bitvecRingWrong : ChangeSpec := { name := "bitvecRing", fn := fun _ => fun
  | [d1, d2, d3] => { results := [.lit (.bool false)], args := [d1, d2, d3] }
  | _ => none }
def BitvecRingWrongFalsely : Prop := bitvecRingRow.holds Try.pinned (OpenSpec.ofChange bitvecRingWrong)

/-- 'synthesislaw03.BitvecAlgebra': WHATEVER THE INPUT: true; the input reads as it did. -/
def bitvecAlgebraSpec : ChangeSpec := { name := "bitvecAlgebra", fn := fun _ => fun
  | [d1, d2, d3] => { results := [.lit (.bool true)], args := [d1, d2, d3] }
  | _ => none }
def bitvecAlgebraRow : OpenClaim := { program := "ytlpmaeemegphiaa", sum := "7fc7c4bf6e054aefa87ce443b056f34ca437284523feff96b0f53f73e8442cff", func := "synthesis/synthesislaw03.BitvecAlgebra", spec := "bitvecAlgebra", unfollowed := true, recurses := true, apart := false }
def BitvecAlgebraSaid : Prop := bitvecAlgebraRow.holds Try.pinned (OpenSpec.ofChange bitvecAlgebraSpec)

/-- ITS FALSE NEIGHBOUR: 'it returns false'. Refute it at one input. -/
def bitvecAlgebraWrong : ChangeSpec := { name := "bitvecAlgebra", fn := fun _ => fun
  | [d1, d2, d3] => { results := [.lit (.bool false)], args := [d1, d2, d3] }
  | _ => none }
def BitvecAlgebraWrongFalsely : Prop := bitvecAlgebraRow.holds Try.pinned (OpenSpec.ofChange bitvecAlgebraWrong)

/- THE SECOND FORM. 'bulk': how many values and letters a reading holds, each counted each time it is reached (what is shared counts as often as it is met; a slice's spare places count too). A statement '..UptoSaid' is the law's where the arguments, and the package variables that the reading takes, are together of bulk at most 1048576: NARROWER than '..Said'. Prove '..Said' where nothing that the law and all that it calls make is longer than what came in: it says more and counts as full. Else prove '..UptoSaid'. A law counts once. -/
mutual
def uptoBulk {H : Type} : DataW H → Nat
  | .lit (.string bytes) => bytes.length + 1
  | .lit _ => 1
  | .nil => 1
  | .ptr d => uptoBulk d + 1
  | .slice elems spare => uptoBulkAll elems + uptoBulkAll spare + 1
  | .agg parts => uptoBulkAll parts + 1
  | .iface _ d => uptoBulk d + 1
  | .map entries => uptoBulkEntries entries + 1
  | .held _ => 1
def uptoBulkAll {H : Type} : List (DataW H) → Nat
  | [] => 0
  | d :: r => uptoBulk d + uptoBulkAll r
def uptoBulkEntries {H : Type} : List (Lit × DataW H) → Nat
  | [] => 0
  | x :: r => uptoBulkEntry x + uptoBulkEntries r
def uptoBulkEntry {H : Type} : Lit × DataW H → Nat
  | (.string bytes, d) => bytes.length + uptoBulk d + 1
  | (_, d) => uptoBulk d + 1
 end
def uptoSmall : (H : Type) → List (DataW H) → Bool := fun _ ds => decide (uptoBulkAll ds ≤ 1048576)
def OpenSpec.upto (s : _root_.Go.ChangeSpec) : _root_.Go.OpenSpec := { _root_.Go.OpenSpec.ofChange s with cond := some uptoSmall }

/-- 'synthesislaw03.BitvecBits', WHERE WHAT IT READS IS OF BULK AT MOST 1048576: true; the input reads as it did. -/
def bitvecBitsUptoRow : OpenClaim := { program := "ytlpmaeemegphiaa", sum := "7fc7c4bf6e054aefa87ce443b056f34ca437284523feff96b0f53f73e8442cff", func := "synthesis/synthesislaw03.BitvecBits", spec := "bitvecBits", unfollowed := true, recurses := true, apart := false, narrowed := true }
def BitvecBitsUptoSaid : Prop := bitvecBitsUptoRow.holds Try.pinned (OpenSpec.upto bitvecBitsSpec)

/-- 'synthesislaw03.BitvecNumbers', WHERE WHAT IT READS IS OF BULK AT MOST 1048576: true; the input reads as it did. -/
def bitvecNumbersUptoRow : OpenClaim := { program := "ytlpmaeemegphiaa", sum := "7fc7c4bf6e054aefa87ce443b056f34ca437284523feff96b0f53f73e8442cff", func := "synthesis/synthesislaw03.BitvecNumbers", spec := "bitvecNumbers", unfollowed := true, recurses := true, apart := false, narrowed := true }
def BitvecNumbersUptoSaid : Prop := bitvecNumbersUptoRow.holds Try.pinned (OpenSpec.upto bitvecNumbersSpec)

/-- 'synthesislaw03.BitvecShifts', WHERE WHAT IT READS IS OF BULK AT MOST 1048576: true; the input reads as it did. -/
def bitvecShiftsUptoRow : OpenClaim := { program := "ytlpmaeemegphiaa", sum := "7fc7c4bf6e054aefa87ce443b056f34ca437284523feff96b0f53f73e8442cff", func := "synthesis/synthesislaw03.BitvecShifts", spec := "bitvecShifts", unfollowed := true, recurses := true, apart := false, narrowed := true }
def BitvecShiftsUptoSaid : Prop := bitvecShiftsUptoRow.holds Try.pinned (OpenSpec.upto bitvecShiftsSpec)

/-- 'synthesislaw03.BitvecTexts', WHERE WHAT IT READS IS OF BULK AT MOST 1048576: true; the input reads as it did. -/
def bitvecTextsUptoRow : OpenClaim := { program := "ytlpmaeemegphiaa", sum := "7fc7c4bf6e054aefa87ce443b056f34ca437284523feff96b0f53f73e8442cff", func := "synthesis/synthesislaw03.BitvecTexts", spec := "bitvecTexts", unfollowed := true, recurses := true, apart := false, narrowed := true }
def BitvecTextsUptoSaid : Prop := bitvecTextsUptoRow.holds Try.pinned (OpenSpec.upto bitvecTextsSpec)

/-- 'synthesislaw03.BitvecSolve', WHERE WHAT IT READS IS OF BULK AT MOST 1048576: true; the input reads as it did. -/
def bitvecSolveUptoRow : OpenClaim := { program := "ytlpmaeemegphiaa", sum := "7fc7c4bf6e054aefa87ce443b056f34ca437284523feff96b0f53f73e8442cff", func := "synthesis/synthesislaw03.BitvecSolve", spec := "bitvecSolve", unfollowed := true, recurses := true, apart := false, narrowed := true }
def BitvecSolveUptoSaid : Prop := bitvecSolveUptoRow.holds Try.pinned (OpenSpec.upto bitvecSolveSpec)

/-- 'synthesislaw03.BitvecRing', WHERE WHAT IT READS IS OF BULK AT MOST 1048576: true; the input reads as it did. -/
def bitvecRingUptoRow : OpenClaim := { program := "ytlpmaeemegphiaa", sum := "7fc7c4bf6e054aefa87ce443b056f34ca437284523feff96b0f53f73e8442cff", func := "synthesis/synthesislaw03.BitvecRing", spec := "bitvecRing", unfollowed := true, recurses := true, apart := false, narrowed := true }
def BitvecRingUptoSaid : Prop := bitvecRingUptoRow.holds Try.pinned (OpenSpec.upto bitvecRingSpec)

/-- 'synthesislaw03.BitvecAlgebra', WHERE WHAT IT READS IS OF BULK AT MOST 1048576: true; the input reads as it did. -/
def bitvecAlgebraUptoRow : OpenClaim := { program := "ytlpmaeemegphiaa", sum := "7fc7c4bf6e054aefa87ce443b056f34ca437284523feff96b0f53f73e8442cff", func := "synthesis/synthesislaw03.BitvecAlgebra", spec := "bitvecAlgebra", unfollowed := true, recurses := true, apart := false, narrowed := true }
def BitvecAlgebraUptoSaid : Prop := bitvecAlgebraUptoRow.holds Try.pinned (OpenSpec.upto bitvecAlgebraSpec)

end Rows
end Go.Proofs.Ytlpmaeemegphiaa
