/-
  NARROWER THAN 'FOR EVERY INPUT', by the rows' own cells (each row's printed sentence says how): PatternSame: laid · PatternWords: laid.
  DERIVED. THE GIVEN ROWS OF THIS SEAT. 2 by the template 'for every input the law returns true; each argument reads behind the call as it read before'; 0 by the template 'total and deterministic' (their statements: YtaipaddfehpmgaaDoorTotals.lean).
  GIVEN WITH THE SEED: the statements are not yours to turn. If you find one false, say at which input.
  Laid BY PROGRAM, IN A SANDBOX (cutbox-rows.mjs): the forced cells as the released guide's own fill.sh prints them over the translation ae72d2d900683b6c… (all of the seat's roots in one cut). By AI agents, Wed Nov 11 2026. No macro, syntax, notation, axiom, sorry.
-/
import Derived.Test.YtaipaddfehpmgaaDoorChecked
import GoSem.Claim
import GoSem.ClaimJoined
import GoSem.ClaimMapViews
import Derived.JoinedTies
import Derived.KernelRfl
namespace Go.Proofs.YtaipaddfehpmgaaDoor
/- THE CELL 'sum', in the pinned program and in every row, IS THE sha256 OF THE DUMP (.gsa) THAT YtaipaddfehpmgaaDoorProg.lean LOADS. Nothing in Lean hashes anything: it is a label: what it is worth is what the hold of that sum in a sandbox is worth. -/
noncomputable def Tryd.pinned : Pinned := { name := "ytaipaddfehpmgaadoor", sum := "ae72d2d900683b6cd79fde0777846cb4db7d7441f1d788395c661f7e52eb4c8b", checked := Tryd.checked }
namespace Rows
def none {H : Type} : Left H := { results := [], args := [] }

/- WHAT THE LISTED PACKAGE-LEVEL VARIABLES READ AS WHEN THE CALL BEGINS. Each datum BY PROGRAM (the guide's laid-datum.mjs) off the statement by which the dump's own 'gosem.cut.vars' lays the variable. In a bare row this is a premise. The card (YtaipaddfehpmgaaDoorCards.lean) ties it to the program's text. -/
def laid_synthesis_pattern_alphabet {H : Type} : DataW H := .agg [.lit (.int .u64 18446744069414584320), .lit (.int .u64 9223372036854775807), .lit (.int .u64 0), .lit (.int .u64 0)]

/-- 'synthesislaw05.PatternSame': WHATEVER THE INPUT: true; the input reads as it did. -/
def patternSameSpec : ChangeSpec := { name := "patternSame", fn := fun _ => fun
  | [d1, d2] => { results := [.lit (.bool true)], args := [d1, d2] }
  | _ => none }
def patternSameRow : OpenClaim := { program := "ytaipaddfehpmgaadoor", sum := "ae72d2d900683b6cd79fde0777846cb4db7d7441f1d788395c661f7e52eb4c8b", func := "synthesis/synthesislaw05.PatternSame", spec := "patternSame", inPlace := ["internal/bytealg.IndexByteString", "internal/abi.NoEscape"], unfollowed := true, recurses := true, named := ["synthesis/pattern.alphabet"], plainKeys := false, apart := false, laid := [("synthesis/pattern.alphabet", laid_synthesis_pattern_alphabet)] }
def PatternSameSaid : Prop := patternSameRow.holds Tryd.pinned (OpenSpec.ofChange patternSameSpec)

/-- ITS FALSE NEIGHBOUR: 'it returns false'. Refute it at one input. -/
def patternSameWrong : ChangeSpec := { name := "patternSame", fn := fun _ => fun
  | [d1, d2] => { results := [.lit (.bool false)], args := [d1, d2] }
  | _ => none }
def PatternSameWrongFalsely : Prop := patternSameRow.holds Tryd.pinned (OpenSpec.ofChange patternSameWrong)

/-- 'synthesislaw05.PatternWords': WHATEVER THE INPUT: true; the input reads as it did. -/
def patternWordsSpec : ChangeSpec := { name := "patternWords", fn := fun _ => fun
  | [d1, d2] => { results := [.lit (.bool true)], args := [d1, d2] }
  | _ => none }
def patternWordsRow : OpenClaim := { program := "ytaipaddfehpmgaadoor", sum := "ae72d2d900683b6cd79fde0777846cb4db7d7441f1d788395c661f7e52eb4c8b", func := "synthesis/synthesislaw05.PatternWords", spec := "patternWords", inPlace := ["internal/bytealg.IndexByteString", "internal/abi.NoEscape"], unfollowed := true, recurses := true, named := ["synthesis/pattern.alphabet"], plainKeys := false, apart := false, laid := [("synthesis/pattern.alphabet", laid_synthesis_pattern_alphabet)] }
def PatternWordsSaid : Prop := patternWordsRow.holds Tryd.pinned (OpenSpec.ofChange patternWordsSpec)

/-- ITS FALSE NEIGHBOUR: 'it returns false'. Refute it at one input. -/
def patternWordsWrong : ChangeSpec := { name := "patternWords", fn := fun _ => fun
  | [d1, d2] => { results := [.lit (.bool false)], args := [d1, d2] }
  | _ => none }
def PatternWordsWrongFalsely : Prop := patternWordsRow.holds Tryd.pinned (OpenSpec.ofChange patternWordsWrong)

/- THE SECOND FORM. 'bulk': how many values and letters a reading holds, each counted each time it is reached (what is shared counts as often as it is met; a slice's spare places count too). A statement '..UptoSaid' is the law's where the arguments, and the package variables that the reading takes, are together of bulk at most 1048576: NARROWER than '..Said'. Prove '..Said' where nothing that the law and all that it calls make is longer than what came in: it says more and counts as full. Else prove '..UptoSaid'. A law counts once. -/
mutual
def uptoBulk {H : Type} : DataW H → Nat
  | .lit (.string bytes) => bytes.length + 1
  | .lit _ => 1
  | .nil => 1
  | .ptr d => uptoBulk d + 1
  | .slice elems spare => uptoBulkAll elems + uptoBulkAll spare + 1
  | .agg parts => uptoBulkAll parts + 1
  | .iface _ d => uptoBulk d + 1
  | .map entries => uptoBulkEntries entries + 1
  | .held _ => 1
def uptoBulkAll {H : Type} : List (DataW H) → Nat
  | [] => 0
  | d :: r => uptoBulk d + uptoBulkAll r
def uptoBulkEntries {H : Type} : List (Lit × DataW H) → Nat
  | [] => 0
  | x :: r => uptoBulkEntry x + uptoBulkEntries r
def uptoBulkEntry {H : Type} : Lit × DataW H → Nat
  | (.string bytes, d) => bytes.length + uptoBulk d + 1
  | (_, d) => uptoBulk d + 1
 end
def uptoSmall : (H : Type) → List (DataW H) → Bool := fun _ ds => decide (uptoBulkAll ds ≤ 1048576)
def OpenSpec.upto (s : _root_.Go.ChangeSpec) : _root_.Go.OpenSpec := { _root_.Go.OpenSpec.ofChange s with cond := some uptoSmall }

/-- 'synthesislaw05.PatternSame', WHERE WHAT IT READS IS OF BULK AT MOST 1048576: true; the input reads as it did. -/
def patternSameUptoRow : OpenClaim := { program := "ytaipaddfehpmgaadoor", sum := "ae72d2d900683b6cd79fde0777846cb4db7d7441f1d788395c661f7e52eb4c8b", func := "synthesis/synthesislaw05.PatternSame", spec := "patternSame", inPlace := ["internal/bytealg.IndexByteString", "internal/abi.NoEscape"], unfollowed := true, recurses := true, named := ["synthesis/pattern.alphabet"], plainKeys := false, apart := false, laid := [("synthesis/pattern.alphabet", laid_synthesis_pattern_alphabet)], narrowed := true }
def PatternSameUptoSaid : Prop := patternSameUptoRow.holds Tryd.pinned (OpenSpec.upto patternSameSpec)

/-- 'synthesislaw05.PatternWords', WHERE WHAT IT READS IS OF BULK AT MOST 1048576: true; the input reads as it did. -/
def patternWordsUptoRow : OpenClaim := { program := "ytaipaddfehpmgaadoor", sum := "ae72d2d900683b6cd79fde0777846cb4db7d7441f1d788395c661f7e52eb4c8b", func := "synthesis/synthesislaw05.PatternWords", spec := "patternWords", inPlace := ["internal/bytealg.IndexByteString", "internal/abi.NoEscape"], unfollowed := true, recurses := true, named := ["synthesis/pattern.alphabet"], plainKeys := false, apart := false, laid := [("synthesis/pattern.alphabet", laid_synthesis_pattern_alphabet)], narrowed := true }
def PatternWordsUptoSaid : Prop := patternWordsUptoRow.holds Tryd.pinned (OpenSpec.upto patternWordsSpec)

end Rows
end Go.Proofs.YtaipaddfehpmgaaDoor
