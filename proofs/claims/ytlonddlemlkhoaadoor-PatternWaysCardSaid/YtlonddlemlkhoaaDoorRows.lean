/-
  NARROWER THAN 'FOR EVERY INPUT', by the rows' own cells (each row's printed sentence says how): PatternParses: laid · PatternMatches: laid · PatternCombines: laid · PatternWays: laid · PatternLiterals: laid.
  DERIVED. THE GIVEN ROWS OF THIS SEAT. 5 by the template 'for every input the law returns true; each argument reads behind the call as it read before'; 0 by the template 'total and deterministic' (their statements: YtlonddlemlkhoaaDoorTotals.lean).
  GIVEN WITH THE SEED: the statements are not yours to turn. If you find one false, say at which input.
  Laid BY PROGRAM, IN A SANDBOX (cutbox-rows.mjs): the forced cells as the released guide's own fill.sh prints them over the translation c3fdbe8d00b4e701… (all of the seat's roots in one cut). By AI agents, Wed Nov 11 2026. No macro, syntax, notation, axiom, sorry.
-/
import Derived.Test.YtlonddlemlkhoaaDoorChecked
import GoSem.Claim
import GoSem.ClaimJoined
import GoSem.ClaimMapViews
import Derived.JoinedTies
import Derived.KernelRfl
namespace Go.Proofs.YtlonddlemlkhoaaDoor
/- THE CELL 'sum', in the pinned program and in every row, IS THE sha256 OF THE DUMP (.gsa) THAT YtlonddlemlkhoaaDoorProg.lean LOADS. Nothing in Lean hashes anything: it is a label: what it is worth is what the hold of that sum in a sandbox is worth. -/
noncomputable def Tryd.pinned : Pinned := { name := "ytlonddlemlkhoaadoor", sum := "c3fdbe8d00b4e70187d62f145901dabdc055082d86644ffa6b8feffed504f011", checked := Tryd.checked }
namespace Rows
def none {H : Type} : Left H := { results := [], args := [] }

/- WHAT THE LISTED PACKAGE-LEVEL VARIABLES READ AS WHEN THE CALL BEGINS. Each datum BY PROGRAM (the guide's laid-datum.mjs) off the statement by which the dump's own 'gosem.cut.vars' lays the variable. In a bare row this is a premise. The card (YtlonddlemlkhoaaDoorCards.lean) ties it to the program's text. -/
def laid_synthesis_pattern_alphabet {H : Type} : DataW H := .agg [.lit (.int .u64 18446744069414584320), .lit (.int .u64 9223372036854775807), .lit (.int .u64 0), .lit (.int .u64 0)]

/-- 'synthesislaw05.PatternParses': WHATEVER THE INPUT: true; the input reads as it did. -/
def patternParsesSpec : ChangeSpec := { name := "patternParses", fn := fun _ => fun
  | [d] => { results := [.lit (.bool true)], args := [d] }
  | _ => none }
def patternParsesRow : OpenClaim := { program := "ytlonddlemlkhoaadoor", sum := "c3fdbe8d00b4e70187d62f145901dabdc055082d86644ffa6b8feffed504f011", func := "synthesis/synthesislaw05.PatternParses", spec := "patternParses", inPlace := ["internal/bytealg.IndexByteString", "internal/abi.NoEscape"], unfollowed := true, recurses := true, named := ["synthesis/pattern.alphabet"], plainKeys := false, apart := false, laid := [("synthesis/pattern.alphabet", laid_synthesis_pattern_alphabet)] }
def PatternParsesSaid : Prop := patternParsesRow.holds Tryd.pinned (OpenSpec.ofChange patternParsesSpec)

/-- ITS FALSE NEIGHBOUR: 'it returns false'. Refute it at one input. -/
def patternParsesWrong : ChangeSpec := { name := "patternParses", fn := fun _ => fun
  | [d] => { results := [.lit (.bool false)], args := [d] }
  | _ => none }
def PatternParsesWrongFalsely : Prop := patternParsesRow.holds Tryd.pinned (OpenSpec.ofChange patternParsesWrong)

/-- 'synthesislaw05.PatternMatches': WHATEVER THE INPUT: true; the input reads as it did. -/
def patternMatchesSpec : ChangeSpec := { name := "patternMatches", fn := fun _ => fun
  | [d1, d2] => { results := [.lit (.bool true)], args := [d1, d2] }
  | _ => none }
def patternMatchesRow : OpenClaim := { program := "ytlonddlemlkhoaadoor", sum := "c3fdbe8d00b4e70187d62f145901dabdc055082d86644ffa6b8feffed504f011", func := "synthesis/synthesislaw05.PatternMatches", spec := "patternMatches", inPlace := ["internal/bytealg.IndexByteString", "internal/abi.NoEscape"], unfollowed := true, recurses := true, named := ["synthesis/pattern.alphabet"], plainKeys := false, apart := false, laid := [("synthesis/pattern.alphabet", laid_synthesis_pattern_alphabet)] }
def PatternMatchesSaid : Prop := patternMatchesRow.holds Tryd.pinned (OpenSpec.ofChange patternMatchesSpec)

/-- ITS FALSE NEIGHBOUR: 'it returns false'. Refute it at one input. -/
def patternMatchesWrong : ChangeSpec := { name := "patternMatches", fn := fun _ => fun
  | [d1, d2] => { results := [.lit (.bool false)], args := [d1, d2] }
  | _ => none }
def PatternMatchesWrongFalsely : Prop := patternMatchesRow.holds Tryd.pinned (OpenSpec.ofChange patternMatchesWrong)

/-- 'synthesislaw05.PatternCombines': WHATEVER THE INPUT: true; the input reads as it did. -/
def patternCombinesSpec : ChangeSpec := { name := "patternCombines", fn := fun _ => fun
  | [d1, d2] => { results := [.lit (.bool true)], args := [d1, d2] }
  | _ => none }
def patternCombinesRow : OpenClaim := { program := "ytlonddlemlkhoaadoor", sum := "c3fdbe8d00b4e70187d62f145901dabdc055082d86644ffa6b8feffed504f011", func := "synthesis/synthesislaw05.PatternCombines", spec := "patternCombines", inPlace := ["internal/bytealg.IndexByteString", "internal/abi.NoEscape"], unfollowed := true, recurses := true, named := ["synthesis/pattern.alphabet"], plainKeys := false, apart := false, laid := [("synthesis/pattern.alphabet", laid_synthesis_pattern_alphabet)] }
def PatternCombinesSaid : Prop := patternCombinesRow.holds Tryd.pinned (OpenSpec.ofChange patternCombinesSpec)

/-- ITS FALSE NEIGHBOUR: 'it returns false'. Refute it at one input. -/
def patternCombinesWrong : ChangeSpec := { name := "patternCombines", fn := fun _ => fun
  | [d1, d2] => { results := [.lit (.bool false)], args := [d1, d2] }
  | _ => none }
def PatternCombinesWrongFalsely : Prop := patternCombinesRow.holds Tryd.pinned (OpenSpec.ofChange patternCombinesWrong)

/-- 'synthesislaw05.PatternWays': WHATEVER THE INPUT: true; the input reads as it did. -/
def patternWaysSpec : ChangeSpec := { name := "patternWays", fn := fun _ => fun
  | [d1, d2, d3] => { results := [.lit (.bool true)], args := [d1, d2, d3] }
  | _ => none }
def patternWaysRow : OpenClaim := { program := "ytlonddlemlkhoaadoor", sum := "c3fdbe8d00b4e70187d62f145901dabdc055082d86644ffa6b8feffed504f011", func := "synthesis/synthesislaw05.PatternWays", spec := "patternWays", inPlace := ["internal/bytealg.IndexByteString", "internal/abi.NoEscape"], unfollowed := true, recurses := true, named := ["synthesis/pattern.alphabet"], plainKeys := false, apart := false, laid := [("synthesis/pattern.alphabet", laid_synthesis_pattern_alphabet)] }
def PatternWaysSaid : Prop := patternWaysRow.holds Tryd.pinned (OpenSpec.ofChange patternWaysSpec)

/-- ITS FALSE NEIGHBOUR: 'it returns false'. Refute it at one input. -/
def patternWaysWrong : ChangeSpec := { name := "patternWays", fn := fun _ => fun
  | [d1, d2, d3] => { results := [.lit (.bool false)], args := [d1, d2, d3] }
  | _ => none }
def PatternWaysWrongFalsely : Prop := patternWaysRow.holds Tryd.pinned (OpenSpec.ofChange patternWaysWrong)

/-- 'synthesislaw05.PatternLiterals': WHATEVER THE INPUT: true; the input reads as it did. -/
def patternLiteralsSpec : ChangeSpec := { name := "patternLiterals", fn := fun _ => fun
  | [d1, d2] => { results := [.lit (.bool true)], args := [d1, d2] }
  | _ => none }
def patternLiteralsRow : OpenClaim := { program := "ytlonddlemlkhoaadoor", sum := "c3fdbe8d00b4e70187d62f145901dabdc055082d86644ffa6b8feffed504f011", func := "synthesis/synthesislaw05.PatternLiterals", spec := "patternLiterals", inPlace := ["internal/bytealg.IndexByteString", "internal/abi.NoEscape"], unfollowed := true, recurses := true, named := ["synthesis/pattern.alphabet"], plainKeys := false, apart := false, laid := [("synthesis/pattern.alphabet", laid_synthesis_pattern_alphabet)] }
def PatternLiteralsSaid : Prop := patternLiteralsRow.holds Tryd.pinned (OpenSpec.ofChange patternLiteralsSpec)

/-- ITS FALSE NEIGHBOUR: 'it returns false'. Refute it at one input. -/
def patternLiteralsWrong : ChangeSpec := { name := "patternLiterals", fn := fun _ => fun
  | [d1, d2] => { results := [.lit (.bool false)], args := [d1, d2] }
  | _ => none }
def PatternLiteralsWrongFalsely : Prop := patternLiteralsRow.holds Tryd.pinned (OpenSpec.ofChange patternLiteralsWrong)

/- THE SECOND FORM. 'bulk': how many values and letters a reading holds, each counted each time it is reached (what is shared counts as often as it is met; a slice's spare places count too). A statement '..UptoSaid' is the law's where the arguments, and the package variables that the reading takes, are together of bulk at most 1048576: NARROWER than '..Said'. Prove '..Said' where nothing that the law and all that it calls make is longer than what came in: it says more and counts as full. Else prove '..UptoSaid'. A law counts once. -/
mutual
def uptoBulk {H : Type} : DataW H → Nat
  | .lit (.string bytes) => bytes.length + 1
  | .lit _ => 1
  | .nil => 1
  | .ptr d => uptoBulk d + 1
  | .slice elems spare => uptoBulkAll elems + uptoBulkAll spare + 1
  | .agg parts => uptoBulkAll parts + 1
  | .iface _ d => uptoBulk d + 1
  | .map entries => uptoBulkEntries entries + 1
  | .held _ => 1
def uptoBulkAll {H : Type} : List (DataW H) → Nat
  | [] => 0
  | d :: r => uptoBulk d + uptoBulkAll r
def uptoBulkEntries {H : Type} : List (Lit × DataW H) → Nat
  | [] => 0
  | x :: r => uptoBulkEntry x + uptoBulkEntries r
def uptoBulkEntry {H : Type} : Lit × DataW H → Nat
  | (.string bytes, d) => bytes.length + uptoBulk d + 1
  | (_, d) => uptoBulk d + 1
 end
def uptoSmall : (H : Type) → List (DataW H) → Bool := fun _ ds => decide (uptoBulkAll ds ≤ 1048576)
def OpenSpec.upto (s : _root_.Go.ChangeSpec) : _root_.Go.OpenSpec := { _root_.Go.OpenSpec.ofChange s with cond := some uptoSmall }

/-- 'synthesislaw05.PatternParses', WHERE WHAT IT READS IS OF BULK AT MOST 1048576: true; the input reads as it did. -/
def patternParsesUptoRow : OpenClaim := { program := "ytlonddlemlkhoaadoor", sum := "c3fdbe8d00b4e70187d62f145901dabdc055082d86644ffa6b8feffed504f011", func := "synthesis/synthesislaw05.PatternParses", spec := "patternParses", inPlace := ["internal/bytealg.IndexByteString", "internal/abi.NoEscape"], unfollowed := true, recurses := true, named := ["synthesis/pattern.alphabet"], plainKeys := false, apart := false, laid := [("synthesis/pattern.alphabet", laid_synthesis_pattern_alphabet)], narrowed := true }
def PatternParsesUptoSaid : Prop := patternParsesUptoRow.holds Tryd.pinned (OpenSpec.upto patternParsesSpec)

/-- 'synthesislaw05.PatternMatches', WHERE WHAT IT READS IS OF BULK AT MOST 1048576: true; the input reads as it did. -/
def patternMatchesUptoRow : OpenClaim := { program := "ytlonddlemlkhoaadoor", sum := "c3fdbe8d00b4e70187d62f145901dabdc055082d86644ffa6b8feffed504f011", func := "synthesis/synthesislaw05.PatternMatches", spec := "patternMatches", inPlace := ["internal/bytealg.IndexByteString", "internal/abi.NoEscape"], unfollowed := true, recurses := true, named := ["synthesis/pattern.alphabet"], plainKeys := false, apart := false, laid := [("synthesis/pattern.alphabet", laid_synthesis_pattern_alphabet)], narrowed := true }
def PatternMatchesUptoSaid : Prop := patternMatchesUptoRow.holds Tryd.pinned (OpenSpec.upto patternMatchesSpec)

/-- 'synthesislaw05.PatternCombines', WHERE WHAT IT READS IS OF BULK AT MOST 1048576: true; the input reads as it did. -/
def patternCombinesUptoRow : OpenClaim := { program := "ytlonddlemlkhoaadoor", sum := "c3fdbe8d00b4e70187d62f145901dabdc055082d86644ffa6b8feffed504f011", func := "synthesis/synthesislaw05.PatternCombines", spec := "patternCombines", inPlace := ["internal/bytealg.IndexByteString", "internal/abi.NoEscape"], unfollowed := true, recurses := true, named := ["synthesis/pattern.alphabet"], plainKeys := false, apart := false, laid := [("synthesis/pattern.alphabet", laid_synthesis_pattern_alphabet)], narrowed := true }
def PatternCombinesUptoSaid : Prop := patternCombinesUptoRow.holds Tryd.pinned (OpenSpec.upto patternCombinesSpec)

/-- 'synthesislaw05.PatternWays', WHERE WHAT IT READS IS OF BULK AT MOST 1048576: true; the input reads as it did. -/
def patternWaysUptoRow : OpenClaim := { program := "ytlonddlemlkhoaadoor", sum := "c3fdbe8d00b4e70187d62f145901dabdc055082d86644ffa6b8feffed504f011", func := "synthesis/synthesislaw05.PatternWays", spec := "patternWays", inPlace := ["internal/bytealg.IndexByteString", "internal/abi.NoEscape"], unfollowed := true, recurses := true, named := ["synthesis/pattern.alphabet"], plainKeys := false, apart := false, laid := [("synthesis/pattern.alphabet", laid_synthesis_pattern_alphabet)], narrowed := true }
def PatternWaysUptoSaid : Prop := patternWaysUptoRow.holds Tryd.pinned (OpenSpec.upto patternWaysSpec)

/-- 'synthesislaw05.PatternLiterals', WHERE WHAT IT READS IS OF BULK AT MOST 1048576: true; the input reads as it did. -/
def patternLiteralsUptoRow : OpenClaim := { program := "ytlonddlemlkhoaadoor", sum := "c3fdbe8d00b4e70187d62f145901dabdc055082d86644ffa6b8feffed504f011", func := "synthesis/synthesislaw05.PatternLiterals", spec := "patternLiterals", inPlace := ["internal/bytealg.IndexByteString", "internal/abi.NoEscape"], unfollowed := true, recurses := true, named := ["synthesis/pattern.alphabet"], plainKeys := false, apart := false, laid := [("synthesis/pattern.alphabet", laid_synthesis_pattern_alphabet)], narrowed := true }
def PatternLiteralsUptoSaid : Prop := patternLiteralsUptoRow.holds Tryd.pinned (OpenSpec.upto patternLiteralsSpec)

end Rows
end Go.Proofs.YtlonddlemlkhoaaDoor
