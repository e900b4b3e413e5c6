/-
  NARROWER THAN 'FOR EVERY INPUT', by the rows' own cells (each row's printed sentence says how): StrsSlices: laid · StrsWords: laid · StrsCases: laid · StrsFinds: laid · StrsRepeats: laid · StrsShows: laid · StrsReads: laid · StrsSplits: laid · StrsKeeps: laid.
  DERIVED. THE GIVEN ROWS OF THIS SEAT. 9 by the template 'for every input the law returns true; each argument reads behind the call as it read before'; 0 by the template 'total and deterministic' (their statements: YtlpmaeemegphiaaDoorTotals.lean).
  GIVEN WITH THE SEED: the statements are not yours to turn. If you find one false, say at which input.
  Laid BY PROGRAM, IN A SANDBOX (cutbox-rows.mjs): the forced cells as the released guide's own fill.sh prints them over the translation 0b44eacb6b7ab5b1… (all of the seat's roots in one cut). By AI agents, Wed Nov 11 2026. No macro, syntax, notation, axiom, sorry.
-/
import Derived.Test.YtlpmaeemegphiaaDoorChecked
import GoSem.PinnedTables
import GoSem.Claim
import GoSem.ClaimJoined
import GoSem.ClaimMapViews
import Derived.JoinedTies
import Derived.KernelRfl
namespace Go.Proofs.YtlpmaeemegphiaaDoor
/- THE CELL 'sum', in the pinned program and in every row, IS THE sha256 OF THE DUMP (.gsa) THAT YtlpmaeemegphiaaDoorProg.lean LOADS. Nothing in Lean hashes anything: it is a label: what it is worth is what the hold of that sum in a sandbox is worth. -/
noncomputable def Tryd.pinned : Pinned := { name := "ytlpmaeemegphiaadoor", sum := "0b44eacb6b7ab5b15438b2a5cc7e76d23b7a858ab72658b1b6ce94d6084d8dce", checked := Tryd.checked }
namespace Rows
def none {H : Type} : Left H := { results := [], args := [] }

/- WHAT THE LISTED PACKAGE-LEVEL VARIABLES READ AS WHEN THE CALL BEGINS. Each datum BY PROGRAM (the guide's laid-datum.mjs) off the statement by which the dump's own 'gosem.cut.vars' lays the variable. In a bare row this is a premise. The card (YtlpmaeemegphiaaDoorCards.lean) ties it to the program's text. -/
def laid_math_bits_deBruijn32tab {H : Type} : DataW H := .agg [.lit (.int .u8 0), .lit (.int .u8 1), .lit (.int .u8 28), .lit (.int .u8 2), .lit (.int .u8 29), .lit (.int .u8 14), .lit (.int .u8 24), .lit (.int .u8 3), .lit (.int .u8 30), .lit (.int .u8 22), .lit (.int .u8 20), .lit (.int .u8 15), .lit (.int .u8 25), .lit (.int .u8 17), .lit (.int .u8 4), .lit (.int .u8 8), .lit (.int .u8 31), .lit (.int .u8 27), .lit (.int .u8 13), .lit (.int .u8 23), .lit (.int .u8 21), .lit (.int .u8 19), .lit (.int .u8 16), .lit (.int .u8 7), .lit (.int .u8 26), .lit (.int .u8 12), .lit (.int .u8 18), .lit (.int .u8 6), .lit (.int .u8 11), .lit (.int .u8 5), .lit (.int .u8 10), .lit (.int .u8 9)]
def laid_math_bits_deBruijn64tab {H : Type} : DataW H := .agg [.lit (.int .u8 0), .lit (.int .u8 1), .lit (.int .u8 56), .lit (.int .u8 2), .lit (.int .u8 57), .lit (.int .u8 49), .lit (.int .u8 28), .lit (.int .u8 3), .lit (.int .u8 61), .lit (.int .u8 58), .lit (.int .u8 42), .lit (.int .u8 50), .lit (.int .u8 38), .lit (.int .u8 29), .lit (.int .u8 17), .lit (.int .u8 4), .lit (.int .u8 62), .lit (.int .u8 47), .lit (.int .u8 59), .lit (.int .u8 36), .lit (.int .u8 45), .lit (.int .u8 43), .lit (.int .u8 51), .lit (.int .u8 22), .lit (.int .u8 53), .lit (.int .u8 39), .lit (.int .u8 33), .lit (.int .u8 30), .lit (.int .u8 24), .lit (.int .u8 18), .lit (.int .u8 12), .lit (.int .u8 5), .lit (.int .u8 63), .lit (.int .u8 55), .lit (.int .u8 48), .lit (.int .u8 27), .lit (.int .u8 60), .lit (.int .u8 41), .lit (.int .u8 37), .lit (.int .u8 16), .lit (.int .u8 46), .lit (.int .u8 35), .lit (.int .u8 44), .lit (.int .u8 21), .lit (.int .u8 52), .lit (.int .u8 32), .lit (.int .u8 23), .lit (.int .u8 11), .lit (.int .u8 54), .lit (.int .u8 26), .lit (.int .u8 40), .lit (.int .u8 15), .lit (.int .u8 34), .lit (.int .u8 20), .lit (.int .u8 31), .lit (.int .u8 10), .lit (.int .u8 25), .lit (.int .u8 14), .lit (.int .u8 19), .lit (.int .u8 9), .lit (.int .u8 13), .lit (.int .u8 8), .lit (.int .u8 7), .lit (.int .u8 6)]
def laid_internal_strconv_uint64pow10 {H : Type} : DataW H := .agg [.lit (.int .u64 1), .lit (.int .u64 10), .lit (.int .u64 100), .lit (.int .u64 1000), .lit (.int .u64 10000), .lit (.int .u64 100000), .lit (.int .u64 1000000), .lit (.int .u64 10000000), .lit (.int .u64 100000000), .lit (.int .u64 1000000000), .lit (.int .u64 10000000000), .lit (.int .u64 100000000000), .lit (.int .u64 1000000000000), .lit (.int .u64 10000000000000), .lit (.int .u64 100000000000000), .lit (.int .u64 1000000000000000), .lit (.int .u64 10000000000000000), .lit (.int .u64 100000000000000000), .lit (.int .u64 1000000000000000000), .lit (.int .u64 10000000000000000000)]
def laid_unicode_utf8_acceptRanges {H : Type} : DataW H := .agg [.agg [.lit (.int .u8 128), .lit (.int .u8 191)], .agg [.lit (.int .u8 160), .lit (.int .u8 191)], .agg [.lit (.int .u8 128), .lit (.int .u8 159)], .agg [.lit (.int .u8 144), .lit (.int .u8 191)], .agg [.lit (.int .u8 128), .lit (.int .u8 143)], .agg [.lit (.int .u8 0), .lit (.int .u8 0)], .agg [.lit (.int .u8 0), .lit (.int .u8 0)], .agg [.lit (.int .u8 0), .lit (.int .u8 0)], .agg [.lit (.int .u8 0), .lit (.int .u8 0)], .agg [.lit (.int .u8 0), .lit (.int .u8 0)], .agg [.lit (.int .u8 0), .lit (.int .u8 0)], .agg [.lit (.int .u8 0), .lit (.int .u8 0)], .agg [.lit (.int .u8 0), .lit (.int .u8 0)], .agg [.lit (.int .u8 0), .lit (.int .u8 0)], .agg [.lit (.int .u8 0), .lit (.int .u8 0)], .agg [.lit (.int .u8 0), .lit (.int .u8 0)]]
/-- One of Go's own tables, pinned by name: the form's constant. -/
def laid_unicode_utf8_first : DataW Unit := Go.Pinned.utf8First

/-- 'synthesislaw04.StrsSlices': WHATEVER THE INPUT: true; the input reads as it did. -/
def strsSlicesSpec : ChangeSpec := { name := "strsSlices", fn := fun _ => fun
  | [d1, d2, d3] => { results := [.lit (.bool true)], args := [d1, d2, d3] }
  | _ => none }
def strsSlicesRow : OpenClaim := { program := "ytlpmaeemegphiaadoor", sum := "0b44eacb6b7ab5b15438b2a5cc7e76d23b7a858ab72658b1b6ce94d6084d8dce", func := "synthesis/synthesislaw04.StrsSlices", spec := "strsSlices", inPlace := ["internal/bytealg.IndexByteString", "internal/bytealg.IndexString"], named := ["internal/bytealg.MaxLen", "internal/strconv.uint64pow10", "math/bits.deBruijn32tab", "math/bits.deBruijn64tab"], apart := false, laid := [("math/bits.deBruijn32tab", laid_math_bits_deBruijn32tab), ("math/bits.deBruijn64tab", laid_math_bits_deBruijn64tab), ("internal/strconv.uint64pow10", laid_internal_strconv_uint64pow10)] }
def StrsSlicesSaid : Prop := strsSlicesRow.holds Tryd.pinned (OpenSpec.ofChange strsSlicesSpec)

/-- ITS FALSE NEIGHBOUR: 'it returns false'. Refute it at one input. -/
def strsSlicesWrong : ChangeSpec := { name := "strsSlices", fn := fun _ => fun
  | [d1, d2, d3] => { results := [.lit (.bool false)], args := [d1, d2, d3] }
  | _ => none }
def StrsSlicesWrongFalsely : Prop := strsSlicesRow.holds Tryd.pinned (OpenSpec.ofChange strsSlicesWrong)

/-- 'synthesislaw04.StrsWords': WHATEVER THE INPUT: true; the input reads as it did. -/
def strsWordsSpec : ChangeSpec := { name := "strsWords", fn := fun _ => fun
  | [d1, d2] => { results := [.lit (.bool true)], args := [d1, d2] }
  | _ => none }
def strsWordsRow : OpenClaim := { program := "ytlpmaeemegphiaadoor", sum := "0b44eacb6b7ab5b15438b2a5cc7e76d23b7a858ab72658b1b6ce94d6084d8dce", func := "synthesis/synthesislaw04.StrsWords", spec := "strsWords", inPlace := ["internal/bytealg.IndexByteString", "internal/bytealg.IndexString"], named := ["internal/bytealg.MaxLen", "internal/strconv.uint64pow10", "math/bits.deBruijn32tab", "math/bits.deBruijn64tab"], apart := false, laid := [("math/bits.deBruijn32tab", laid_math_bits_deBruijn32tab), ("math/bits.deBruijn64tab", laid_math_bits_deBruijn64tab), ("internal/strconv.uint64pow10", laid_internal_strconv_uint64pow10)] }
def StrsWordsSaid : Prop := strsWordsRow.holds Tryd.pinned (OpenSpec.ofChange strsWordsSpec)

/-- ITS FALSE NEIGHBOUR: 'it returns false'. Refute it at one input. -/
def strsWordsWrong : ChangeSpec := { name := "strsWords", fn := fun _ => fun
  | [d1, d2] => { results := [.lit (.bool false)], args := [d1, d2] }
  | _ => none }
def StrsWordsWrongFalsely : Prop := strsWordsRow.holds Tryd.pinned (OpenSpec.ofChange strsWordsWrong)

/-- 'synthesislaw04.StrsCases': WHATEVER THE INPUT: true; the input reads as it did. -/
def strsCasesSpec : ChangeSpec := { name := "strsCases", fn := fun _ => fun
  | [d] => { results := [.lit (.bool true)], args := [d] }
  | _ => none }
def strsCasesRow : OpenClaim := { program := "ytlpmaeemegphiaadoor", sum := "0b44eacb6b7ab5b15438b2a5cc7e76d23b7a858ab72658b1b6ce94d6084d8dce", func := "synthesis/synthesislaw04.StrsCases", spec := "strsCases", inPlace := ["internal/bytealg.IndexByteString", "internal/bytealg.IndexString"], named := ["internal/bytealg.MaxLen", "internal/strconv.uint64pow10", "math/bits.deBruijn32tab", "math/bits.deBruijn64tab", "unicode/utf8.first", "unicode/utf8.acceptRanges"], apart := false, laid := [("math/bits.deBruijn32tab", laid_math_bits_deBruijn32tab), ("math/bits.deBruijn64tab", laid_math_bits_deBruijn64tab), ("internal/strconv.uint64pow10", laid_internal_strconv_uint64pow10), ("unicode/utf8.acceptRanges", laid_unicode_utf8_acceptRanges), ("unicode/utf8.first", laid_unicode_utf8_first)] }
def StrsCasesSaid : Prop := strsCasesRow.holds Tryd.pinned (OpenSpec.ofChange strsCasesSpec)

/-- ITS FALSE NEIGHBOUR: 'it returns false'. Refute it at one input. -/
def strsCasesWrong : ChangeSpec := { name := "strsCases", fn := fun _ => fun
  | [d] => { results := [.lit (.bool false)], args := [d] }
  | _ => none }
def StrsCasesWrongFalsely : Prop := strsCasesRow.holds Tryd.pinned (OpenSpec.ofChange strsCasesWrong)

/-- 'synthesislaw04.StrsFinds': WHATEVER THE INPUT: true; the input reads as it did. -/
def strsFindsSpec : ChangeSpec := { name := "strsFinds", fn := fun _ => fun
  | [d1, d2, d3] => { results := [.lit (.bool true)], args := [d1, d2, d3] }
  | _ => none }
def strsFindsRow : OpenClaim := { program := "ytlpmaeemegphiaadoor", sum := "0b44eacb6b7ab5b15438b2a5cc7e76d23b7a858ab72658b1b6ce94d6084d8dce", func := "synthesis/synthesislaw04.StrsFinds", spec := "strsFinds", inPlace := ["internal/bytealg.IndexByteString", "internal/bytealg.IndexString", "internal/abi.NoEscape"], named := ["internal/bytealg.MaxLen", "internal/strconv.uint64pow10", "math/bits.deBruijn32tab", "math/bits.deBruijn64tab"], apart := false, laid := [("math/bits.deBruijn32tab", laid_math_bits_deBruijn32tab), ("math/bits.deBruijn64tab", laid_math_bits_deBruijn64tab), ("internal/strconv.uint64pow10", laid_internal_strconv_uint64pow10)] }
def StrsFindsSaid : Prop := strsFindsRow.holds Tryd.pinned (OpenSpec.ofChange strsFindsSpec)

/-- ITS FALSE NEIGHBOUR: 'it returns false'. Refute it at one input. -/
def strsFindsWrong : ChangeSpec := { name := "strsFinds", fn := fun _ => fun
  | [d1, d2, d3] => { results := [.lit (.bool false)], args := [d1, d2, d3] }
  | _ => none }
def StrsFindsWrongFalsely : Prop := strsFindsRow.holds Tryd.pinned (OpenSpec.ofChange strsFindsWrong)

/-- 'synthesislaw04.StrsRepeats': WHATEVER THE INPUT: true; the input reads as it did. -/
def strsRepeatsSpec : ChangeSpec := { name := "strsRepeats", fn := fun _ => fun
  | [d1, d2] => { results := [.lit (.bool true)], args := [d1, d2] }
  | _ => none }
def strsRepeatsRow : OpenClaim := { program := "ytlpmaeemegphiaadoor", sum := "0b44eacb6b7ab5b15438b2a5cc7e76d23b7a858ab72658b1b6ce94d6084d8dce", func := "synthesis/synthesislaw04.StrsRepeats", spec := "strsRepeats", inPlace := ["internal/bytealg.IndexByteString", "internal/bytealg.IndexString", "internal/abi.NoEscape", "internal/bytealg.MakeNoZero"], named := ["internal/bytealg.MaxLen", "internal/strconv.uint64pow10", "math/bits.deBruijn32tab", "math/bits.deBruijn64tab"], apart := false, laid := [("math/bits.deBruijn32tab", laid_math_bits_deBruijn32tab), ("math/bits.deBruijn64tab", laid_math_bits_deBruijn64tab), ("internal/strconv.uint64pow10", laid_internal_strconv_uint64pow10)] }
def StrsRepeatsSaid : Prop := strsRepeatsRow.holds Tryd.pinned (OpenSpec.ofChange strsRepeatsSpec)

/-- ITS FALSE NEIGHBOUR: 'it returns false'. Refute it at one input. -/
def strsRepeatsWrong : ChangeSpec := { name := "strsRepeats", fn := fun _ => fun
  | [d1, d2] => { results := [.lit (.bool false)], args := [d1, d2] }
  | _ => none }
def StrsRepeatsWrongFalsely : Prop := strsRepeatsRow.holds Tryd.pinned (OpenSpec.ofChange strsRepeatsWrong)

/-- 'synthesislaw04.StrsShows': WHATEVER THE INPUT: true; the input reads as it did. -/
def strsShowsSpec : ChangeSpec := { name := "strsShows", fn := fun _ => fun
  | [d] => { results := [.lit (.bool true)], args := [d] }
  | _ => none }
def strsShowsRow : OpenClaim := { program := "ytlpmaeemegphiaadoor", sum := "0b44eacb6b7ab5b15438b2a5cc7e76d23b7a858ab72658b1b6ce94d6084d8dce", func := "synthesis/synthesislaw04.StrsShows", spec := "strsShows", inPlace := ["internal/bytealg.IndexByteString", "internal/bytealg.IndexString"], named := ["internal/strconv.uint64pow10", "math/bits.deBruijn32tab", "math/bits.deBruijn64tab", "internal/bytealg.MaxLen"], apart := false, laid := [("math/bits.deBruijn32tab", laid_math_bits_deBruijn32tab), ("math/bits.deBruijn64tab", laid_math_bits_deBruijn64tab), ("internal/strconv.uint64pow10", laid_internal_strconv_uint64pow10)] }
def StrsShowsSaid : Prop := strsShowsRow.holds Tryd.pinned (OpenSpec.ofChange strsShowsSpec)

/-- ITS FALSE NEIGHBOUR: 'it returns false'. Refute it at one input. -/
def strsShowsWrong : ChangeSpec := { name := "strsShows", fn := fun _ => fun
  | [d] => { results := [.lit (.bool false)], args := [d] }
  | _ => none }
def StrsShowsWrongFalsely : Prop := strsShowsRow.holds Tryd.pinned (OpenSpec.ofChange strsShowsWrong)

/-- 'synthesislaw04.StrsReads': WHATEVER THE INPUT: true; the input reads as it did. -/
def strsReadsSpec : ChangeSpec := { name := "strsReads", fn := fun _ => fun
  | [d] => { results := [.lit (.bool true)], args := [d] }
  | _ => none }
def strsReadsRow : OpenClaim := { program := "ytlpmaeemegphiaadoor", sum := "0b44eacb6b7ab5b15438b2a5cc7e76d23b7a858ab72658b1b6ce94d6084d8dce", func := "synthesis/synthesislaw04.StrsReads", spec := "strsReads", inPlace := ["internal/bytealg.IndexByteString", "internal/bytealg.IndexString"], named := ["internal/bytealg.MaxLen", "internal/strconv.uint64pow10", "math/bits.deBruijn32tab", "math/bits.deBruijn64tab"], apart := false, laid := [("math/bits.deBruijn32tab", laid_math_bits_deBruijn32tab), ("math/bits.deBruijn64tab", laid_math_bits_deBruijn64tab), ("internal/strconv.uint64pow10", laid_internal_strconv_uint64pow10)] }
def StrsReadsSaid : Prop := strsReadsRow.holds Tryd.pinned (OpenSpec.ofChange strsReadsSpec)

/-- ITS FALSE NEIGHBOUR: 'it returns false'. Refute it at one input. -/
def strsReadsWrong : ChangeSpec := { name := "strsReads", fn := fun _ => fun
  | [d] => { results := [.lit (.bool false)], args := [d] }
  | _ => none }
def StrsReadsWrongFalsely : Prop := strsReadsRow.holds Tryd.pinned (OpenSpec.ofChange strsReadsWrong)

/-- 'synthesislaw04.StrsSplits': WHATEVER THE INPUT: true; the input reads as it did. -/
def strsSplitsSpec : ChangeSpec := { name := "strsSplits", fn := fun _ => fun
  | [d] => { results := [.lit (.bool true)], args := [d] }
  | _ => none }
def strsSplitsRow : OpenClaim := { program := "ytlpmaeemegphiaadoor", sum := "0b44eacb6b7ab5b15438b2a5cc7e76d23b7a858ab72658b1b6ce94d6084d8dce", func := "synthesis/synthesislaw04.StrsSplits", spec := "strsSplits", inPlace := ["internal/bytealg.IndexByteString", "internal/bytealg.IndexString"], named := ["internal/bytealg.MaxLen", "internal/strconv.uint64pow10", "math/bits.deBruijn32tab", "math/bits.deBruijn64tab"], apart := false, laid := [("math/bits.deBruijn32tab", laid_math_bits_deBruijn32tab), ("math/bits.deBruijn64tab", laid_math_bits_deBruijn64tab), ("internal/strconv.uint64pow10", laid_internal_strconv_uint64pow10)] }
def StrsSplitsSaid : Prop := strsSplitsRow.holds Tryd.pinned (OpenSpec.ofChange strsSplitsSpec)

/-- ITS FALSE NEIGHBOUR: 'it returns false'. Refute it at one input. -/
def strsSplitsWrong : ChangeSpec := { name := "strsSplits", fn := fun _ => fun
  | [d] => { results := [.lit (.bool false)], args := [d] }
  | _ => none }
def StrsSplitsWrongFalsely : Prop := strsSplitsRow.holds Tryd.pinned (OpenSpec.ofChange strsSplitsWrong)

/-- 'synthesislaw04.StrsKeeps': WHATEVER THE INPUT: true; the input reads as it did. -/
def strsKeepsSpec : ChangeSpec := { name := "strsKeeps", fn := fun _ => fun
  | [d1, d2] => { results := [.lit (.bool true)], args := [d1, d2] }
  | _ => none }
def strsKeepsRow : OpenClaim := { program := "ytlpmaeemegphiaadoor", sum := "0b44eacb6b7ab5b15438b2a5cc7e76d23b7a858ab72658b1b6ce94d6084d8dce", func := "synthesis/synthesislaw04.StrsKeeps", spec := "strsKeeps", inPlace := ["internal/bytealg.IndexByteString", "internal/bytealg.IndexString", "internal/abi.NoEscape"], named := ["internal/bytealg.MaxLen", "internal/strconv.uint64pow10", "math/bits.deBruijn32tab", "math/bits.deBruijn64tab"], apart := false, laid := [("math/bits.deBruijn32tab", laid_math_bits_deBruijn32tab), ("math/bits.deBruijn64tab", laid_math_bits_deBruijn64tab), ("internal/strconv.uint64pow10", laid_internal_strconv_uint64pow10)] }
def StrsKeepsSaid : Prop := strsKeepsRow.holds Tryd.pinned (OpenSpec.ofChange strsKeepsSpec)

/-- ITS FALSE NEIGHBOUR: 'it returns false'. Refute it at one input. -/
def strsKeepsWrong : ChangeSpec := { name := "strsKeeps", fn := fun _ => fun
  | [d1, d2] => { results := [.lit (.bool false)], args := [d1, d2] }
  | _ => none }
def StrsKeepsWrongFalsely : Prop := strsKeepsRow.holds Tryd.pinned (OpenSpec.ofChange strsKeepsWrong)

/- THE SECOND FORM. 'bulk': how many values and letters a reading holds, each counted each time it is reached (what is shared counts as often as it is met; a slice's spare places count too). A statement '..UptoSaid' is the law's where the arguments, and the package variables that the reading takes, are together of bulk at most 1048576: NARROWER than '..Said'. Prove '..Said' where nothing that the law and all that it calls make is longer than what came in: it says more and counts as full. Else prove '..UptoSaid'. A law counts once. -/
mutual
def uptoBulk {H : Type} : DataW H → Nat
  | .lit (.string bytes) => bytes.length + 1
  | .lit _ => 1
  | .nil => 1
  | .ptr d => uptoBulk d + 1
  | .slice elems spare => uptoBulkAll elems + uptoBulkAll spare + 1
  | .agg parts => uptoBulkAll parts + 1
  | .iface _ d => uptoBulk d + 1
  | .map entries => uptoBulkEntries entries + 1
  | .held _ => 1
def uptoBulkAll {H : Type} : List (DataW H) → Nat
  | [] => 0
  | d :: r => uptoBulk d + uptoBulkAll r
def uptoBulkEntries {H : Type} : List (Lit × DataW H) → Nat
  | [] => 0
  | x :: r => uptoBulkEntry x + uptoBulkEntries r
def uptoBulkEntry {H : Type} : Lit × DataW H → Nat
  | (.string bytes, d) => bytes.length + uptoBulk d + 1
  | (_, d) => uptoBulk d + 1
 end
def uptoSmall : (H : Type) → List (DataW H) → Bool := fun _ ds => decide (uptoBulkAll ds ≤ 1048576)
def OpenSpec.upto (s : _root_.Go.ChangeSpec) : _root_.Go.OpenSpec := { _root_.Go.OpenSpec.ofChange s with cond := some uptoSmall }

/-- 'synthesislaw04.StrsSlices', WHERE WHAT IT READS IS OF BULK AT MOST 1048576: true; the input reads as it did. -/
def strsSlicesUptoRow : OpenClaim := { program := "ytlpmaeemegphiaadoor", sum := "0b44eacb6b7ab5b15438b2a5cc7e76d23b7a858ab72658b1b6ce94d6084d8dce", func := "synthesis/synthesislaw04.StrsSlices", spec := "strsSlices", inPlace := ["internal/bytealg.IndexByteString", "internal/bytealg.IndexString"], named := ["internal/bytealg.MaxLen", "internal/strconv.uint64pow10", "math/bits.deBruijn32tab", "math/bits.deBruijn64tab"], apart := false, laid := [("math/bits.deBruijn32tab", laid_math_bits_deBruijn32tab), ("math/bits.deBruijn64tab", laid_math_bits_deBruijn64tab), ("internal/strconv.uint64pow10", laid_internal_strconv_uint64pow10)], narrowed := true }
def StrsSlicesUptoSaid : Prop := strsSlicesUptoRow.holds Tryd.pinned (OpenSpec.upto strsSlicesSpec)

/-- 'synthesislaw04.StrsWords', WHERE WHAT IT READS IS OF BULK AT MOST 1048576: true; the input reads as it did. -/
def strsWordsUptoRow : OpenClaim := { program := "ytlpmaeemegphiaadoor", sum := "0b44eacb6b7ab5b15438b2a5cc7e76d23b7a858ab72658b1b6ce94d6084d8dce", func := "synthesis/synthesislaw04.StrsWords", spec := "strsWords", inPlace := ["internal/bytealg.IndexByteString", "internal/bytealg.IndexString"], named := ["internal/bytealg.MaxLen", "internal/strconv.uint64pow10", "math/bits.deBruijn32tab", "math/bits.deBruijn64tab"], apart := false, laid := [("math/bits.deBruijn32tab", laid_math_bits_deBruijn32tab), ("math/bits.deBruijn64tab", laid_math_bits_deBruijn64tab), ("internal/strconv.uint64pow10", laid_internal_strconv_uint64pow10)], narrowed := true }
def StrsWordsUptoSaid : Prop := strsWordsUptoRow.holds Tryd.pinned (OpenSpec.upto strsWordsSpec)

/-- 'synthesislaw04.StrsCases', WHERE WHAT IT READS IS OF BULK AT MOST 1048576: true; the input reads as it did. -/
def strsCasesUptoRow : OpenClaim := { program := "ytlpmaeemegphiaadoor", sum := "0b44eacb6b7ab5b15438b2a5cc7e76d23b7a858ab72658b1b6ce94d6084d8dce", func := "synthesis/synthesislaw04.StrsCases", spec := "strsCases", inPlace := ["internal/bytealg.IndexByteString", "internal/bytealg.IndexString"], named := ["internal/bytealg.MaxLen", "internal/strconv.uint64pow10", "math/bits.deBruijn32tab", "math/bits.deBruijn64tab", "unicode/utf8.first", "unicode/utf8.acceptRanges"], apart := false, laid := [("math/bits.deBruijn32tab", laid_math_bits_deBruijn32tab), ("math/bits.deBruijn64tab", laid_math_bits_deBruijn64tab), ("internal/strconv.uint64pow10", laid_internal_strconv_uint64pow10), ("unicode/utf8.acceptRanges", laid_unicode_utf8_acceptRanges), ("unicode/utf8.first", laid_unicode_utf8_first)], narrowed := true }
def StrsCasesUptoSaid : Prop := strsCasesUptoRow.holds Tryd.pinned (OpenSpec.upto strsCasesSpec)

/-- 'synthesislaw04.StrsFinds', WHERE WHAT IT READS IS OF BULK AT MOST 1048576: true; the input reads as it did. -/
def strsFindsUptoRow : OpenClaim := { program := "ytlpmaeemegphiaadoor", sum := "0b44eacb6b7ab5b15438b2a5cc7e76d23b7a858ab72658b1b6ce94d6084d8dce", func := "synthesis/synthesislaw04.StrsFinds", spec := "strsFinds", inPlace := ["internal/bytealg.IndexByteString", "internal/bytealg.IndexString", "internal/abi.NoEscape"], named := ["internal/bytealg.MaxLen", "internal/strconv.uint64pow10", "math/bits.deBruijn32tab", "math/bits.deBruijn64tab"], apart := false, laid := [("math/bits.deBruijn32tab", laid_math_bits_deBruijn32tab), ("math/bits.deBruijn64tab", laid_math_bits_deBruijn64tab), ("internal/strconv.uint64pow10", laid_internal_strconv_uint64pow10)], narrowed := true }
def StrsFindsUptoSaid : Prop := strsFindsUptoRow.holds Tryd.pinned (OpenSpec.upto strsFindsSpec)

/-- 'synthesislaw04.StrsRepeats', WHERE WHAT IT READS IS OF BULK AT MOST 1048576: true; the input reads as it did. -/
def strsRepeatsUptoRow : OpenClaim := { program := "ytlpmaeemegphiaadoor", sum := "0b44eacb6b7ab5b15438b2a5cc7e76d23b7a858ab72658b1b6ce94d6084d8dce", func := "synthesis/synthesislaw04.StrsRepeats", spec := "strsRepeats", inPlace := ["internal/bytealg.IndexByteString", "internal/bytealg.IndexString", "internal/abi.NoEscape", "internal/bytealg.MakeNoZero"], named := ["internal/bytealg.MaxLen", "internal/strconv.uint64pow10", "math/bits.deBruijn32tab", "math/bits.deBruijn64tab"], apart := false, laid := [("math/bits.deBruijn32tab", laid_math_bits_deBruijn32tab), ("math/bits.deBruijn64tab", laid_math_bits_deBruijn64tab), ("internal/strconv.uint64pow10", laid_internal_strconv_uint64pow10)], narrowed := true }
def StrsRepeatsUptoSaid : Prop := strsRepeatsUptoRow.holds Tryd.pinned (OpenSpec.upto strsRepeatsSpec)

/-- 'synthesislaw04.StrsShows', WHERE WHAT IT READS IS OF BULK AT MOST 1048576: true; the input reads as it did. -/
def strsShowsUptoRow : OpenClaim := { program := "ytlpmaeemegphiaadoor", sum := "0b44eacb6b7ab5b15438b2a5cc7e76d23b7a858ab72658b1b6ce94d6084d8dce", func := "synthesis/synthesislaw04.StrsShows", spec := "strsShows", inPlace := ["internal/bytealg.IndexByteString", "internal/bytealg.IndexString"], named := ["internal/strconv.uint64pow10", "math/bits.deBruijn32tab", "math/bits.deBruijn64tab", "internal/bytealg.MaxLen"], apart := false, laid := [("math/bits.deBruijn32tab", laid_math_bits_deBruijn32tab), ("math/bits.deBruijn64tab", laid_math_bits_deBruijn64tab), ("internal/strconv.uint64pow10", laid_internal_strconv_uint64pow10)], narrowed := true }
def StrsShowsUptoSaid : Prop := strsShowsUptoRow.holds Tryd.pinned (OpenSpec.upto strsShowsSpec)

/-- 'synthesislaw04.StrsReads', WHERE WHAT IT READS IS OF BULK AT MOST 1048576: true; the input reads as it did. -/
def strsReadsUptoRow : OpenClaim := { program := "ytlpmaeemegphiaadoor", sum := "0b44eacb6b7ab5b15438b2a5cc7e76d23b7a858ab72658b1b6ce94d6084d8dce", func := "synthesis/synthesislaw04.StrsReads", spec := "strsReads", inPlace := ["internal/bytealg.IndexByteString", "internal/bytealg.IndexString"], named := ["internal/bytealg.MaxLen", "internal/strconv.uint64pow10", "math/bits.deBruijn32tab", "math/bits.deBruijn64tab"], apart := false, laid := [("math/bits.deBruijn32tab", laid_math_bits_deBruijn32tab), ("math/bits.deBruijn64tab", laid_math_bits_deBruijn64tab), ("internal/strconv.uint64pow10", laid_internal_strconv_uint64pow10)], narrowed := true }
def StrsReadsUptoSaid : Prop := strsReadsUptoRow.holds Tryd.pinned (OpenSpec.upto strsReadsSpec)

/-- 'synthesislaw04.StrsSplits', WHERE WHAT IT READS IS OF BULK AT MOST 1048576: true; the input reads as it did. -/
def strsSplitsUptoRow : OpenClaim := { program := "ytlpmaeemegphiaadoor", sum := "0b44eacb6b7ab5b15438b2a5cc7e76d23b7a858ab72658b1b6ce94d6084d8dce", func := "synthesis/synthesislaw04.StrsSplits", spec := "strsSplits", inPlace := ["internal/bytealg.IndexByteString", "internal/bytealg.IndexString"], named := ["internal/bytealg.MaxLen", "internal/strconv.uint64pow10", "math/bits.deBruijn32tab", "math/bits.deBruijn64tab"], apart := false, laid := [("math/bits.deBruijn32tab", laid_math_bits_deBruijn32tab), ("math/bits.deBruijn64tab", laid_math_bits_deBruijn64tab), ("internal/strconv.uint64pow10", laid_internal_strconv_uint64pow10)], narrowed := true }
def StrsSplitsUptoSaid : Prop := strsSplitsUptoRow.holds Tryd.pinned (OpenSpec.upto strsSplitsSpec)

/-- 'synthesislaw04.StrsKeeps', WHERE WHAT IT READS IS OF BULK AT MOST 1048576: true; the input reads as it did. -/
def strsKeepsUptoRow : OpenClaim := { program := "ytlpmaeemegphiaadoor", sum := "0b44eacb6b7ab5b15438b2a5cc7e76d23b7a858ab72658b1b6ce94d6084d8dce", func := "synthesis/synthesislaw04.StrsKeeps", spec := "strsKeeps", inPlace := ["internal/bytealg.IndexByteString", "internal/bytealg.IndexString", "internal/abi.NoEscape"], named := ["internal/bytealg.MaxLen", "internal/strconv.uint64pow10", "math/bits.deBruijn32tab", "math/bits.deBruijn64tab"], apart := false, laid := [("math/bits.deBruijn32tab", laid_math_bits_deBruijn32tab), ("math/bits.deBruijn64tab", laid_math_bits_deBruijn64tab), ("internal/strconv.uint64pow10", laid_internal_strconv_uint64pow10)], narrowed := true }
def StrsKeepsUptoSaid : Prop := strsKeepsUptoRow.holds Tryd.pinned (OpenSpec.upto strsKeepsSpec)

end Rows
end Go.Proofs.YtlpmaeemegphiaaDoor
