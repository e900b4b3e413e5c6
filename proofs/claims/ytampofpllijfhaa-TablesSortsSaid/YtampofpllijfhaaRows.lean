/-
  No cell of these rows narrows 'for every input' (looked for: loops, veiled, ifaces, maps, wideKeys, modest, calm, conditions, laid).
  DERIVED. THE GIVEN ROWS OF THIS SEAT. 8 by the template 'for every input the law returns true; each argument reads behind the call as it read before'; 0 by the template 'total and deterministic' (their statements: YtampofpllijfhaaTotals.lean).
  GIVEN WITH THE SEED: the statements are not yours to turn. If you find one false, say at which input.
  Laid BY PROGRAM, IN A SANDBOX (cutbox-rows.mjs): the forced cells as the released guide's own fill.sh prints them over the translation 3d5d7b77042884b4… (all of the seat's roots in one cut). By AI agents, Wed Nov 11 2026. No macro, syntax, notation, axiom, sorry.
-/
import Derived.Test.YtampofpllijfhaaChecked
import GoSem.Claim
import GoSem.ClaimJoined
import GoSem.ClaimMapViews
import Derived.JoinedTies
import Derived.KernelRfl
namespace Go.Proofs.Ytampofpllijfhaa
/- THE CELL 'sum', in the pinned program and in every row, IS THE sha256 OF THE DUMP (.gsa) THAT YtampofpllijfhaaProg.lean LOADS. Nothing in Lean hashes anything: it is a label: what it is worth is what the hold of that sum in a sandbox is worth. -/
noncomputable def Try.pinned : Pinned := { name := "ytampofpllijfhaa", sum := "3d5d7b77042884b40b6803c5394a7d2b299029ca11f9ab1c9866a3195ef1344f", checked := Try.checked }
namespace Rows
def none {H : Type} : Left H := { results := [], args := [] }

/-- 'synthesislaw08.TablesChecks': WHATEVER THE INPUT: true; the input reads as it did. -/
def tablesChecksSpec : ChangeSpec := { name := "tablesChecks", fn := fun _ => fun
  | [d] => { results := [.lit (.bool true)], args := [d] }
  | _ => none }
def tablesChecksRow : OpenClaim := { program := "ytampofpllijfhaa", sum := "3d5d7b77042884b40b6803c5394a7d2b299029ca11f9ab1c9866a3195ef1344f", func := "synthesis/synthesislaw08.TablesChecks", spec := "tablesChecks", inPlace := ["internal/bytealg.IndexByteString", "internal/bytealg.IndexString"], unfollowed := true, recurses := true, named := ["internal/bytealg.MaxLen"], plainKeys := false, apart := false }
def TablesChecksSaid : Prop := tablesChecksRow.holds Try.pinned (OpenSpec.ofChange tablesChecksSpec)

/-- ITS FALSE NEIGHBOUR: 'it returns false'. Refute it at one input. -/
def tablesChecksWrong : ChangeSpec := { name := "tablesChecks", fn := fun _ => fun
  | [d] => { results := [.lit (.bool false)], args := [d] }
  | _ => none }
def TablesChecksWrongFalsely : Prop := tablesChecksRow.holds Try.pinned (OpenSpec.ofChange tablesChecksWrong)

/-- 'synthesislaw08.TablesParts': WHATEVER THE INPUT: true; the input reads as it did. -/
def tablesPartsSpec : ChangeSpec := { name := "tablesParts", fn := fun _ => fun
  | [d1, d2, d3] => { results := [.lit (.bool true)], args := [d1, d2, d3] }
  | _ => none }
def tablesPartsRow : OpenClaim := { program := "ytampofpllijfhaa", sum := "3d5d7b77042884b40b6803c5394a7d2b299029ca11f9ab1c9866a3195ef1344f", func := "synthesis/synthesislaw08.TablesParts", spec := "tablesParts", inPlace := ["internal/bytealg.IndexByteString", "internal/bytealg.IndexString"], unfollowed := true, recurses := true, named := ["internal/bytealg.MaxLen"], plainKeys := false, apart := false }
def TablesPartsSaid : Prop := tablesPartsRow.holds Try.pinned (OpenSpec.ofChange tablesPartsSpec)

/-- ITS FALSE NEIGHBOUR: 'it returns false'. Refute it at one input. -/
def tablesPartsWrong : ChangeSpec := { name := "tablesParts", fn := fun _ => fun
  | [d1, d2, d3] => { results := [.lit (.bool false)], args := [d1, d2, d3] }
  | _ => none }
def TablesPartsWrongFalsely : Prop := tablesPartsRow.holds Try.pinned (OpenSpec.ofChange tablesPartsWrong)

/-- 'synthesislaw08.TablesDrops': WHATEVER THE INPUT: true; the input reads as it did. -/
def tablesDropsSpec : ChangeSpec := { name := "tablesDrops", fn := fun _ => fun
  | [d1, d2] => { results := [.lit (.bool true)], args := [d1, d2] }
  | _ => none }
def tablesDropsRow : OpenClaim := { program := "ytampofpllijfhaa", sum := "3d5d7b77042884b40b6803c5394a7d2b299029ca11f9ab1c9866a3195ef1344f", func := "synthesis/synthesislaw08.TablesDrops", spec := "tablesDrops", inPlace := ["internal/bytealg.IndexByteString", "internal/bytealg.IndexString", "internal/bytealg.abigen_runtime_cmpstring"], unfollowed := true, recurses := true, named := ["internal/bytealg.MaxLen"], plainKeys := false, apart := false }
def TablesDropsSaid : Prop := tablesDropsRow.holds Try.pinned (OpenSpec.ofChange tablesDropsSpec)

/-- ITS FALSE NEIGHBOUR: 'it returns false'. Refute it at one input. -/
def tablesDropsWrong : ChangeSpec := { name := "tablesDrops", fn := fun _ => fun
  | [d1, d2] => { results := [.lit (.bool false)], args := [d1, d2] }
  | _ => none }
def TablesDropsWrongFalsely : Prop := tablesDropsRow.holds Try.pinned (OpenSpec.ofChange tablesDropsWrong)

/-- 'synthesislaw08.TablesPivots': WHATEVER THE INPUT: true; the input reads as it did. -/
def tablesPivotsSpec : ChangeSpec := { name := "tablesPivots", fn := fun _ => fun
  | [d1, d2] => { results := [.lit (.bool true)], args := [d1, d2] }
  | _ => none }
def tablesPivotsRow : OpenClaim := { program := "ytampofpllijfhaa", sum := "3d5d7b77042884b40b6803c5394a7d2b299029ca11f9ab1c9866a3195ef1344f", func := "synthesis/synthesislaw08.TablesPivots", spec := "tablesPivots", inPlace := ["internal/bytealg.IndexByteString", "internal/bytealg.IndexString"], unfollowed := true, recurses := true, named := ["internal/bytealg.MaxLen"], plainKeys := false, apart := false }
def TablesPivotsSaid : Prop := tablesPivotsRow.holds Try.pinned (OpenSpec.ofChange tablesPivotsSpec)

/-- ITS FALSE NEIGHBOUR: 'it returns false'. Refute it at one input. -/
def tablesPivotsWrong : ChangeSpec := { name := "tablesPivots", fn := fun _ => fun
  | [d1, d2] => { results := [.lit (.bool false)], args := [d1, d2] }
  | _ => none }
def TablesPivotsWrongFalsely : Prop := tablesPivotsRow.holds Try.pinned (OpenSpec.ofChange tablesPivotsWrong)

/-- 'synthesislaw08.TablesJoins': WHATEVER THE INPUT: true; the input reads as it did. -/
def tablesJoinsSpec : ChangeSpec := { name := "tablesJoins", fn := fun _ => fun
  | [d1, d2] => { results := [.lit (.bool true)], args := [d1, d2] }
  | _ => none }
def tablesJoinsRow : OpenClaim := { program := "ytampofpllijfhaa", sum := "3d5d7b77042884b40b6803c5394a7d2b299029ca11f9ab1c9866a3195ef1344f", func := "synthesis/synthesislaw08.TablesJoins", spec := "tablesJoins", inPlace := ["internal/bytealg.IndexByteString", "internal/bytealg.IndexString"], unfollowed := true, recurses := true, named := ["internal/bytealg.MaxLen"], plainKeys := false, apart := false }
def TablesJoinsSaid : Prop := tablesJoinsRow.holds Try.pinned (OpenSpec.ofChange tablesJoinsSpec)

/-- ITS FALSE NEIGHBOUR: 'it returns false'. Refute it at one input. -/
def tablesJoinsWrong : ChangeSpec := { name := "tablesJoins", fn := fun _ => fun
  | [d1, d2] => { results := [.lit (.bool false)], args := [d1, d2] }
  | _ => none }
def TablesJoinsWrongFalsely : Prop := tablesJoinsRow.holds Try.pinned (OpenSpec.ofChange tablesJoinsWrong)

/-- 'synthesislaw08.TablesSplits': WHATEVER THE INPUT: true; the input reads as it did. -/
def tablesSplitsSpec : ChangeSpec := { name := "tablesSplits", fn := fun _ => fun
  | [d1, d2, d3] => { results := [.lit (.bool true)], args := [d1, d2, d3] }
  | _ => none }
def tablesSplitsRow : OpenClaim := { program := "ytampofpllijfhaa", sum := "3d5d7b77042884b40b6803c5394a7d2b299029ca11f9ab1c9866a3195ef1344f", func := "synthesis/synthesislaw08.TablesSplits", spec := "tablesSplits", inPlace := ["internal/bytealg.IndexByteString", "internal/bytealg.IndexString"], unfollowed := true, recurses := true, named := ["internal/bytealg.MaxLen"], plainKeys := false, apart := false }
def TablesSplitsSaid : Prop := tablesSplitsRow.holds Try.pinned (OpenSpec.ofChange tablesSplitsSpec)

/-- ITS FALSE NEIGHBOUR: 'it returns false'. Refute it at one input. -/
def tablesSplitsWrong : ChangeSpec := { name := "tablesSplits", fn := fun _ => fun
  | [d1, d2, d3] => { results := [.lit (.bool false)], args := [d1, d2, d3] }
  | _ => none }
def TablesSplitsWrongFalsely : Prop := tablesSplitsRow.holds Try.pinned (OpenSpec.ofChange tablesSplitsWrong)

/-- 'synthesislaw08.TablesBack': WHATEVER THE INPUT: true; the input reads as it did. -/
def tablesBackSpec : ChangeSpec := { name := "tablesBack", fn := fun _ => fun
  | [d] => { results := [.lit (.bool true)], args := [d] }
  | _ => none }
def tablesBackRow : OpenClaim := { program := "ytampofpllijfhaa", sum := "3d5d7b77042884b40b6803c5394a7d2b299029ca11f9ab1c9866a3195ef1344f", func := "synthesis/synthesislaw08.TablesBack", spec := "tablesBack", inPlace := ["internal/bytealg.IndexByteString", "internal/bytealg.IndexString"], unfollowed := true, recurses := true, named := ["internal/bytealg.MaxLen"], plainKeys := false, apart := false }
def TablesBackSaid : Prop := tablesBackRow.holds Try.pinned (OpenSpec.ofChange tablesBackSpec)

/-- ITS FALSE NEIGHBOUR: 'it returns false'. Refute it at one input. -/
def tablesBackWrong : ChangeSpec := { name := "tablesBack", fn := fun _ => fun
  | [d] => { results := [.lit (.bool false)], args := [d] }
  | _ => none }
def TablesBackWrongFalsely : Prop := tablesBackRow.holds Try.pinned (OpenSpec.ofChange tablesBackWrong)

/-- 'synthesislaw08.TablesSorts': WHATEVER THE INPUT: true; the input reads as it did. -/
def tablesSortsSpec : ChangeSpec := { name := "tablesSorts", fn := fun _ => fun
  | [d1, d2, d3] => { results := [.lit (.bool true)], args := [d1, d2, d3] }
  | _ => none }
def tablesSortsRow : OpenClaim := { program := "ytampofpllijfhaa", sum := "3d5d7b77042884b40b6803c5394a7d2b299029ca11f9ab1c9866a3195ef1344f", func := "synthesis/synthesislaw08.TablesSorts", spec := "tablesSorts", inPlace := ["internal/bytealg.IndexByteString", "internal/bytealg.IndexString", "internal/bytealg.abigen_runtime_cmpstring"], unfollowed := true, recurses := true, named := ["internal/bytealg.MaxLen"], plainKeys := false, apart := false }
def TablesSortsSaid : Prop := tablesSortsRow.holds Try.pinned (OpenSpec.ofChange tablesSortsSpec)

/-- ITS FALSE NEIGHBOUR: 'it returns false'. Refute it at one input. -/
def tablesSortsWrong : ChangeSpec := { name := "tablesSorts", fn := fun _ => fun
  | [d1, d2, d3] => { results := [.lit (.bool false)], args := [d1, d2, d3] }
  | _ => none }
def TablesSortsWrongFalsely : Prop := tablesSortsRow.holds Try.pinned (OpenSpec.ofChange tablesSortsWrong)

/- THE SECOND FORM. 'bulk': how many values and letters a reading holds, each counted each time it is reached (what is shared counts as often as it is met; a slice's spare places count too). A statement '..UptoSaid' is the law's where the arguments, and the package variables that the reading takes, are together of bulk at most 1048576: NARROWER than '..Said'. Prove '..Said' where nothing that the law and all that it calls make is longer than what came in: it says more and counts as full. Else prove '..UptoSaid'. A law counts once. -/
mutual
def uptoBulk {H : Type} : DataW H → Nat
  | .lit (.string bytes) => bytes.length + 1
  | .lit _ => 1
  | .nil => 1
  | .ptr d => uptoBulk d + 1
  | .slice elems spare => uptoBulkAll elems + uptoBulkAll spare + 1
  | .agg parts => uptoBulkAll parts + 1
  | .iface _ d => uptoBulk d + 1
  | .map entries => uptoBulkEntries entries + 1
  | .held _ => 1
def uptoBulkAll {H : Type} : List (DataW H) → Nat
  | [] => 0
  | d :: r => uptoBulk d + uptoBulkAll r
def uptoBulkEntries {H : Type} : List (Lit × DataW H) → Nat
  | [] => 0
  | x :: r => uptoBulkEntry x + uptoBulkEntries r
def uptoBulkEntry {H : Type} : Lit × DataW H → Nat
  | (.string bytes, d) => bytes.length + uptoBulk d + 1
  | (_, d) => uptoBulk d + 1
 end
def uptoSmall : (H : Type) → List (DataW H) → Bool := fun _ ds => decide (uptoBulkAll ds ≤ 1048576)
def OpenSpec.upto (s : _root_.Go.ChangeSpec) : _root_.Go.OpenSpec := { _root_.Go.OpenSpec.ofChange s with cond := some uptoSmall }

/-- 'synthesislaw08.TablesChecks', WHERE WHAT IT READS IS OF BULK AT MOST 1048576: true; the input reads as it did. -/
def tablesChecksUptoRow : OpenClaim := { program := "ytampofpllijfhaa", sum := "3d5d7b77042884b40b6803c5394a7d2b299029ca11f9ab1c9866a3195ef1344f", func := "synthesis/synthesislaw08.TablesChecks", spec := "tablesChecks", inPlace := ["internal/bytealg.IndexByteString", "internal/bytealg.IndexString"], unfollowed := true, recurses := true, named := ["internal/bytealg.MaxLen"], plainKeys := false, apart := false, narrowed := true }
def TablesChecksUptoSaid : Prop := tablesChecksUptoRow.holds Try.pinned (OpenSpec.upto tablesChecksSpec)

/-- 'synthesislaw08.TablesParts', WHERE WHAT IT READS IS OF BULK AT MOST 1048576: true; the input reads as it did. -/
def tablesPartsUptoRow : OpenClaim := { program := "ytampofpllijfhaa", sum := "3d5d7b77042884b40b6803c5394a7d2b299029ca11f9ab1c9866a3195ef1344f", func := "synthesis/synthesislaw08.TablesParts", spec := "tablesParts", inPlace := ["internal/bytealg.IndexByteString", "internal/bytealg.IndexString"], unfollowed := true, recurses := true, named := ["internal/bytealg.MaxLen"], plainKeys := false, apart := false, narrowed := true }
def TablesPartsUptoSaid : Prop := tablesPartsUptoRow.holds Try.pinned (OpenSpec.upto tablesPartsSpec)

/-- 'synthesislaw08.TablesDrops', WHERE WHAT IT READS IS OF BULK AT MOST 1048576: true; the input reads as it did. -/
def tablesDropsUptoRow : OpenClaim := { program := "ytampofpllijfhaa", sum := "3d5d7b77042884b40b6803c5394a7d2b299029ca11f9ab1c9866a3195ef1344f", func := "synthesis/synthesislaw08.TablesDrops", spec := "tablesDrops", inPlace := ["internal/bytealg.IndexByteString", "internal/bytealg.IndexString", "internal/bytealg.abigen_runtime_cmpstring"], unfollowed := true, recurses := true, named := ["internal/bytealg.MaxLen"], plainKeys := false, apart := false, narrowed := true }
def TablesDropsUptoSaid : Prop := tablesDropsUptoRow.holds Try.pinned (OpenSpec.upto tablesDropsSpec)

/-- 'synthesislaw08.TablesPivots', WHERE WHAT IT READS IS OF BULK AT MOST 1048576: true; the input reads as it did. -/
def tablesPivotsUptoRow : OpenClaim := { program := "ytampofpllijfhaa", sum := "3d5d7b77042884b40b6803c5394a7d2b299029ca11f9ab1c9866a3195ef1344f", func := "synthesis/synthesislaw08.TablesPivots", spec := "tablesPivots", inPlace := ["internal/bytealg.IndexByteString", "internal/bytealg.IndexString"], unfollowed := true, recurses := true, named := ["internal/bytealg.MaxLen"], plainKeys := false, apart := false, narrowed := true }
def TablesPivotsUptoSaid : Prop := tablesPivotsUptoRow.holds Try.pinned (OpenSpec.upto tablesPivotsSpec)

/-- 'synthesislaw08.TablesJoins', WHERE WHAT IT READS IS OF BULK AT MOST 1048576: true; the input reads as it did. -/
def tablesJoinsUptoRow : OpenClaim := { program := "ytampofpllijfhaa", sum := "3d5d7b77042884b40b6803c5394a7d2b299029ca11f9ab1c9866a3195ef1344f", func := "synthesis/synthesislaw08.TablesJoins", spec := "tablesJoins", inPlace := ["internal/bytealg.IndexByteString", "internal/bytealg.IndexString"], unfollowed := true, recurses := true, named := ["internal/bytealg.MaxLen"], plainKeys := false, apart := false, narrowed := true }
def TablesJoinsUptoSaid : Prop := tablesJoinsUptoRow.holds Try.pinned (OpenSpec.upto tablesJoinsSpec)

/-- 'synthesislaw08.TablesSplits', WHERE WHAT IT READS IS OF BULK AT MOST 1048576: true; the input reads as it did. -/
def tablesSplitsUptoRow : OpenClaim := { program := "ytampofpllijfhaa", sum := "3d5d7b77042884b40b6803c5394a7d2b299029ca11f9ab1c9866a3195ef1344f", func := "synthesis/synthesislaw08.TablesSplits", spec := "tablesSplits", inPlace := ["internal/bytealg.IndexByteString", "internal/bytealg.IndexString"], unfollowed := true, recurses := true, named := ["internal/bytealg.MaxLen"], plainKeys := false, apart := false, narrowed := true }
def TablesSplitsUptoSaid : Prop := tablesSplitsUptoRow.holds Try.pinned (OpenSpec.upto tablesSplitsSpec)

/-- 'synthesislaw08.TablesBack', WHERE WHAT IT READS IS OF BULK AT MOST 1048576: true; the input reads as it did. -/
def tablesBackUptoRow : OpenClaim := { program := "ytampofpllijfhaa", sum := "3d5d7b77042884b40b6803c5394a7d2b299029ca11f9ab1c9866a3195ef1344f", func := "synthesis/synthesislaw08.TablesBack", spec := "tablesBack", inPlace := ["internal/bytealg.IndexByteString", "internal/bytealg.IndexString"], unfollowed := true, recurses := true, named := ["internal/bytealg.MaxLen"], plainKeys := false, apart := false, narrowed := true }
def TablesBackUptoSaid : Prop := tablesBackUptoRow.holds Try.pinned (OpenSpec.upto tablesBackSpec)

/-- 'synthesislaw08.TablesSorts', WHERE WHAT IT READS IS OF BULK AT MOST 1048576: true; the input reads as it did. -/
def tablesSortsUptoRow : OpenClaim := { program := "ytampofpllijfhaa", sum := "3d5d7b77042884b40b6803c5394a7d2b299029ca11f9ab1c9866a3195ef1344f", func := "synthesis/synthesislaw08.TablesSorts", spec := "tablesSorts", inPlace := ["internal/bytealg.IndexByteString", "internal/bytealg.IndexString", "internal/bytealg.abigen_runtime_cmpstring"], unfollowed := true, recurses := true, named := ["internal/bytealg.MaxLen"], plainKeys := false, apart := false, narrowed := true }
def TablesSortsUptoSaid : Prop := tablesSortsUptoRow.holds Try.pinned (OpenSpec.upto tablesSortsSpec)

end Rows
end Go.Proofs.Ytampofpllijfhaa
