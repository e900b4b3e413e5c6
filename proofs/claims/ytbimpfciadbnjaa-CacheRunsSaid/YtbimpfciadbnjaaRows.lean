/-
  NARROWER THAN 'FOR EVERY INPUT', by the rows' own cells (each row's printed sentence says how): CacheRuns: loops · CacheBounds: loops · CacheGreater: loops · CacheNil: loops · CacheMemory: loops.
  DERIVED. THE GIVEN ROWS OF THIS SEAT. 5 by the template 'for every input the law returns true; each argument reads behind the call as it read before'; 0 by the template 'total and deterministic' (their statements: YtbimpfciadbnjaaTotals.lean).
  GIVEN WITH THE SEED: the statements are not yours to turn. If you find one false, say at which input.
  Laid BY PROGRAM, IN A SANDBOX (cutbox-rows.mjs): the forced cells as the released guide's own fill.sh prints them over the translation 617090524ab78330… (all of the seat's roots in one cut). By AI agents, Wed Nov 11 2026. No macro, syntax, notation, axiom, sorry.
-/
import Derived.Test.YtbimpfciadbnjaaChecked
import GoSem.Claim
import GoSem.ClaimJoined
import GoSem.ClaimMapViews
import Derived.JoinedTies
import Derived.KernelRfl
namespace Go.Proofs.Ytbimpfciadbnjaa
/- THE CELL 'sum', in the pinned program and in every row, IS THE sha256 OF THE DUMP (.gsa) THAT YtbimpfciadbnjaaProg.lean LOADS. Nothing in Lean hashes anything: it is a label: what it is worth is what the hold of that sum in a sandbox is worth. -/
noncomputable def Try.pinned : Pinned := { name := "ytbimpfciadbnjaa", sum := "617090524ab78330280345d72dafc374d60c408915970610dae9b54e6e0d2634", checked := Try.checked }
namespace Rows
def none {H : Type} : Left H := { results := [], args := [] }

/-- 'synthesislaw23.CacheRuns': WHATEVER THE INPUT: true; the input reads as it did. -/
def cacheRunsSpec : ChangeSpec := { name := "cacheRuns", fn := fun _ => fun
  | [d1, d2] => { results := [.lit (.bool true)], args := [d1, d2] }
  | _ => none }
def cacheRunsRow : OpenClaim := { program := "ytbimpfciadbnjaa", sum := "617090524ab78330280345d72dafc374d60c408915970610dae9b54e6e0d2634", func := "synthesis/synthesislaw23.CacheRuns", spec := "cacheRuns", unfollowed := true, recurses := true, loops := true, apart := false }
def CacheRunsSaid : Prop := cacheRunsRow.holds Try.pinned (OpenSpec.ofChange cacheRunsSpec)

/-- ITS FALSE NEIGHBOUR: 'it returns false'. Refute it at one input. -/
def cacheRunsWrong : ChangeSpec := { name := "cacheRuns", fn := fun _ => fun
  | [d1, d2] => { results := [.lit (.bool false)], args := [d1, d2] }
  | _ => none }
def CacheRunsWrongFalsely : Prop := cacheRunsRow.holds Try.pinned (OpenSpec.ofChange cacheRunsWrong)

/-- 'synthesislaw23.CacheBounds': WHATEVER THE INPUT: true; the input reads as it did. -/
def cacheBoundsSpec : ChangeSpec := { name := "cacheBounds", fn := fun _ => fun
  | [d1, d2] => { results := [.lit (.bool true)], args := [d1, d2] }
  | _ => none }
def cacheBoundsRow : OpenClaim := { program := "ytbimpfciadbnjaa", sum := "617090524ab78330280345d72dafc374d60c408915970610dae9b54e6e0d2634", func := "synthesis/synthesislaw23.CacheBounds", spec := "cacheBounds", unfollowed := true, recurses := true, loops := true, apart := false }
def CacheBoundsSaid : Prop := cacheBoundsRow.holds Try.pinned (OpenSpec.ofChange cacheBoundsSpec)

/-- ITS FALSE NEIGHBOUR: 'it returns false'. Refute it at one input. -/
def cacheBoundsWrong : ChangeSpec := { name := "cacheBounds", fn := fun _ => fun
  | [d1, d2] => { results := [.lit (.bool false)], args := [d1, d2] }
  | _ => none }
def CacheBoundsWrongFalsely : Prop := cacheBoundsRow.holds Try.pinned (OpenSpec.ofChange cacheBoundsWrong)

/-- 'synthesislaw23.CacheGreater': WHATEVER THE INPUT: true; the input reads as it did. -/
def cacheGreaterSpec : ChangeSpec := { name := "cacheGreater", fn := fun _ => fun
  | [d1, d2, d3] => { results := [.lit (.bool true)], args := [d1, d2, d3] }
  | _ => none }
def cacheGreaterRow : OpenClaim := { program := "ytbimpfciadbnjaa", sum := "617090524ab78330280345d72dafc374d60c408915970610dae9b54e6e0d2634", func := "synthesis/synthesislaw23.CacheGreater", spec := "cacheGreater", unfollowed := true, recurses := true, loops := true, apart := false }
def CacheGreaterSaid : Prop := cacheGreaterRow.holds Try.pinned (OpenSpec.ofChange cacheGreaterSpec)

/-- ITS FALSE NEIGHBOUR: 'it returns false'. Refute it at one input. -/
def cacheGreaterWrong : ChangeSpec := { name := "cacheGreater", fn := fun _ => fun
  | [d1, d2, d3] => { results := [.lit (.bool false)], args := [d1, d2, d3] }
  | _ => none }
def CacheGreaterWrongFalsely : Prop := cacheGreaterRow.holds Try.pinned (OpenSpec.ofChange cacheGreaterWrong)

/-- 'synthesislaw23.CacheNil': WHATEVER THE INPUT: true; the input reads as it did. -/
def cacheNilSpec : ChangeSpec := { name := "cacheNil", fn := fun _ => fun
  | [d1, d2] => { results := [.lit (.bool true)], args := [d1, d2] }
  | _ => none }
def cacheNilRow : OpenClaim := { program := "ytbimpfciadbnjaa", sum := "617090524ab78330280345d72dafc374d60c408915970610dae9b54e6e0d2634", func := "synthesis/synthesislaw23.CacheNil", spec := "cacheNil", unfollowed := true, recurses := true, loops := true, apart := false }
def CacheNilSaid : Prop := cacheNilRow.holds Try.pinned (OpenSpec.ofChange cacheNilSpec)

/-- ITS FALSE NEIGHBOUR: 'it returns false'. Refute it at one input. -/
def cacheNilWrong : ChangeSpec := { name := "cacheNil", fn := fun _ => fun
  | [d1, d2] => { results := [.lit (.bool false)], args := [d1, d2] }
  | _ => none }
def CacheNilWrongFalsely : Prop := cacheNilRow.holds Try.pinned (OpenSpec.ofChange cacheNilWrong)

/-- 'synthesislaw23.CacheMemory': WHATEVER THE INPUT: true; the input reads as it did. -/
def cacheMemorySpec : ChangeSpec := { name := "cacheMemory", fn := fun _ => fun
  | [d1, d2] => { results := [.lit (.bool true)], args := [d1, d2] }
  | _ => none }
def cacheMemoryRow : OpenClaim := { program := "ytbimpfciadbnjaa", sum := "617090524ab78330280345d72dafc374d60c408915970610dae9b54e6e0d2634", func := "synthesis/synthesislaw23.CacheMemory", spec := "cacheMemory", unfollowed := true, recurses := true, loops := true, apart := false }
def CacheMemorySaid : Prop := cacheMemoryRow.holds Try.pinned (OpenSpec.ofChange cacheMemorySpec)

/-- ITS FALSE NEIGHBOUR: 'it returns false'. Refute it at one input. -/
def cacheMemoryWrong : ChangeSpec := { name := "cacheMemory", fn := fun _ => fun
  | [d1, d2] => { results := [.lit (.bool false)], args := [d1, d2] }
  | _ => none }
def CacheMemoryWrongFalsely : Prop := cacheMemoryRow.holds Try.pinned (OpenSpec.ofChange cacheMemoryWrong)

/- THE SECOND FORM. 'bulk': how many values and letters a reading holds, each counted each time it is reached (what is shared counts as often as it is met; a slice's spare places count too). A statement '..UptoSaid' is the law's where the arguments, and the package variables that the reading takes, are together of bulk at most 1048576: NARROWER than '..Said'. Prove '..Said' where nothing that the law and all that it calls make is longer than what came in: it says more and counts as full. Else prove '..UptoSaid'. A law counts once. -/
mutual
def uptoBulk {H : Type} : DataW H → Nat
  | .lit (.string bytes) => bytes.length + 1
  | .lit _ => 1
  | .nil => 1
  | .ptr d => uptoBulk d + 1
  | .slice elems spare => uptoBulkAll elems + uptoBulkAll spare + 1
  | .agg parts => uptoBulkAll parts + 1
  | .iface _ d => uptoBulk d + 1
  | .map entries => uptoBulkEntries entries + 1
  | .held _ => 1
def uptoBulkAll {H : Type} : List (DataW H) → Nat
  | [] => 0
  | d :: r => uptoBulk d + uptoBulkAll r
def uptoBulkEntries {H : Type} : List (Lit × DataW H) → Nat
  | [] => 0
  | x :: r => uptoBulkEntry x + uptoBulkEntries r
def uptoBulkEntry {H : Type} : Lit × DataW H → Nat
  | (.string bytes, d) => bytes.length + uptoBulk d + 1
  | (_, d) => uptoBulk d + 1
 end
def uptoSmall : (H : Type) → List (DataW H) → Bool := fun _ ds => decide (uptoBulkAll ds ≤ 1048576)
def OpenSpec.upto (s : _root_.Go.ChangeSpec) : _root_.Go.OpenSpec := { _root_.Go.OpenSpec.ofChange s with cond := some uptoSmall }

/-- 'synthesislaw23.CacheRuns', WHERE WHAT IT READS IS OF BULK AT MOST 1048576: true; the input reads as it did. -/
def cacheRunsUptoRow : OpenClaim := { program := "ytbimpfciadbnjaa", sum := "617090524ab78330280345d72dafc374d60c408915970610dae9b54e6e0d2634", func := "synthesis/synthesislaw23.CacheRuns", spec := "cacheRuns", unfollowed := true, recurses := true, loops := true, apart := false, narrowed := true }
def CacheRunsUptoSaid : Prop := cacheRunsUptoRow.holds Try.pinned (OpenSpec.upto cacheRunsSpec)

/-- 'synthesislaw23.CacheBounds', WHERE WHAT IT READS IS OF BULK AT MOST 1048576: true; the input reads as it did. -/
def cacheBoundsUptoRow : OpenClaim := { program := "ytbimpfciadbnjaa", sum := "617090524ab78330280345d72dafc374d60c408915970610dae9b54e6e0d2634", func := "synthesis/synthesislaw23.CacheBounds", spec := "cacheBounds", unfollowed := true, recurses := true, loops := true, apart := false, narrowed := true }
def CacheBoundsUptoSaid : Prop := cacheBoundsUptoRow.holds Try.pinned (OpenSpec.upto cacheBoundsSpec)

/-- 'synthesislaw23.CacheGreater', WHERE WHAT IT READS IS OF BULK AT MOST 1048576: true; the input reads as it did. -/
def cacheGreaterUptoRow : OpenClaim := { program := "ytbimpfciadbnjaa", sum := "617090524ab78330280345d72dafc374d60c408915970610dae9b54e6e0d2634", func := "synthesis/synthesislaw23.CacheGreater", spec := "cacheGreater", unfollowed := true, recurses := true, loops := true, apart := false, narrowed := true }
def CacheGreaterUptoSaid : Prop := cacheGreaterUptoRow.holds Try.pinned (OpenSpec.upto cacheGreaterSpec)

/-- 'synthesislaw23.CacheNil', WHERE WHAT IT READS IS OF BULK AT MOST 1048576: true; the input reads as it did. -/
def cacheNilUptoRow : OpenClaim := { program := "ytbimpfciadbnjaa", sum := "617090524ab78330280345d72dafc374d60c408915970610dae9b54e6e0d2634", func := "synthesis/synthesislaw23.CacheNil", spec := "cacheNil", unfollowed := true, recurses := true, loops := true, apart := false, narrowed := true }
def CacheNilUptoSaid : Prop := cacheNilUptoRow.holds Try.pinned (OpenSpec.upto cacheNilSpec)

/-- 'synthesislaw23.CacheMemory', WHERE WHAT IT READS IS OF BULK AT MOST 1048576: true; the input reads as it did. -/
def cacheMemoryUptoRow : OpenClaim := { program := "ytbimpfciadbnjaa", sum := "617090524ab78330280345d72dafc374d60c408915970610dae9b54e6e0d2634", func := "synthesis/synthesislaw23.CacheMemory", spec := "cacheMemory", unfollowed := true, recurses := true, loops := true, apart := false, narrowed := true }
def CacheMemoryUptoSaid : Prop := cacheMemoryUptoRow.holds Try.pinned (OpenSpec.upto cacheMemorySpec)

end Rows
end Go.Proofs.Ytbimpfciadbnjaa
