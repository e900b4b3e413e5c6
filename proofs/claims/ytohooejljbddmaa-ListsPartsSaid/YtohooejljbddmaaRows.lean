/-
  No cell of these rows narrows 'for every input' (looked for: loops, veiled, ifaces, maps, wideKeys, modest, calm, conditions, laid).
  DERIVED. THE GIVEN ROWS OF THIS SEAT. 9 by the template 'for every input the law returns true; each argument reads behind the call as it read before'; 0 by the template 'total and deterministic' (their statements: YtohooejljbddmaaTotals.lean).
  GIVEN WITH THE SEED: the statements are not yours to turn. If you find one false, say at which input.
  Laid BY PROGRAM, IN A SANDBOX (cutbox-rows.mjs): the forced cells as the released guide's own fill.sh prints them over the translation dc60347fbd6ca343… (all of the seat's roots in one cut). By AI agents, Wed Nov 11 2026. No macro, syntax, notation, axiom, sorry.
-/
import Derived.Test.YtohooejljbddmaaChecked
import GoSem.Claim
import GoSem.ClaimJoined
import GoSem.ClaimMapViews
import Derived.JoinedTies
import Derived.KernelRfl
namespace Go.Proofs.Ytohooejljbddmaa
/- THE CELL 'sum', in the pinned program and in every row, IS THE sha256 OF THE DUMP (.gsa) THAT YtohooejljbddmaaProg.lean LOADS. Nothing in Lean hashes anything: it is a label: what it is worth is what the hold of that sum in a sandbox is worth. -/
noncomputable def Try.pinned : Pinned := { name := "ytohooejljbddmaa", sum := "dc60347fbd6ca343be2df01b39e85f0df0133ad3e7c3294c8ac49b40724853b3", checked := Try.checked }
namespace Rows
def none {H : Type} : Left H := { results := [], args := [] }

/-- 'synthesislaw07.ListsElements': WHATEVER THE INPUT: true; the input reads as it did. -/
def listsElementsSpec : ChangeSpec := { name := "listsElements", fn := fun _ => fun
  | [d1, d2] => { results := [.lit (.bool true)], args := [d1, d2] }
  | _ => none }
def listsElementsRow : OpenClaim := { program := "ytohooejljbddmaa", sum := "dc60347fbd6ca343be2df01b39e85f0df0133ad3e7c3294c8ac49b40724853b3", func := "synthesis/synthesislaw07.ListsElements", spec := "listsElements", unfollowed := true, recurses := true, apart := false }
def ListsElementsSaid : Prop := listsElementsRow.holds Try.pinned (OpenSpec.ofChange listsElementsSpec)

/-- ITS FALSE NEIGHBOUR: 'it returns false'. Refute it at one input. -/
def listsElementsWrong : ChangeSpec := { name := "listsElements", fn := fun _ => fun
  | [d1, d2] => { results := [.lit (.bool false)], args := [d1, d2] }
  | _ => none }
def ListsElementsWrongFalsely : Prop := listsElementsRow.holds Try.pinned (OpenSpec.ofChange listsElementsWrong)

/-- 'synthesislaw07.ListsTakes': WHATEVER THE INPUT: true; the input reads as it did. -/
def listsTakesSpec : ChangeSpec := { name := "listsTakes", fn := fun _ => fun
  | [d1, d2] => { results := [.lit (.bool true)], args := [d1, d2] }
  | _ => none }
def listsTakesRow : OpenClaim := { program := "ytohooejljbddmaa", sum := "dc60347fbd6ca343be2df01b39e85f0df0133ad3e7c3294c8ac49b40724853b3", func := "synthesis/synthesislaw07.ListsTakes", spec := "listsTakes", unfollowed := true, recurses := true, apart := false }
def ListsTakesSaid : Prop := listsTakesRow.holds Try.pinned (OpenSpec.ofChange listsTakesSpec)

/-- ITS FALSE NEIGHBOUR: 'it returns false'. Refute it at one input. -/
def listsTakesWrong : ChangeSpec := { name := "listsTakes", fn := fun _ => fun
  | [d1, d2] => { results := [.lit (.bool false)], args := [d1, d2] }
  | _ => none }
def ListsTakesWrongFalsely : Prop := listsTakesRow.holds Try.pinned (OpenSpec.ofChange listsTakesWrong)

/-- 'synthesislaw07.ListsSorts': WHATEVER THE INPUT: true; the input reads as it did. -/
def listsSortsSpec : ChangeSpec := { name := "listsSorts", fn := fun _ => fun
  | [d1, d2] => { results := [.lit (.bool true)], args := [d1, d2] }
  | _ => none }
def listsSortsRow : OpenClaim := { program := "ytohooejljbddmaa", sum := "dc60347fbd6ca343be2df01b39e85f0df0133ad3e7c3294c8ac49b40724853b3", func := "synthesis/synthesislaw07.ListsSorts", spec := "listsSorts", unfollowed := true, recurses := true, apart := false }
def ListsSortsSaid : Prop := listsSortsRow.holds Try.pinned (OpenSpec.ofChange listsSortsSpec)

/-- ITS FALSE NEIGHBOUR: 'it returns false'. Refute it at one input. -/
def listsSortsWrong : ChangeSpec := { name := "listsSorts", fn := fun _ => fun
  | [d1, d2] => { results := [.lit (.bool false)], args := [d1, d2] }
  | _ => none }
def ListsSortsWrongFalsely : Prop := listsSortsRow.holds Try.pinned (OpenSpec.ofChange listsSortsWrong)

/-- 'synthesislaw07.ListsSelects': WHATEVER THE INPUT: true; the input reads as it did. -/
def listsSelectsSpec : ChangeSpec := { name := "listsSelects", fn := fun _ => fun
  | [d1, d2] => { results := [.lit (.bool true)], args := [d1, d2] }
  | _ => none }
def listsSelectsRow : OpenClaim := { program := "ytohooejljbddmaa", sum := "dc60347fbd6ca343be2df01b39e85f0df0133ad3e7c3294c8ac49b40724853b3", func := "synthesis/synthesislaw07.ListsSelects", spec := "listsSelects", unfollowed := true, recurses := true, apart := false }
def ListsSelectsSaid : Prop := listsSelectsRow.holds Try.pinned (OpenSpec.ofChange listsSelectsSpec)

/-- ITS FALSE NEIGHBOUR: 'it returns false'. Refute it at one input. -/
def listsSelectsWrong : ChangeSpec := { name := "listsSelects", fn := fun _ => fun
  | [d1, d2] => { results := [.lit (.bool false)], args := [d1, d2] }
  | _ => none }
def ListsSelectsWrongFalsely : Prop := listsSelectsRow.holds Try.pinned (OpenSpec.ofChange listsSelectsWrong)

/-- 'synthesislaw07.ListsSums': WHATEVER THE INPUT: true; the input reads as it did. -/
def listsSumsSpec : ChangeSpec := { name := "listsSums", fn := fun _ => fun
  | [d] => { results := [.lit (.bool true)], args := [d] }
  | _ => none }
def listsSumsRow : OpenClaim := { program := "ytohooejljbddmaa", sum := "dc60347fbd6ca343be2df01b39e85f0df0133ad3e7c3294c8ac49b40724853b3", func := "synthesis/synthesislaw07.ListsSums", spec := "listsSums", unfollowed := true, recurses := true, apart := false }
def ListsSumsSaid : Prop := listsSumsRow.holds Try.pinned (OpenSpec.ofChange listsSumsSpec)

/-- ITS FALSE NEIGHBOUR: 'it returns false'. Refute it at one input. -/
def listsSumsWrong : ChangeSpec := { name := "listsSums", fn := fun _ => fun
  | [d] => { results := [.lit (.bool false)], args := [d] }
  | _ => none }
def ListsSumsWrongFalsely : Prop := listsSumsRow.holds Try.pinned (OpenSpec.ofChange listsSumsWrong)

/-- 'synthesislaw07.ListsScales': WHATEVER THE INPUT: true; the input reads as it did. -/
def listsScalesSpec : ChangeSpec := { name := "listsScales", fn := fun _ => fun
  | [d1, d2] => { results := [.lit (.bool true)], args := [d1, d2] }
  | _ => none }
def listsScalesRow : OpenClaim := { program := "ytohooejljbddmaa", sum := "dc60347fbd6ca343be2df01b39e85f0df0133ad3e7c3294c8ac49b40724853b3", func := "synthesis/synthesislaw07.ListsScales", spec := "listsScales", unfollowed := true, recurses := true, apart := false }
def ListsScalesSaid : Prop := listsScalesRow.holds Try.pinned (OpenSpec.ofChange listsScalesSpec)

/-- ITS FALSE NEIGHBOUR: 'it returns false'. Refute it at one input. -/
def listsScalesWrong : ChangeSpec := { name := "listsScales", fn := fun _ => fun
  | [d1, d2] => { results := [.lit (.bool false)], args := [d1, d2] }
  | _ => none }
def ListsScalesWrongFalsely : Prop := listsScalesRow.holds Try.pinned (OpenSpec.ofChange listsScalesWrong)

/-- 'synthesislaw07.ListsZips': WHATEVER THE INPUT: true; the input reads as it did. -/
def listsZipsSpec : ChangeSpec := { name := "listsZips", fn := fun _ => fun
  | [d1, d2] => { results := [.lit (.bool true)], args := [d1, d2] }
  | _ => none }
def listsZipsRow : OpenClaim := { program := "ytohooejljbddmaa", sum := "dc60347fbd6ca343be2df01b39e85f0df0133ad3e7c3294c8ac49b40724853b3", func := "synthesis/synthesislaw07.ListsZips", spec := "listsZips", unfollowed := true, recurses := true, apart := false }
def ListsZipsSaid : Prop := listsZipsRow.holds Try.pinned (OpenSpec.ofChange listsZipsSpec)

/-- ITS FALSE NEIGHBOUR: 'it returns false'. Refute it at one input. -/
def listsZipsWrong : ChangeSpec := { name := "listsZips", fn := fun _ => fun
  | [d1, d2] => { results := [.lit (.bool false)], args := [d1, d2] }
  | _ => none }
def ListsZipsWrongFalsely : Prop := listsZipsRow.holds Try.pinned (OpenSpec.ofChange listsZipsWrong)

/-- 'synthesislaw07.ListsParts': WHATEVER THE INPUT: true; the input reads as it did. -/
def listsPartsSpec : ChangeSpec := { name := "listsParts", fn := fun _ => fun
  | [d1, d2] => { results := [.lit (.bool true)], args := [d1, d2] }
  | _ => none }
def listsPartsRow : OpenClaim := { program := "ytohooejljbddmaa", sum := "dc60347fbd6ca343be2df01b39e85f0df0133ad3e7c3294c8ac49b40724853b3", func := "synthesis/synthesislaw07.ListsParts", spec := "listsParts", unfollowed := true, recurses := true, apart := false }
def ListsPartsSaid : Prop := listsPartsRow.holds Try.pinned (OpenSpec.ofChange listsPartsSpec)

/-- ITS FALSE NEIGHBOUR: 'it returns false'. Refute it at one input. -/
def listsPartsWrong : ChangeSpec := { name := "listsParts", fn := fun _ => fun
  | [d1, d2] => { results := [.lit (.bool false)], args := [d1, d2] }
  | _ => none }
def ListsPartsWrongFalsely : Prop := listsPartsRow.holds Try.pinned (OpenSpec.ofChange listsPartsWrong)

/-- 'synthesislaw07.ListsTotals': WHATEVER THE INPUT: true; the input reads as it did. -/
def listsTotalsSpec : ChangeSpec := { name := "listsTotals", fn := fun _ => fun
  | [d] => { results := [.lit (.bool true)], args := [d] }
  | _ => none }
def listsTotalsRow : OpenClaim := { program := "ytohooejljbddmaa", sum := "dc60347fbd6ca343be2df01b39e85f0df0133ad3e7c3294c8ac49b40724853b3", func := "synthesis/synthesislaw07.ListsTotals", spec := "listsTotals", unfollowed := true, recurses := true, apart := false }
def ListsTotalsSaid : Prop := listsTotalsRow.holds Try.pinned (OpenSpec.ofChange listsTotalsSpec)

/-- ITS FALSE NEIGHBOUR: 'it returns false'. Refute it at one input. -/
def listsTotalsWrong : ChangeSpec := { name := "listsTotals", fn := fun _ => fun
  | [d] => { results := [.lit (.bool false)], args := [d] }
  | _ => none }
def ListsTotalsWrongFalsely : Prop := listsTotalsRow.holds Try.pinned (OpenSpec.ofChange listsTotalsWrong)

/- THE SECOND FORM. 'bulk': how many values and letters a reading holds, each counted each time it is reached (what is shared counts as often as it is met; a slice's spare places count too). A statement '..UptoSaid' is the law's where the arguments, and the package variables that the reading takes, are together of bulk at most 1048576: NARROWER than '..Said'. Prove '..Said' where nothing that the law and all that it calls make is longer than what came in: it says more and counts as full. Else prove '..UptoSaid'. A law counts once. -/
mutual
def uptoBulk {H : Type} : DataW H → Nat
  | .lit (.string bytes) => bytes.length + 1
  | .lit _ => 1
  | .nil => 1
  | .ptr d => uptoBulk d + 1
  | .slice elems spare => uptoBulkAll elems + uptoBulkAll spare + 1
  | .agg parts => uptoBulkAll parts + 1
  | .iface _ d => uptoBulk d + 1
  | .map entries => uptoBulkEntries entries + 1
  | .held _ => 1
def uptoBulkAll {H : Type} : List (DataW H) → Nat
  | [] => 0
  | d :: r => uptoBulk d + uptoBulkAll r
def uptoBulkEntries {H : Type} : List (Lit × DataW H) → Nat
  | [] => 0
  | x :: r => uptoBulkEntry x + uptoBulkEntries r
def uptoBulkEntry {H : Type} : Lit × DataW H → Nat
  | (.string bytes, d) => bytes.length + uptoBulk d + 1
  | (_, d) => uptoBulk d + 1
 end
def uptoSmall : (H : Type) → List (DataW H) → Bool := fun _ ds => decide (uptoBulkAll ds ≤ 1048576)
def OpenSpec.upto (s : _root_.Go.ChangeSpec) : _root_.Go.OpenSpec := { _root_.Go.OpenSpec.ofChange s with cond := some uptoSmall }

/-- 'synthesislaw07.ListsElements', WHERE WHAT IT READS IS OF BULK AT MOST 1048576: true; the input reads as it did. -/
def listsElementsUptoRow : OpenClaim := { program := "ytohooejljbddmaa", sum := "dc60347fbd6ca343be2df01b39e85f0df0133ad3e7c3294c8ac49b40724853b3", func := "synthesis/synthesislaw07.ListsElements", spec := "listsElements", unfollowed := true, recurses := true, apart := false, narrowed := true }
def ListsElementsUptoSaid : Prop := listsElementsUptoRow.holds Try.pinned (OpenSpec.upto listsElementsSpec)

/-- 'synthesislaw07.ListsTakes', WHERE WHAT IT READS IS OF BULK AT MOST 1048576: true; the input reads as it did. -/
def listsTakesUptoRow : OpenClaim := { program := "ytohooejljbddmaa", sum := "dc60347fbd6ca343be2df01b39e85f0df0133ad3e7c3294c8ac49b40724853b3", func := "synthesis/synthesislaw07.ListsTakes", spec := "listsTakes", unfollowed := true, recurses := true, apart := false, narrowed := true }
def ListsTakesUptoSaid : Prop := listsTakesUptoRow.holds Try.pinned (OpenSpec.upto listsTakesSpec)

/-- 'synthesislaw07.ListsSorts', WHERE WHAT IT READS IS OF BULK AT MOST 1048576: true; the input reads as it did. -/
def listsSortsUptoRow : OpenClaim := { program := "ytohooejljbddmaa", sum := "dc60347fbd6ca343be2df01b39e85f0df0133ad3e7c3294c8ac49b40724853b3", func := "synthesis/synthesislaw07.ListsSorts", spec := "listsSorts", unfollowed := true, recurses := true, apart := false, narrowed := true }
def ListsSortsUptoSaid : Prop := listsSortsUptoRow.holds Try.pinned (OpenSpec.upto listsSortsSpec)

/-- 'synthesislaw07.ListsSelects', WHERE WHAT IT READS IS OF BULK AT MOST 1048576: true; the input reads as it did. -/
def listsSelectsUptoRow : OpenClaim := { program := "ytohooejljbddmaa", sum := "dc60347fbd6ca343be2df01b39e85f0df0133ad3e7c3294c8ac49b40724853b3", func := "synthesis/synthesislaw07.ListsSelects", spec := "listsSelects", unfollowed := true, recurses := true, apart := false, narrowed := true }
def ListsSelectsUptoSaid : Prop := listsSelectsUptoRow.holds Try.pinned (OpenSpec.upto listsSelectsSpec)

/-- 'synthesislaw07.ListsSums', WHERE WHAT IT READS IS OF BULK AT MOST 1048576: true; the input reads as it did. -/
def listsSumsUptoRow : OpenClaim := { program := "ytohooejljbddmaa", sum := "dc60347fbd6ca343be2df01b39e85f0df0133ad3e7c3294c8ac49b40724853b3", func := "synthesis/synthesislaw07.ListsSums", spec := "listsSums", unfollowed := true, recurses := true, apart := false, narrowed := true }
def ListsSumsUptoSaid : Prop := listsSumsUptoRow.holds Try.pinned (OpenSpec.upto listsSumsSpec)

/-- 'synthesislaw07.ListsScales', WHERE WHAT IT READS IS OF BULK AT MOST 1048576: true; the input reads as it did. -/
def listsScalesUptoRow : OpenClaim := { program := "ytohooejljbddmaa", sum := "dc60347fbd6ca343be2df01b39e85f0df0133ad3e7c3294c8ac49b40724853b3", func := "synthesis/synthesislaw07.ListsScales", spec := "listsScales", unfollowed := true, recurses := true, apart := false, narrowed := true }
def ListsScalesUptoSaid : Prop := listsScalesUptoRow.holds Try.pinned (OpenSpec.upto listsScalesSpec)

/-- 'synthesislaw07.ListsZips', WHERE WHAT IT READS IS OF BULK AT MOST 1048576: true; the input reads as it did. -/
def listsZipsUptoRow : OpenClaim := { program := "ytohooejljbddmaa", sum := "dc60347fbd6ca343be2df01b39e85f0df0133ad3e7c3294c8ac49b40724853b3", func := "synthesis/synthesislaw07.ListsZips", spec := "listsZips", unfollowed := true, recurses := true, apart := false, narrowed := true }
def ListsZipsUptoSaid : Prop := listsZipsUptoRow.holds Try.pinned (OpenSpec.upto listsZipsSpec)

/-- 'synthesislaw07.ListsParts', WHERE WHAT IT READS IS OF BULK AT MOST 1048576: true; the input reads as it did. -/
def listsPartsUptoRow : OpenClaim := { program := "ytohooejljbddmaa", sum := "dc60347fbd6ca343be2df01b39e85f0df0133ad3e7c3294c8ac49b40724853b3", func := "synthesis/synthesislaw07.ListsParts", spec := "listsParts", unfollowed := true, recurses := true, apart := false, narrowed := true }
def ListsPartsUptoSaid : Prop := listsPartsUptoRow.holds Try.pinned (OpenSpec.upto listsPartsSpec)

/-- 'synthesislaw07.ListsTotals', WHERE WHAT IT READS IS OF BULK AT MOST 1048576: true; the input reads as it did. -/
def listsTotalsUptoRow : OpenClaim := { program := "ytohooejljbddmaa", sum := "dc60347fbd6ca343be2df01b39e85f0df0133ad3e7c3294c8ac49b40724853b3", func := "synthesis/synthesislaw07.ListsTotals", spec := "listsTotals", unfollowed := true, recurses := true, apart := false, narrowed := true }
def ListsTotalsUptoSaid : Prop := listsTotalsUptoRow.holds Try.pinned (OpenSpec.upto listsTotalsSpec)

end Rows
end Go.Proofs.Ytohooejljbddmaa
