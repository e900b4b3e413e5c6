/-
  NARROWER THAN 'FOR EVERY INPUT', by the rows' own cells (each row's printed sentence says how): TermSizes: loops · TermCompares: loops · TermOrders: loops · TermPaths: loops · TermSubterms: loops · TermUses: loops.
  DERIVED. THE GIVEN ROWS OF THIS SEAT. 6 by the template 'for every input the law returns true; each argument reads behind the call as it read before'; 0 by the template 'total and deterministic' (their statements: YtdfhfljmcakilaaTotals.lean).
  GIVEN WITH THE SEED: the statements are not yours to turn. If you find one false, say at which input.
  Laid BY PROGRAM, IN A SANDBOX (cutbox-rows.mjs): the forced cells as the released guide's own fill.sh prints them over the translation 9f4a08fe59cc9266… (all of the seat's roots in one cut). By AI agents, Wed Nov 11 2026. No macro, syntax, notation, axiom, sorry.
-/
import Derived.Test.YtdfhfljmcakilaaChecked
import GoSem.Claim
import GoSem.ClaimJoined
import GoSem.ClaimMapViews
import Derived.JoinedTies
import Derived.KernelRfl
namespace Go.Proofs.Ytdfhfljmcakilaa
/- THE CELL 'sum', in the pinned program and in every row, IS THE sha256 OF THE DUMP (.gsa) THAT YtdfhfljmcakilaaProg.lean LOADS. Nothing in Lean hashes anything: it is a label: what it is worth is what the hold of that sum in a sandbox is worth. -/
noncomputable def Try.pinned : Pinned := { name := "ytdfhfljmcakilaa", sum := "9f4a08fe59cc9266aef350e41b2f24955424b4f868cf25545096aa438b2cc8c3", checked := Try.checked }
namespace Rows
def none {H : Type} : Left H := { results := [], args := [] }

/-- 'synthesislaw13.TermSizes': WHATEVER THE INPUT: true; the input reads as it did. -/
def termSizesSpec : ChangeSpec := { name := "termSizes", fn := fun _ => fun
  | [d] => { results := [.lit (.bool true)], args := [d] }
  | _ => none }
def termSizesRow : OpenClaim := { program := "ytdfhfljmcakilaa", sum := "9f4a08fe59cc9266aef350e41b2f24955424b4f868cf25545096aa438b2cc8c3", func := "synthesis/synthesislaw13.TermSizes", spec := "termSizes", unfollowed := true, recurses := true, loops := true, apart := false }
def TermSizesSaid : Prop := termSizesRow.holds Try.pinned (OpenSpec.ofChange termSizesSpec)

/-- ITS FALSE NEIGHBOUR: 'it returns false'. Refute it at one input. -/
def termSizesWrong : ChangeSpec := { name := "termSizes", fn := fun _ => fun
  | [d] => { results := [.lit (.bool false)], args := [d] }
  | _ => none }
def TermSizesWrongFalsely : Prop := termSizesRow.holds Try.pinned (OpenSpec.ofChange termSizesWrong)

/-- 'synthesislaw13.TermCompares': WHATEVER THE INPUT: true; the input reads as it did. -/
def termComparesSpec : ChangeSpec := { name := "termCompares", fn := fun _ => fun
  | [d1, d2] => { results := [.lit (.bool true)], args := [d1, d2] }
  | _ => none }
def termComparesRow : OpenClaim := { program := "ytdfhfljmcakilaa", sum := "9f4a08fe59cc9266aef350e41b2f24955424b4f868cf25545096aa438b2cc8c3", func := "synthesis/synthesislaw13.TermCompares", spec := "termCompares", unfollowed := true, recurses := true, loops := true, apart := false }
def TermComparesSaid : Prop := termComparesRow.holds Try.pinned (OpenSpec.ofChange termComparesSpec)

/-- ITS FALSE NEIGHBOUR: 'it returns false'. Refute it at one input. -/
def termComparesWrong : ChangeSpec := { name := "termCompares", fn := fun _ => fun
  | [d1, d2] => { results := [.lit (.bool false)], args := [d1, d2] }
  | _ => none }
def TermComparesWrongFalsely : Prop := termComparesRow.holds Try.pinned (OpenSpec.ofChange termComparesWrong)

/-- 'synthesislaw13.TermOrders': WHATEVER THE INPUT: true; the input reads as it did. -/
def termOrdersSpec : ChangeSpec := { name := "termOrders", fn := fun _ => fun
  | [d1, d2, d3] => { results := [.lit (.bool true)], args := [d1, d2, d3] }
  | _ => none }
def termOrdersRow : OpenClaim := { program := "ytdfhfljmcakilaa", sum := "9f4a08fe59cc9266aef350e41b2f24955424b4f868cf25545096aa438b2cc8c3", func := "synthesis/synthesislaw13.TermOrders", spec := "termOrders", unfollowed := true, recurses := true, loops := true, apart := false }
def TermOrdersSaid : Prop := termOrdersRow.holds Try.pinned (OpenSpec.ofChange termOrdersSpec)

/-- ITS FALSE NEIGHBOUR: 'it returns false'. Refute it at one input. -/
def termOrdersWrong : ChangeSpec := { name := "termOrders", fn := fun _ => fun
  | [d1, d2, d3] => { results := [.lit (.bool false)], args := [d1, d2, d3] }
  | _ => none }
def TermOrdersWrongFalsely : Prop := termOrdersRow.holds Try.pinned (OpenSpec.ofChange termOrdersWrong)

/-- 'synthesislaw13.TermPaths': WHATEVER THE INPUT: true; the input reads as it did. -/
def termPathsSpec : ChangeSpec := { name := "termPaths", fn := fun _ => fun
  | [d1, d2, d3] => { results := [.lit (.bool true)], args := [d1, d2, d3] }
  | _ => none }
def termPathsRow : OpenClaim := { program := "ytdfhfljmcakilaa", sum := "9f4a08fe59cc9266aef350e41b2f24955424b4f868cf25545096aa438b2cc8c3", func := "synthesis/synthesislaw13.TermPaths", spec := "termPaths", unfollowed := true, recurses := true, loops := true, apart := false }
def TermPathsSaid : Prop := termPathsRow.holds Try.pinned (OpenSpec.ofChange termPathsSpec)

/-- ITS FALSE NEIGHBOUR: 'it returns false'. Refute it at one input. -/
def termPathsWrong : ChangeSpec := { name := "termPaths", fn := fun _ => fun
  | [d1, d2, d3] => { results := [.lit (.bool false)], args := [d1, d2, d3] }
  | _ => none }
def TermPathsWrongFalsely : Prop := termPathsRow.holds Try.pinned (OpenSpec.ofChange termPathsWrong)

/-- 'synthesislaw13.TermSubterms': WHATEVER THE INPUT: true; the input reads as it did. -/
def termSubtermsSpec : ChangeSpec := { name := "termSubterms", fn := fun _ => fun
  | [d] => { results := [.lit (.bool true)], args := [d] }
  | _ => none }
def termSubtermsRow : OpenClaim := { program := "ytdfhfljmcakilaa", sum := "9f4a08fe59cc9266aef350e41b2f24955424b4f868cf25545096aa438b2cc8c3", func := "synthesis/synthesislaw13.TermSubterms", spec := "termSubterms", unfollowed := true, recurses := true, loops := true, apart := false }
def TermSubtermsSaid : Prop := termSubtermsRow.holds Try.pinned (OpenSpec.ofChange termSubtermsSpec)

/-- ITS FALSE NEIGHBOUR: 'it returns false'. Refute it at one input. -/
def termSubtermsWrong : ChangeSpec := { name := "termSubterms", fn := fun _ => fun
  | [d] => { results := [.lit (.bool false)], args := [d] }
  | _ => none }
def TermSubtermsWrongFalsely : Prop := termSubtermsRow.holds Try.pinned (OpenSpec.ofChange termSubtermsWrong)

/-- 'synthesislaw13.TermUses': WHATEVER THE INPUT: true; the input reads as it did. -/
def termUsesSpec : ChangeSpec := { name := "termUses", fn := fun _ => fun
  | [d1, d2, d3] => { results := [.lit (.bool true)], args := [d1, d2, d3] }
  | _ => none }
def termUsesRow : OpenClaim := { program := "ytdfhfljmcakilaa", sum := "9f4a08fe59cc9266aef350e41b2f24955424b4f868cf25545096aa438b2cc8c3", func := "synthesis/synthesislaw13.TermUses", spec := "termUses", unfollowed := true, recurses := true, loops := true, apart := false }
def TermUsesSaid : Prop := termUsesRow.holds Try.pinned (OpenSpec.ofChange termUsesSpec)

/-- ITS FALSE NEIGHBOUR: 'it returns false'. Refute it at one input. -/
def termUsesWrong : ChangeSpec := { name := "termUses", fn := fun _ => fun
  | [d1, d2, d3] => { results := [.lit (.bool false)], args := [d1, d2, d3] }
  | _ => none }
def TermUsesWrongFalsely : Prop := termUsesRow.holds Try.pinned (OpenSpec.ofChange termUsesWrong)

/- THE SECOND FORM. 'bulk': how many values and letters a reading holds, each counted each time it is reached (what is shared counts as often as it is met; a slice's spare places count too). A statement '..UptoSaid' is the law's where the arguments, and the package variables that the reading takes, are together of bulk at most 1048576: NARROWER than '..Said'. Prove '..Said' where nothing that the law and all that it calls make is longer than what came in: it says more and counts as full. Else prove '..UptoSaid'. A law counts once. -/
mutual
def uptoBulk {H : Type} : DataW H → Nat
  | .lit (.string bytes) => bytes.length + 1
  | .lit _ => 1
  | .nil => 1
  | .ptr d => uptoBulk d + 1
  | .slice elems spare => uptoBulkAll elems + uptoBulkAll spare + 1
  | .agg parts => uptoBulkAll parts + 1
  | .iface _ d => uptoBulk d + 1
  | .map entries => uptoBulkEntries entries + 1
  | .held _ => 1
def uptoBulkAll {H : Type} : List (DataW H) → Nat
  | [] => 0
  | d :: r => uptoBulk d + uptoBulkAll r
def uptoBulkEntries {H : Type} : List (Lit × DataW H) → Nat
  | [] => 0
  | x :: r => uptoBulkEntry x + uptoBulkEntries r
def uptoBulkEntry {H : Type} : Lit × DataW H → Nat
  | (.string bytes, d) => bytes.length + uptoBulk d + 1
  | (_, d) => uptoBulk d + 1
 end
def uptoSmall : (H : Type) → List (DataW H) → Bool := fun _ ds => decide (uptoBulkAll ds ≤ 1048576)
def OpenSpec.upto (s : _root_.Go.ChangeSpec) : _root_.Go.OpenSpec := { _root_.Go.OpenSpec.ofChange s with cond := some uptoSmall }

/-- 'synthesislaw13.TermSizes', WHERE WHAT IT READS IS OF BULK AT MOST 1048576: true; the input reads as it did. -/
def termSizesUptoRow : OpenClaim := { program := "ytdfhfljmcakilaa", sum := "9f4a08fe59cc9266aef350e41b2f24955424b4f868cf25545096aa438b2cc8c3", func := "synthesis/synthesislaw13.TermSizes", spec := "termSizes", unfollowed := true, recurses := true, loops := true, apart := false, narrowed := true }
def TermSizesUptoSaid : Prop := termSizesUptoRow.holds Try.pinned (OpenSpec.upto termSizesSpec)

/-- 'synthesislaw13.TermCompares', WHERE WHAT IT READS IS OF BULK AT MOST 1048576: true; the input reads as it did. -/
def termComparesUptoRow : OpenClaim := { program := "ytdfhfljmcakilaa", sum := "9f4a08fe59cc9266aef350e41b2f24955424b4f868cf25545096aa438b2cc8c3", func := "synthesis/synthesislaw13.TermCompares", spec := "termCompares", unfollowed := true, recurses := true, loops := true, apart := false, narrowed := true }
def TermComparesUptoSaid : Prop := termComparesUptoRow.holds Try.pinned (OpenSpec.upto termComparesSpec)

/-- 'synthesislaw13.TermOrders', WHERE WHAT IT READS IS OF BULK AT MOST 1048576: true; the input reads as it did. -/
def termOrdersUptoRow : OpenClaim := { program := "ytdfhfljmcakilaa", sum := "9f4a08fe59cc9266aef350e41b2f24955424b4f868cf25545096aa438b2cc8c3", func := "synthesis/synthesislaw13.TermOrders", spec := "termOrders", unfollowed := true, recurses := true, loops := true, apart := false, narrowed := true }
def TermOrdersUptoSaid : Prop := termOrdersUptoRow.holds Try.pinned (OpenSpec.upto termOrdersSpec)

/-- 'synthesislaw13.TermPaths', WHERE WHAT IT READS IS OF BULK AT MOST 1048576: true; the input reads as it did. -/
def termPathsUptoRow : OpenClaim := { program := "ytdfhfljmcakilaa", sum := "9f4a08fe59cc9266aef350e41b2f24955424b4f868cf25545096aa438b2cc8c3", func := "synthesis/synthesislaw13.TermPaths", spec := "termPaths", unfollowed := true, recurses := true, loops := true, apart := false, narrowed := true }
def TermPathsUptoSaid : Prop := termPathsUptoRow.holds Try.pinned (OpenSpec.upto termPathsSpec)

/-- 'synthesislaw13.TermSubterms', WHERE WHAT IT READS IS OF BULK AT MOST 1048576: true; the input reads as it did. -/
def termSubtermsUptoRow : OpenClaim := { program := "ytdfhfljmcakilaa", sum := "9f4a08fe59cc9266aef350e41b2f24955424b4f868cf25545096aa438b2cc8c3", func := "synthesis/synthesislaw13.TermSubterms", spec := "termSubterms", unfollowed := true, recurses := true, loops := true, apart := false, narrowed := true }
def TermSubtermsUptoSaid : Prop := termSubtermsUptoRow.holds Try.pinned (OpenSpec.upto termSubtermsSpec)

/-- 'synthesislaw13.TermUses', WHERE WHAT IT READS IS OF BULK AT MOST 1048576: true; the input reads as it did. -/
def termUsesUptoRow : OpenClaim := { program := "ytdfhfljmcakilaa", sum := "9f4a08fe59cc9266aef350e41b2f24955424b4f868cf25545096aa438b2cc8c3", func := "synthesis/synthesislaw13.TermUses", spec := "termUses", unfollowed := true, recurses := true, loops := true, apart := false, narrowed := true }
def TermUsesUptoSaid : Prop := termUsesUptoRow.holds Try.pinned (OpenSpec.upto termUsesSpec)

end Rows
end Go.Proofs.Ytdfhfljmcakilaa
