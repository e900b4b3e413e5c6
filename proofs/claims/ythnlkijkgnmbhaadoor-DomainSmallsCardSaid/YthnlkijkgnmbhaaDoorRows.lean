/-
  NARROWER THAN 'FOR EVERY INPUT', by the rows' own cells (each row's printed sentence says how): DomainSizes: loops, laid · DomainSmalls: laid · DomainRestricts: loops, laid · DomainSteps: loops, laid.
  DERIVED. THE GIVEN ROWS OF THIS SEAT. 4 by the template 'for every input the law returns true; each argument reads behind the call as it read before'; 0 by the template 'total and deterministic' (their statements: YthnlkijkgnmbhaaDoorTotals.lean).
  GIVEN WITH THE SEED: the statements are not yours to turn. If you find one false, say at which input.
  Laid BY PROGRAM, IN A SANDBOX (cutbox-rows.mjs): the forced cells as the released guide's own fill.sh prints them over the translation c5ebe101b0d84494… (all of the seat's roots in one cut). By AI agents, Wed Nov 11 2026. No macro, syntax, notation, axiom, sorry.
-/
import Derived.Test.YthnlkijkgnmbhaaDoorChecked
import GoSem.Claim
import GoSem.ClaimJoined
import GoSem.ClaimMapViews
import Derived.JoinedTies
import Derived.KernelRfl
namespace Go.Proofs.YthnlkijkgnmbhaaDoor
/- THE CELL 'sum', in the pinned program and in every row, IS THE sha256 OF THE DUMP (.gsa) THAT YthnlkijkgnmbhaaDoorProg.lean LOADS. Nothing in Lean hashes anything: it is a label: what it is worth is what the hold of that sum in a sandbox is worth. -/
noncomputable def Tryd.pinned : Pinned := { name := "ythnlkijkgnmbhaadoor", sum := "c5ebe101b0d84494bdd05eda9de034b8467917d70862cc484821eb3e69d8c0bc", checked := Tryd.checked }
namespace Rows
def none {H : Type} : Left H := { results := [], args := [] }

/- WHAT THE LISTED PACKAGE-LEVEL VARIABLES READ AS WHEN THE CALL BEGINS. Each datum BY PROGRAM (the guide's laid-datum.mjs) off the statement by which the dump's own 'gosem.cut.vars' lays the variable. In a bare row this is a premise. The card (YthnlkijkgnmbhaaDoorCards.lean) ties it to the program's text. -/
def laid_synthesis_value_typeNames {H : Type} : DataW H := .agg [.lit (.string []), .lit (.string [98, 111, 111, 108]), .lit (.string [105, 110, 116]), .lit (.string [116, 101, 120, 116]), .lit (.string [98, 105, 116, 115]), .lit (.string [105, 110, 116, 115]), .lit (.string [116, 101, 120, 116, 115]), .lit (.string [116, 97, 98, 108, 101]), .lit (.string [112, 97, 116, 116, 101, 114, 110])]

/-- 'synthesislaw19.DomainSizes': WHATEVER THE INPUT: true; the input reads as it did. -/
def domainSizesSpec : ChangeSpec := { name := "domainSizes", fn := fun _ => fun
  | [d] => { results := [.lit (.bool true)], args := [d] }
  | _ => none }
def domainSizesRow : OpenClaim := { program := "ythnlkijkgnmbhaadoor", sum := "c5ebe101b0d84494bdd05eda9de034b8467917d70862cc484821eb3e69d8c0bc", func := "synthesis/synthesislaw19.DomainSizes", spec := "domainSizes", unfollowed := true, recurses := true, named := ["synthesis/value.typeNames"], loops := true, apart := false, laid := [("synthesis/value.typeNames", laid_synthesis_value_typeNames)] }
def DomainSizesSaid : Prop := domainSizesRow.holds Tryd.pinned (OpenSpec.ofChange domainSizesSpec)

/-- ITS FALSE NEIGHBOUR: 'it returns false'. Refute it at one input. -/
def domainSizesWrong : ChangeSpec := { name := "domainSizes", fn := fun _ => fun
  | [d] => { results := [.lit (.bool false)], args := [d] }
  | _ => none }
def DomainSizesWrongFalsely : Prop := domainSizesRow.holds Tryd.pinned (OpenSpec.ofChange domainSizesWrong)

/-- 'synthesislaw19.DomainSmalls': WHATEVER THE INPUT: true; the input reads as it did. -/
def domainSmallsSpec : ChangeSpec := { name := "domainSmalls", fn := fun _ => fun
  | [d1, d2] => { results := [.lit (.bool true)], args := [d1, d2] }
  | _ => none }
def domainSmallsRow : OpenClaim := { program := "ythnlkijkgnmbhaadoor", sum := "c5ebe101b0d84494bdd05eda9de034b8467917d70862cc484821eb3e69d8c0bc", func := "synthesis/synthesislaw19.DomainSmalls", spec := "domainSmalls", inPlace := ["internal/bytealg.abigen_runtime_cmpstring"], unfollowed := true, recurses := true, named := ["synthesis/value.typeNames"], apart := false, laid := [("synthesis/value.typeNames", laid_synthesis_value_typeNames)] }
def DomainSmallsSaid : Prop := domainSmallsRow.holds Tryd.pinned (OpenSpec.ofChange domainSmallsSpec)

/-- ITS FALSE NEIGHBOUR: 'it returns false'. Refute it at one input. -/
def domainSmallsWrong : ChangeSpec := { name := "domainSmalls", fn := fun _ => fun
  | [d1, d2] => { results := [.lit (.bool false)], args := [d1, d2] }
  | _ => none }
def DomainSmallsWrongFalsely : Prop := domainSmallsRow.holds Tryd.pinned (OpenSpec.ofChange domainSmallsWrong)

/-- 'synthesislaw19.DomainRestricts': WHATEVER THE INPUT: true; the input reads as it did. -/
def domainRestrictsSpec : ChangeSpec := { name := "domainRestricts", fn := fun _ => fun
  | [d1, d2, d3] => { results := [.lit (.bool true)], args := [d1, d2, d3] }
  | _ => none }
def domainRestrictsRow : OpenClaim := { program := "ythnlkijkgnmbhaadoor", sum := "c5ebe101b0d84494bdd05eda9de034b8467917d70862cc484821eb3e69d8c0bc", func := "synthesis/synthesislaw19.DomainRestricts", spec := "domainRestricts", unfollowed := true, recurses := true, named := ["synthesis/value.typeNames"], loops := true, apart := false, laid := [("synthesis/value.typeNames", laid_synthesis_value_typeNames)] }
def DomainRestrictsSaid : Prop := domainRestrictsRow.holds Tryd.pinned (OpenSpec.ofChange domainRestrictsSpec)

/-- ITS FALSE NEIGHBOUR: 'it returns false'. Refute it at one input. -/
def domainRestrictsWrong : ChangeSpec := { name := "domainRestricts", fn := fun _ => fun
  | [d1, d2, d3] => { results := [.lit (.bool false)], args := [d1, d2, d3] }
  | _ => none }
def DomainRestrictsWrongFalsely : Prop := domainRestrictsRow.holds Tryd.pinned (OpenSpec.ofChange domainRestrictsWrong)

/-- 'synthesislaw19.DomainSteps': WHATEVER THE INPUT: true; the input reads as it did. -/
def domainStepsSpec : ChangeSpec := { name := "domainSteps", fn := fun _ => fun
  | [d1, d2] => { results := [.lit (.bool true)], args := [d1, d2] }
  | _ => none }
def domainStepsRow : OpenClaim := { program := "ythnlkijkgnmbhaadoor", sum := "c5ebe101b0d84494bdd05eda9de034b8467917d70862cc484821eb3e69d8c0bc", func := "synthesis/synthesislaw19.DomainSteps", spec := "domainSteps", inPlace := ["internal/bytealg.abigen_runtime_cmpstring"], unfollowed := true, recurses := true, named := ["synthesis/value.typeNames"], loops := true, apart := false, laid := [("synthesis/value.typeNames", laid_synthesis_value_typeNames)] }
def DomainStepsSaid : Prop := domainStepsRow.holds Tryd.pinned (OpenSpec.ofChange domainStepsSpec)

/-- ITS FALSE NEIGHBOUR: 'it returns false'. Refute it at one input. -/
def domainStepsWrong : ChangeSpec := { name := "domainSteps", fn := fun _ => fun
  | [d1, d2] => { results := [.lit (.bool false)], args := [d1, d2] }
  | _ => none }
def DomainStepsWrongFalsely : Prop := domainStepsRow.holds Tryd.pinned (OpenSpec.ofChange domainStepsWrong)

/- THE SECOND FORM. 'bulk': how many values and letters a reading holds, each counted each time it is reached (what is shared counts as often as it is met; a slice's spare places count too). A statement '..UptoSaid' is the law's where the arguments, and the package variables that the reading takes, are together of bulk at most 1048576: NARROWER than '..Said'. Prove '..Said' where nothing that the law and all that it calls make is longer than what came in: it says more and counts as full. Else prove '..UptoSaid'. A law counts once. -/
mutual
def uptoBulk {H : Type} : DataW H → Nat
  | .lit (.string bytes) => bytes.length + 1
  | .lit _ => 1
  | .nil => 1
  | .ptr d => uptoBulk d + 1
  | .slice elems spare => uptoBulkAll elems + uptoBulkAll spare + 1
  | .agg parts => uptoBulkAll parts + 1
  | .iface _ d => uptoBulk d + 1
  | .map entries => uptoBulkEntries entries + 1
  | .held _ => 1
def uptoBulkAll {H : Type} : List (DataW H) → Nat
  | [] => 0
  | d :: r => uptoBulk d + uptoBulkAll r
def uptoBulkEntries {H : Type} : List (Lit × DataW H) → Nat
  | [] => 0
  | x :: r => uptoBulkEntry x + uptoBulkEntries r
def uptoBulkEntry {H : Type} : Lit × DataW H → Nat
  | (.string bytes, d) => bytes.length + uptoBulk d + 1
  | (_, d) => uptoBulk d + 1
 end
def uptoSmall : (H : Type) → List (DataW H) → Bool := fun _ ds => decide (uptoBulkAll ds ≤ 1048576)
def OpenSpec.upto (s : _root_.Go.ChangeSpec) : _root_.Go.OpenSpec := { _root_.Go.OpenSpec.ofChange s with cond := some uptoSmall }

/-- 'synthesislaw19.DomainSizes', WHERE WHAT IT READS IS OF BULK AT MOST 1048576: true; the input reads as it did. -/
def domainSizesUptoRow : OpenClaim := { program := "ythnlkijkgnmbhaadoor", sum := "c5ebe101b0d84494bdd05eda9de034b8467917d70862cc484821eb3e69d8c0bc", func := "synthesis/synthesislaw19.DomainSizes", spec := "domainSizes", unfollowed := true, recurses := true, named := ["synthesis/value.typeNames"], loops := true, apart := false, laid := [("synthesis/value.typeNames", laid_synthesis_value_typeNames)], narrowed := true }
def DomainSizesUptoSaid : Prop := domainSizesUptoRow.holds Tryd.pinned (OpenSpec.upto domainSizesSpec)

/-- 'synthesislaw19.DomainSmalls', WHERE WHAT IT READS IS OF BULK AT MOST 1048576: true; the input reads as it did. -/
def domainSmallsUptoRow : OpenClaim := { program := "ythnlkijkgnmbhaadoor", sum := "c5ebe101b0d84494bdd05eda9de034b8467917d70862cc484821eb3e69d8c0bc", func := "synthesis/synthesislaw19.DomainSmalls", spec := "domainSmalls", inPlace := ["internal/bytealg.abigen_runtime_cmpstring"], unfollowed := true, recurses := true, named := ["synthesis/value.typeNames"], apart := false, laid := [("synthesis/value.typeNames", laid_synthesis_value_typeNames)], narrowed := true }
def DomainSmallsUptoSaid : Prop := domainSmallsUptoRow.holds Tryd.pinned (OpenSpec.upto domainSmallsSpec)

/-- 'synthesislaw19.DomainRestricts', WHERE WHAT IT READS IS OF BULK AT MOST 1048576: true; the input reads as it did. -/
def domainRestrictsUptoRow : OpenClaim := { program := "ythnlkijkgnmbhaadoor", sum := "c5ebe101b0d84494bdd05eda9de034b8467917d70862cc484821eb3e69d8c0bc", func := "synthesis/synthesislaw19.DomainRestricts", spec := "domainRestricts", unfollowed := true, recurses := true, named := ["synthesis/value.typeNames"], loops := true, apart := false, laid := [("synthesis/value.typeNames", laid_synthesis_value_typeNames)], narrowed := true }
def DomainRestrictsUptoSaid : Prop := domainRestrictsUptoRow.holds Tryd.pinned (OpenSpec.upto domainRestrictsSpec)

/-- 'synthesislaw19.DomainSteps', WHERE WHAT IT READS IS OF BULK AT MOST 1048576: true; the input reads as it did. -/
def domainStepsUptoRow : OpenClaim := { program := "ythnlkijkgnmbhaadoor", sum := "c5ebe101b0d84494bdd05eda9de034b8467917d70862cc484821eb3e69d8c0bc", func := "synthesis/synthesislaw19.DomainSteps", spec := "domainSteps", inPlace := ["internal/bytealg.abigen_runtime_cmpstring"], unfollowed := true, recurses := true, named := ["synthesis/value.typeNames"], loops := true, apart := false, laid := [("synthesis/value.typeNames", laid_synthesis_value_typeNames)], narrowed := true }
def DomainStepsUptoSaid : Prop := domainStepsUptoRow.holds Tryd.pinned (OpenSpec.upto domainStepsSpec)

end Rows
end Go.Proofs.YthnlkijkgnmbhaaDoor
