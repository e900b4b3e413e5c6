/-
  The frame of the rows of layer 5: what the list of the variables gives; a world for the witness. Nothing is assumed but what each row says.
-/
import Derived.Test.YtaipaddfehpmgaaDoorPaAwake
import Derived.Test.YtaipaddfehpmgaaDoorEnd
import Derived.Test.YtaipaddfehpmgaaDoorCards
import Derived.Test.YtaipaddfehpmgaaDoorTie
import Derived.Lib.LaidTab
import Derived.Lib.LaidU8
import Derived.Stop.LaidErr
namespace Go.Proofs.YtaipaddfehpmgaaDoor
open Go.ChangeShapes Go.WideShapes Go.ChangeAt Go.RowKit

theorem gAl : Tryd.prog.globalNamed "synthesis/pattern.alphabet" = some 0 := by kernel_rfl
theorem tAl : (Tryd.prog.globals[0]?).map (·.type) = some 121 := by kernel_rfl
theorem cAl : Tryd.prog.cellsOf 121 = 4 := by kernel_rfl
theorem cU64 : Tryd.prog.cellsOf 32 = 1 := by kernel_rfl
theorem dAl : (Rows.laid_synthesis_pattern_alphabet : DataW Unit) = Lib.tabData .u64 [18446744069414584320, 9223372036854775807, 0, 0] := by kernel_rfl
theorem al_of {W : World} (h : laidMet Tryd.prog [("synthesis/pattern.alphabet", Rows.laid_synthesis_pattern_alphabet)] W) : AL W := by
  rw [dAl] at h
  have hP := Lib.tabIs_of_head gAl tAl Tryd.underlying121 Tryd.underlying32 cU64 cAl h
  have hv : ∀ i, W.cell? ⟨0, i, none⟩ = _ := fun i => World.var?_cell gAl hP i
  exact ⟨(hv 0).trans rfl, (hv 1).trans rfl, (hv 2).trans rfl, (hv 3).trans rfl⟩

/-- The cells that a datum of numbers lays. -/
def dcells0 : DataW Unit → List Value
  | .lit (.int k z) => [.int k z]
  | _ => []
def dcells1 : DataW Unit → List Value
  | .lit (.int k z) => [.int k z]
  | .agg l => l.flatMap dcells0
  | _ => []
noncomputable def laid1 (g : Nat) (d : DataW Unit) (w : World) : World :=
  { w with heap := w.heap.modify g fun
      | .cells _ t frozen => .cells (dcells1 d).toArray t frozen
      | o => o }
/-- A world for the witness: the settled one, the table holding what its initialiser lays. -/
noncomputable def laidWorld (os : Os) : World := laid1 0 Rows.laid_synthesis_pattern_alphabet (World.holding Tryd.prog os ⟨#[], #[], []⟩)

end Go.Proofs.YtaipaddfehpmgaaDoor
