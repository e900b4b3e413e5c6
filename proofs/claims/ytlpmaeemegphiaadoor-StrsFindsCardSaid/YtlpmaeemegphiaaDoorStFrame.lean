/-
  The frame of the rows of layer 4: what the list of the variables gives; a world for the witness. Nothing is assumed but what each row says.
-/
import Derived.Test.YtlpmaeemegphiaaDoorStEnv
import Derived.Test.YtlpmaeemegphiaaDoorEnd
import Derived.Test.YtlpmaeemegphiaaDoorCards
import Derived.Test.YtlpmaeemegphiaaDoorTie
import Derived.Stop.LaidErr
namespace Go.Proofs.YtlpmaeemegphiaaDoor
open Go.ChangeShapes Go.WideShapes Go.ChangeAt Go.RowKit

theorem tPow : (Tryd.prog.globals[1]?).map (·.type) = some 101 := by kernel_rfl
theorem cPow : Tryd.prog.cellsOf 101 = 20 := by kernel_rfl
theorem cU64 : Tryd.prog.cellsOf 88 = 1 := by kernel_rfl
theorem dPow : (Rows.laid_internal_strconv_uint64pow10 : DataW Unit) = Lib.tabData .u64 Lib.pow10Tab := by kernel_rfl

theorem env_of {W : World} {x y : String × DataW Unit} {rest : List (String × DataW Unit)} (h : laidMet Tryd.prog (x :: y :: ("internal/strconv.uint64pow10", Rows.laid_internal_strconv_uint64pow10) :: rest) W) (hS : W.ShapedOpen Tryd.prog) : Env W := by
  refine ⟨Tryd.laysM143.s1_3 W hS, ?_⟩
  have h2 := laidMet.tail (laidMet.tail h)
  rw [dPow] at h2
  exact Lib.tabIs_of_head gPow tPow Tryd.underlying101 Tryd.underlying88 cU64 cPow h2

theorem i64_lo (x : Int) (h : (Lit.int .i64 x).wf = true) : -9223372036854775808 ≤ x := by
  simp [Lit.wf, IntKind.min, IntKind.max, IntKind.bits, IntKind.signed] at h
  omega
theorem i64_hi (x : Int) (h : (Lit.int .i64 x).wf = true) : x ≤ 9223372036854775807 := by
  simp [Lit.wf, IntKind.min, IntKind.max, IntKind.bits, IntKind.signed] at h
  omega

/-- The cells that a datum of numbers, of lists of numbers or of lists of those lays. -/
def dcells0 : DataW Unit → List Value
  | .lit (.int k z) => [.int k z]
  | _ => []
def dcells1 : DataW Unit → List Value
  | .lit (.int k z) => [.int k z]
  | .agg l => l.flatMap dcells0
  | _ => []
def dcells2 : DataW Unit → List Value
  | .lit (.int k z) => [.int k z]
  | .agg l => l.flatMap dcells1
  | _ => []
noncomputable def laid1 (g : Nat) (d : DataW Unit) (w : World) : World :=
  { w with heap := w.heap.modify g fun
      | .cells _ t frozen => .cells (dcells2 d).toArray t frozen
      | o => o }
/-- A world for the witness: the settled one, the tables holding what their initialisers lay. -/
noncomputable def laidWorld (os : Os) : World :=
  laid1 4 Rows.laid_math_bits_deBruijn32tab (laid1 5 Rows.laid_math_bits_deBruijn64tab (laid1 1 Rows.laid_internal_strconv_uint64pow10
    (laid1 3 Rows.laid_unicode_utf8_acceptRanges (laid1 2 Rows.laid_unicode_utf8_first (World.holding Tryd.prog os ⟨#[], #[], []⟩)))))

end Go.Proofs.YtlpmaeemegphiaaDoor
