/-
  What fits a byte. Nothing is assumed.
-/
import Derived.Test.YtlpmaeemegphiaaRows
namespace Go.Proofs.Ytlpmaeemegphiaa
theorem u8_lo (x : Int) (h : (Lit.int .u8 x).wf = true) : 0 ≤ x := by
  simp [Lit.wf, IntKind.min, IntKind.max, IntKind.bits, IntKind.signed] at h
  omega
theorem u8_hi (x : Int) (h : (Lit.int .u8 x).wf = true) : x ≤ 255 := by
  simp [Lit.wf, IntKind.min, IntKind.max, IntKind.bits, IntKind.signed] at h
  omega
end Go.Proofs.Ytlpmaeemegphiaa
