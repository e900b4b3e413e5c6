/-
  The examples of the chapter, reckoned. Nothing is assumed.
-/
import Derived.Test.YtbogiigdadljpaaDoorPtErase
namespace Go.Proofs.YtbogiigdadljpaaDoor
open Go.RowKit Go.Shelf

def pA : ByteArray := ⟨#[91, 48, 45, 57, 93, 43]⟩
def pB : ByteArray := ⟨#[91, 48, 45, 57, 93, 91, 48, 45, 57, 93, 42]⟩
def sA : ByteArray := ⟨#[97, 49, 50, 98, 51]⟩
def pC : ByteArray := ⟨#[97, 42]⟩
def sC : ByteArray := ⟨#[98, 97, 97]⟩
set_option maxRecDepth 100000
theorem eA : errP pA = 0 := by kernel_rfl
theorem eB : errP pB = 0 := by kernel_rfl
theorem eC : errP pC = 0 := by kernel_rfl
theorem mA : matS pA sA = [] := by kernel_rfl
theorem mB : matS pB sA = [(1, 3), (4, 5)] := by kernel_rfl
theorem mC : matS pC sC = [(1, 3)] := by kernel_rfl
end Go.Proofs.YtbogiigdadljpaaDoor
