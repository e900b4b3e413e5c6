/-
  The walk of ValueBuilds, whole.
-/
import Derived.Test.YtohecojckghedaaDoorLawBuilds
import Derived.Test.YtohecojckghedaaDoorFrame2
namespace Go.Proofs.YtohecojckghedaaDoor
open Go.RowKit

theorem lawBuilds_any (b : Bool) (n : Int) (s : ByteArray) (si st sr : Value) (zs : List Int) (ts : List ByteArray) (rs : List (List ByteArray)) (w : World) (B : Nat) (hi : LInts w B si zs) (ht : LStrs w B st ts) (hr : LRows w B sr rs) (hB : B ≤ w.heap.size) (hN : Names w) :
    Calls Tryd.prog 8 #[.agg #[.bool b, .int .i64 n, .string s, si, st, sr]] w fun e w' => e = .returned (.bool true) ∧ Below w.heap.size w w' := by
  by_cases h : 40 < zs.length ∨ 40 < ts.length ∨ 40 < rs.length
  · exact lawBuilds_long b n s si st sr zs ts rs w B hi ht hr hN h
  · exact lawBuilds_short b n s si st sr zs ts rs w B hi ht hr hB hN (by omega) (by omega) (by omega)

end Go.Proofs.YtohecojckghedaaDoor
