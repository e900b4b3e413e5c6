/-
  The walk of ValueReads.
-/
import Derived.Test.YtohecojckghedaaDoorLawReads0
import Derived.Test.YtohecojckghedaaDoorLawReads5
import Derived.Test.YtohecojckghedaaDoorLawReads6
import Derived.Test.YtohecojckghedaaDoorLawReads7
namespace Go.Proofs.YtohecojckghedaaDoor
open Go.RowKit

theorem lawReads_any (v : V) (sl : Value) (w : World) (B : Nat) (hrep : Rep w B sl v.l) (hB : B ≤ w.heap.size) (hN : Names w) :
    Calls Tryd.prog 9 #[.agg #[.int .i64 v.t, .int .i64 v.n, .string v.s, sl]] w fun e w' => e = .returned (.bool true) ∧ Below w.heap.size w w' := by
  by_cases h : v.small = true ∧ v.chk = 0 ∧ (v.t = 5 ∨ v.t = 6 ∨ v.t = 7)
  · obtain ⟨hs, hc, h5 | h6 | h7⟩ := h
    · exact lawReads_5 v sl w B hrep hB hN hs hc h5
    · exact lawReads_6 v sl w B hrep hB hN hs hc h6
    · exact lawReads_7 v sl w B hrep hB hN hs hc h7
  · exact lawReads_none v sl w B hrep hB hN (fun hs h' => h ⟨hs, h'⟩)

end Go.Proofs.YtohecojckghedaaDoor
