/-
  The walk of BitvecSolve. Nothing is assumed.
-/
import Derived.Test.YtlpmaeemegphiaaBvAlive
namespace Go.Proofs.Ytlpmaeemegphiaa
open Go.RowKit

set_option maxRecDepth 100000 in
set_option maxHeartbeats 1600000 in
theorem lawSolve_any (op : ByteArray) (r k : Int) (w : World) : Calls Try.prog 7 #[.string op, .int .i64 r, .int .i64 k] w fun e w' => e = .returned (.bool true) ∧ Below w.heap.size w w' := by
  obtain ⟨l, hl, H1, H2⟩ := solve_both op r k
  go_enter Try.func7, Try.ntmps7
  go_wp2_with fail
  refine (H1 _).mono ?_
  rintro e w1 ⟨⟨v, rfl, hown⟩, hb1⟩
  have HV := Lib.hid (hown.holds (by omega)); clear hown
  go_wp2_with fail
  refine (H2 _).mono ?_
  rintro e w2 ⟨⟨v2, rfl, hown⟩, hb2⟩
  have HV2 := Lib.hid (hown.holds (by omega)); clear hown
  have hb := hb1.trans (hb2.mono hb1.size)
  have HV1 := Lib.hid ((HV.out.later hb2).mono hb2.size)
  clear hb1 hb2 HV
  go_wp2_with fail
  refine (ints_eq v v2 l _ w2.heap.size HV1.out HV2.out (Nat.le_refl _)).mono ?_
  rintro e w3 ⟨rfl, hb1⟩; replace hb := hb.trans (hb1.mono hb.size); clear hb1
  go_wp2_with fail
  refine (alive_any _).mono ?_
  rintro e w4 ⟨rfl, hb1⟩; replace hb := hb.trans (hb1.mono hb.size); clear hb1
  go_wp2_with fail
  go_ret
  exact ⟨rfl, hb⟩

end Go.Proofs.Ytlpmaeemegphiaa
