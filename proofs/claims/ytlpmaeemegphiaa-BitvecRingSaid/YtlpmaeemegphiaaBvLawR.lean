/-
  The walk of BitvecRing. Nothing is assumed.
-/
import Derived.Test.YtlpmaeemegphiaaBvAlive
namespace Go.Proofs.Ytlpmaeemegphiaa
open Go.RowKit

set_option maxRecDepth 100000 in
set_option maxHeartbeats 3200000 in
theorem lawRing_any (x y z : Int) (hx0 : 0 ≤ x) (hx1 : x ≤ 255) (hy0 : 0 ≤ y) (hy1 : y ≤ 255) (hz0 : 0 ≤ z) (hz1 : z ≤ 255) (w : World) : Calls Try.prog 8 #[.int .u8 x, .int .u8 y, .int .u8 z] w fun e w' => e = .returned (.bool true) ∧ Below w.heap.size w w' := by
  have hb : Below w.heap.size w w := Below.refl _ _
  have ha := vld_mk hx0 hx1
  have hb' := vld_mk hy0 hy1
  have hc := vld_mk hz0 hz1
  have e0 : (bvAdd (bvAdd x y) z == bvAdd x (bvAdd y z)) = true := beq_iff_eq.2 (add_assoc8 ha hb' hc)
  have e1 : (bvAdd x y == bvAdd y x) = true := beq_iff_eq.2 (add_comm8 ha hb')
  have e2 : (bvAdd x 0 == x) = true := beq_iff_eq.2 (add_zero8 ha)
  have e3 : (bvMul (bvMul x y) z == bvMul x (bvMul y z)) = true := beq_iff_eq.2 (mul_assoc8 ha hb' hc)
  have e4 : (bvMul x y == bvMul y x) = true := beq_iff_eq.2 (mul_comm8 ha hb')
  have e5 : (bvMul x 1 == x) = true := beq_iff_eq.2 (mul_one8 ha)
  have e6 : (bvMul x (bvAdd y z) == bvAdd (bvMul x y) (bvMul x z)) = true := beq_iff_eq.2 (mul_add8 ha hb' hc)
  have e7 : (bvSub (bvAdd x y) y == x) = true := beq_iff_eq.2 (sub_add8 ha hb')
  have e8 : (bvLeft x 1 == bvAdd x x) = true := beq_iff_eq.2 (left_one8 ha)
  clear ha hb' hc
  go_enter Try.func8, Try.ntmps8
  go_wp2_with (first | (go_at_call 21; refine (add_any _ _ _).mono ?_; rintro e w1 ⟨rfl, hb1⟩; replace hb := hb.trans (hb1.mono hb.size); clear hb1) | (go_at_call 25; refine (mul_any _ _ _).mono ?_; rintro e w1 ⟨rfl, hb1⟩; replace hb := hb.trans (hb1.mono hb.size); clear hb1) | (go_at_call 23; refine (sub_any _ _ _).mono ?_; rintro e w1 ⟨rfl, hb1⟩; replace hb := hb.trans (hb1.mono hb.size); clear hb1) | (go_at_call 27; refine (left_any _ _ _).mono ?_; rintro e w1 ⟨rfl, hb1⟩; replace hb := hb.trans (hb1.mono hb.size); clear hb1) | (go_at_call 20; refine (alive_any _).mono ?_; rintro e w1 ⟨rfl, hb1⟩; replace hb := hb.trans (hb1.mono hb.size); clear hb1))
  go_ret
  exact ⟨rfl, hb⟩

end Go.Proofs.Ytlpmaeemegphiaa
