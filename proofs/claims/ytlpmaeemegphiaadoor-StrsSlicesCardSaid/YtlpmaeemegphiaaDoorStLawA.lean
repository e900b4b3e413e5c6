/-
  The walk of StrsSlices. Nothing is assumed.
-/
import Derived.Test.YtlpmaeemegphiaaDoorStEnv
namespace Go.Proofs.YtlpmaeemegphiaaDoor
open Go.RowKit

set_option maxRecDepth 100000 in
set_option maxHeartbeats 1600000 in
theorem lawSlices_any (s : ByteArray) (a b : Int) (w : World) (hE : Env w) (ha : -9223372036854775808 ≤ a) :
    Calls Tryd.prog 3 #[.string s, .int .i64 a, .int .i64 b] w fun e w' => e = .returned (.bool true) ∧ Below w.heap.size w w' := by
  by_cases hl : 100 < (s.size : Int)
  · go_enter Tryd.func3, Tryd.ntmps3
    go_wp2_with fail
    refine (alive_any w hE).mono ?_
    rintro e w2 ⟨rfl, hb⟩
    go_wp2_with fail
    go_ret
    exact ⟨rfl, hb⟩
  have hs : s.size ≤ 1000 := by omega
  have H1 := fun w => slice_any s a b w
  have H2 := fun w => rslice_any s a b w
  have H3 := fun w => char_any s a w ha hs
  have H4 := fun w => rchar_any s a w ha hs
  have HA := fun w h => alive_any w h
  generalize slS s a b = S1 at *
  generalize slE s a b = E1 at *
  generalize chS s a = S2 at *
  generalize ixE a s.size = E2 at *
  clear ha
  go_enter Tryd.func3, Tryd.ntmps3
  go_wp2_with (first | (go_at_call 13; refine (H1 _).mono ?_; rintro e w' ⟨rfl, hw'⟩; obtain rfl := hw'.symm) | (go_at_call 14; refine (H2 _).mono ?_; rintro e w' ⟨rfl, hw'⟩; obtain rfl := hw'.symm) | (go_at_call 15; refine (H3 _).mono ?_; rintro e w' ⟨rfl, hw'⟩; obtain rfl := hw'.symm) | (go_at_call 16; refine (H4 _).mono ?_; rintro e w' ⟨rfl, hw'⟩; obtain rfl := hw'.symm))
  refine (alive_any _ hE).mono ?_
  rintro e w2 ⟨rfl, hb⟩
  go_wp2_with fail
  go_ret
  exact ⟨rfl, hb⟩

end Go.Proofs.YtlpmaeemegphiaaDoor
