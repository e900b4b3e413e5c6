/-
  The walk of StrsFinds. Nothing is assumed.
-/
import Derived.Test.YtlpmaeemegphiaaDoorStReplR
namespace Go.Proofs.YtlpmaeemegphiaaDoor
open Go.RowKit

set_option maxRecDepth 100000 in
set_option maxHeartbeats 1600000 in
theorem lawFinds_any (s old new : ByteArray) (w : World) (hE : Env w) :
    Calls Tryd.prog 6 #[.string s, .string old, .string new] w fun e w' => e = .returned (.bool true) ∧ Below w.heap.size w w' := by
  by_cases h1 : 100 < (s.size : Int)
  · skip
    go_enter Tryd.func6, Tryd.ntmps6
    go_wp2_with fail
    refine (alive_any w hE).mono ?_
    rintro e w2 ⟨rfl, hb⟩
    go_wp2_with fail
    go_ret
    exact ⟨rfl, hb⟩
  by_cases h2 : 100 < (old.size : Int)
  · skip
    go_enter Tryd.func6, Tryd.ntmps6
    go_wp2_with fail
    refine (alive_any w hE).mono ?_
    rintro e w2 ⟨rfl, hb⟩
    go_wp2_with fail
    go_ret
    exact ⟨rfl, hb⟩
  by_cases h3 : 100 < (new.size : Int)
  · skip
    go_enter Tryd.func6, Tryd.ntmps6
    go_wp2_with fail
    refine (alive_any w hE).mono ?_
    rintro e w2 ⟨rfl, hb⟩
    go_wp2_with fail
    go_ret
    exact ⟨rfl, hb⟩
  have hs : s.size ≤ 1000 := by omega
  have hol : old.size ≤ 1000 := by omega
  have hnw : new.size ≤ 1000 := by omega
  have H1 := fun w hE => replace_any s old new w hE hs (fun _ => hnw)
  have H2 := fun w => rreplace_any s old new w hs hnw hol
  have H3 := fun w hE => find_any s old w hE hs
  have H4 := fun w => rfind_any s old w hs hol
  generalize rcS s old new = S1 at *
  generalize rcE s old new = E1 at *
  generalize Lib.index s.data.toList old.data.toList = I1 at *
  clear hs hol hnw
  go_enter Tryd.func6, Tryd.ntmps6
  go_wp2_with fail
  refine (H1 _ hE).mono ?_
  rintro e w1 ⟨rfl, hb⟩
  go_wp2_with fail
  refine (H2 _).mono ?_
  rintro e w2 ⟨rfl, hb2⟩
  replace hb := hb.trans (hb2.mono hb.size)
  clear hb2
  have HE0 := Lib.hid (hE.later hb)
  clear H1 H2
  go_wp2_with (first | (go_at_call 27; refine (H3 _ HE0.out).mono ?_; rintro e w' ⟨rfl, hw'⟩; obtain rfl := hw'.symm) | (go_at_call 28; refine (H4 _).mono ?_; rintro e w' ⟨rfl, hw'⟩; obtain rfl := hw'.symm))
  refine (alive_any _ HE0.out).mono ?_
  rintro e wz ⟨rfl, hb2⟩
  go_wp2_with fail
  go_ret
  exact ⟨rfl, hb.trans (hb2.mono hb.size)⟩

end Go.Proofs.YtlpmaeemegphiaaDoor
