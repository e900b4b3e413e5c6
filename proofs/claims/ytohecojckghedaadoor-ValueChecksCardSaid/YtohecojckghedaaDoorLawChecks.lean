/-
  The walk of ValueChecks.
-/
import Derived.Test.YtohecojckghedaaDoorLaw0
namespace Go.Proofs.YtohecojckghedaaDoor
open Go.RowKit
open Go.Sort (grow)

set_option maxRecDepth 100000 in
set_option maxHeartbeats 1600000 in
theorem lawChecks_any (v : V) (sl : Value) (w : World) (B : Nat) (hrep : Rep w B sl v.l) (hB : B ≤ w.heap.size) (hN : Names w) :
    Calls Tryd.prog 3 #[.agg #[.int .i64 v.t, .int .i64 v.n, .string v.s, sl]] w fun e w' => e = .returned (.bool true) ∧ Below w.heap.size w w' := by
  obtain ⟨oa, cap, rfl, hlc, hm, hel⟩ := hrep.slice
  clear hel
  go_enter Tryd.func3, Tryd.ntmps3
  go_wp2_with fail
  have hb0 := below1 w (.cells #[.int .i64 v.t, .int .i64 v.n, .string v.s, .slice oa v.l.length cap] 24)
  obtain ⟨c0, c1, c2, c3⟩ := box_later (Below.refl (w.heap.size + 1) (w.alloc (.cells #[.int .i64 v.t, .int .i64 v.n, .string v.s, .slice oa v.l.length cap] 24)))
  have hW0 := hrep.later (hb0.mono hB)
  have hNW := hN.later hb0
  generalize w.alloc (.cells #[.int .i64 v.t, .int .i64 v.n, .string v.s, .slice oa v.l.length cap] 24) = W at *
  have hBW : B ≤ W.heap.size := Nat.le_trans hB hb0.size
  have q0 := fun d os => cell_regrown c0 d os
  have q1 := fun d os => cell_regrown c1 d os
  have q2 := fun d os => cell_regrown c2 d os
  have q3 := fun d os => cell_regrown c3 d os
  have r18 := fun d os => Calls.regrown_of (small_any v _ (grow (redrawn W d) os) B (hW0.later ((below_regrown W d os).mono hBW)) (Nat.le_trans hBW (below_regrown W d os).size))
  have r19 := fun d os => Calls.regrown_of (check_any v _ (grow (redrawn W d) os) B (hW0.later ((below_regrown W d os).mono hBW)) (Nat.le_trans hBW (below_regrown W d os).size))
  have r20 := fun d os => Calls.regrown_of (refCheck_any v _ (grow (redrawn W d) os) B (hW0.later ((below_regrown W d os).mono hBW)) (Nat.le_trans hBW (below_regrown W d os).size))
  have r21 := fun d os => Calls.regrown_of (alive_any (grow (redrawn W d) os) (hNW.later (below_regrown W d os)))
  clear c0 c1 c2 c3 hN hrep hW0 hNW
  cases hsm : v.small
  · have HSM := Lib.hid hsm
    rw [hsm] at r18
    clear hsm
    refine wp_region_quiet_below (by kernel_rfl) (by kernel_rfl) ?_
    repeat (quiet_step (first | exact r18 _ _ | exact r21 _ _))
    refine wpQuiet_nil ?_
    intro w' hw'
    obtain ⟨p, rfl⟩ := hw'
    go_wp2_with fail
    go_ret
    exact ⟨rfl, hb0.trans ((below_regrown W _ _).mono hb0.size)⟩
  · have HSM := Lib.hid hsm
    rw [hsm] at r18
    clear hsm
    refine wp_region_quiet_below (by kernel_rfl) (by kernel_rfl) ?_
    repeat (quiet_step (first | exact r18 _ _ | exact r19 _ _ | exact r20 _ _ | exact r21 _ _))
    refine wpQuiet_nil ?_
    intro w' hw'
    obtain ⟨p, rfl⟩ := hw'
    go_wp2_with fail
    go_ret
    exact ⟨rfl, hb0.trans ((below_regrown W _ _).mono hb0.size)⟩

end Go.Proofs.YtohecojckghedaaDoor
