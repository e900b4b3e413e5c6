/-
  The walk of DomainChecks. Nothing is assumed.
-/
import Derived.Test.YthfdlaphglpnpaaDoorDmRck
import Derived.Test.YthfdlaphglpnpaaDoorDmAlive
import Derived.Test.YthfdlaphglpnpaaDoorDmChd
namespace Go.Proofs.YthfdlaphglpnpaaDoor
open Go.RowKit
open Go.Sort (grow)

set_option maxRecDepth 100000 in
set_option maxHeartbeats 3200000 in
theorem lawChecks_any (l : List (List V)) (x : Value) (y : Value) (ts : List Int) (w : World) (hx : LAx w w.heap.size x l) (hy : LInts w w.heap.size y ts) (hN : Names w) :
    Calls Tryd.prog 3 #[.agg #[x], y] w fun e w' => e = .returned (.bool true) ∧ Below w.heap.size w w' := by
  have HX := Lib.hid hx
  obtain ⟨oa, ca, rfl, _, hlm⟩ := hx.form
  clear hx
  have HY := Lib.hid hy
  obtain ⟨oy, cy, rfl, _, _⟩ := hy
  obtain ⟨w0, hw0⟩ : ∃ w0, w0 = w.alloc (.cells #[.slice oa l.length ca] 24) := ⟨_, rfl⟩
  have hb0 : Below w.heap.size w w0 := by rw [hw0]; exact below1 _ _
  have hd : w0.cell? ⟨w.heap.size, 0, none⟩ = some (.slice oa l.length ca) := by rw [hw0]; exact cell_at _ _ _ _ _ rfl
  have hs0 : w.heap.size ≤ w0.heap.size := hb0.size
  have hrg : ∀ d os, Below w.heap.size w (grow (redrawn w0 d) os) := fun d os => hb0.trans ((below_regrown w0 d os).mono hs0)
  have re1 := fun d os => Calls.regrown_of (smallD_any l _ (grow (redrawn w0 d) os) w.heap.size (HX.out.later (hrg d os)) (hrg d os).size)
  have re4 := fun d os => Calls.regrown_of (alive_any (grow (redrawn w0 d) os) (hN.later (hrg d os)))
  have q0 := fun d os => cell_regrown hd d os
  have HB0 := Lib.hid hb0
  have HRG := Lib.hid hrg
  clear hb0 hrg hN hd
  by_cases hsm : smD l = true
  · have HF := Lib.hid (smD_fits hsm)
    have re2 := fun d os => Calls.regrown_of (dcheck_any l ts (.slice oa l.length ca) (.slice oy ts.length cy) (grow (redrawn w0 d) os) w.heap.size (HX.out.later (HRG.out d os)) (LInts.later HY.out (HRG.out d os)) (HRG.out d os).size (fun a ha => by have := (HF.out.2 a ha).1; omega))
    have re3 := fun d os => Calls.regrown_of (rcheck_any l ts (.slice oa l.length ca) (.slice oy ts.length cy) (grow (redrawn w0 d) os) w.heap.size (HX.out.later (HRG.out d os)) (LInts.later HY.out (HRG.out d os)) (HRG.out d os).size)
    rw [hsm] at re1
    clear hsm
    by_cases h20 : 20 < (ts.length : Int)
    · go_enter Tryd.func3, Tryd.ntmps3
      go_wp2_with fail
      rw [← hw0]
      clear hw0
      refine wp_region_quiet_below (by kernel_rfl) (by kernel_rfl) ?_
      repeat (quiet_step (first | with_reducible exact re1 _ _ | with_reducible exact re2 _ _ | with_reducible exact re3 _ _ | with_reducible exact re4 _ _))
      refine wpQuiet_nil ?_
      intro w' hw'
      obtain ⟨p, rfl⟩ := hw'
      have HBE := Lib.hid (HRG.out p.d p.os)
      go_wp2_with fail
      go_ret
      exact ⟨rfl, HBE.out⟩
    · go_enter Tryd.func3, Tryd.ntmps3
      go_wp2_with fail
      rw [← hw0]
      clear hw0
      refine wp_region_quiet_below (by kernel_rfl) (by kernel_rfl) ?_
      repeat (quiet_step (first | with_reducible exact re1 _ _ | with_reducible exact re2 _ _ | with_reducible exact re3 _ _ | with_reducible exact re4 _ _))
      refine wpQuiet_nil ?_
      intro w' hw'
      obtain ⟨p, rfl⟩ := hw'
      have HBE := Lib.hid (HRG.out p.d p.os)
      go_wp2_with fail
      go_ret
      exact ⟨rfl, HBE.out⟩
  · rw [show smD l = false by simpa using hsm] at re1
    clear hsm
    go_enter Tryd.func3, Tryd.ntmps3
    go_wp2_with fail
    rw [← hw0]
    clear hw0
    refine wp_region_quiet_below (by kernel_rfl) (by kernel_rfl) ?_
    repeat (quiet_step (first | with_reducible exact re1 _ _ | with_reducible exact re4 _ _))
    refine wpQuiet_nil ?_
    intro w' hw'
    obtain ⟨p, rfl⟩ := hw'
    have HBE := Lib.hid (HRG.out p.d p.os)
    go_wp2_with fail
    go_ret
    exact ⟨rfl, HBE.out⟩

end Go.Proofs.YthfdlaphglpnpaaDoor
