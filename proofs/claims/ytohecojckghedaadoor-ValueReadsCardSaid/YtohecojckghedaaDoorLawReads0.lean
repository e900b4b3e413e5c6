/-
  The walk of ValueReads, where nothing is read.
-/
import Derived.Test.YtohecojckghedaaDoorLawCompares
import Derived.Test.YtohecojckghedaaDoorRefGets
namespace Go.Proofs.YtohecojckghedaaDoor
open Go.RowKit
open Go.Sort (grow)

set_option maxRecDepth 100000 in
set_option maxHeartbeats 6400000 in
theorem lawReads_none (v : V) (sl : Value) (w : World) (B : Nat) (hrep : Rep w B sl v.l) (hB : B ≤ w.heap.size) (hN : Names w) (hg : v.small = true → ¬ (v.chk = 0 ∧ (v.t = 5 ∨ v.t = 6 ∨ v.t = 7))) :
    Calls Tryd.prog 9 #[.agg #[.int .i64 v.t, .int .i64 v.n, .string v.s, sl]] w fun e w' => e = .returned (.bool true) ∧ Below w.heap.size w w' := by
  have HG := Lib.hid hg; clear hg
  obtain ⟨oa, ca, rfl, _, _, hel⟩ := hrep.slice
  clear hel
  go_enter Tryd.func9, Tryd.ntmps9
  go_wp2_with fail
  have kk : Below w.heap.size w (w.alloc (.cells #[.int .i64 v.t, .int .i64 v.n, .string v.s, .slice oa v.l.length ca] 24)) := below1 _ _
  have x0 : Hid (Box (w.alloc (.cells #[.int .i64 v.t, .int .i64 v.n, .string v.s, .slice oa v.l.length ca] 24)) w.heap.size v (.slice oa v.l.length ca)) := Box.new v _ _ rfl
  have hzz : w.heap.size + 1 ≤ (w.alloc (.cells #[.int .i64 v.t, .int .i64 v.n, .string v.s, .slice oa v.l.length ca] 24)).heap.size := by simp
  have hr0 := Lib.hid (hrep.later (kk.mono hB))
  have hN0 := Lib.hid hN
  clear hrep hN
  generalize w.alloc (.cells #[.int .i64 v.t, .int .i64 v.n, .string v.s, .slice oa v.l.length ca] 24) = W at *
  have k0 : Below (w.heap.size + 1) W W := Below.refl _ _
  have HR : Hid (∀ w', Below (w.heap.size + 1) W w' → Rep w' B (.slice oa v.l.length ca) v.l) := fun w' h => hr0.out.later (h.mono (by omega))
  have FIN : Hid (∀ w', Below (w.heap.size + 1) W w' → Below w.heap.size w w') := fun w' h => kk.trans (h.mono (by omega))
  refine (small_any v _ W B (HR.out _ k0) (by omega)).mono ?_
  rintro e w1 ⟨rfl, hb1⟩
  have k1 : Below (w.heap.size + 1) W w1 := hb1.mono hzz
  have x1 := Lib.hid (x0.out.later hb1 (by omega))
  clear hb1
  obtain ⟨a0, a1, a2, a3⟩ := x1.out
  cases hs : v.small
  · have HS := Lib.hid hs; clear hs
    go_wp2_with fail
    refine (alive_any w1 (hN0.out.later (FIN.out _ k1))).mono ?_
    rintro e w9 ⟨rfl, hb9⟩
    go_wp2_with fail
    go_ret
    exact ⟨rfl, (FIN.out _ k1).trans (hb9.mono (by have := k1.size; omega))⟩
  have HH : Hid (¬ (v.chk = 0 ∧ (v.t = 5 ∨ v.t = 6 ∨ v.t = 7))) := HG.out hs
  have H5 : Hid (v.t ≠ 5 ∨ v.chk ≠ 0) := by have := HH.out; show _ ∨ _; omega
  have H6 : Hid (v.t ≠ 6 ∨ v.chk ≠ 0) := by have := HH.out; show _ ∨ _; omega
  have H7 : Hid (v.t ≠ 7 ∨ v.chk ≠ 0) := by have := HH.out; show _ ∨ _; omega
  clear HH HG
  have HS := Lib.hid hs; clear hs
  go_wp2_with fail
  refine (ints_bad v _ w1 B (HR.out _ k1) (by have := k1.size; omega) H5.out).mono ?_
  rintro e w2 ⟨rfl, hb2⟩
  have k2 : Below (w.heap.size + 1) W w2 := k1.trans (hb2.mono (by have := k1.size; omega))
  have x2 := Lib.hid (x1.out.later hb2 (by have := k1.size; omega))
  clear hb2
  obtain ⟨a0, a1, a2, a3⟩ := x2.out
  go_wp2_with fail
  refine (refInts_bad v _ w2 B (HR.out _ k2) (by have := k2.size; omega) H5.out).mono ?_
  rintro e w3 ⟨rfl, hb3⟩
  have k3 : Below (w.heap.size + 1) W w3 := k2.trans (hb3.mono (by have := k2.size; omega))
  have x3 := Lib.hid (x2.out.later hb3 (by have := k2.size; omega))
  clear hb3
  obtain ⟨a0, a1, a2, a3⟩ := x3.out
  go_wp2_with fail
  refine (texts_bad v _ w3 B (HR.out _ k3) (by have := k3.size; omega) H6.out).mono ?_
  rintro e w4 ⟨rfl, hb4⟩
  have k4 : Below (w.heap.size + 1) W w4 := k3.trans (hb4.mono (by have := k3.size; omega))
  have x4 := Lib.hid (x3.out.later hb4 (by have := k3.size; omega))
  clear hb4
  obtain ⟨a0, a1, a2, a3⟩ := x4.out
  go_wp2_with fail
  refine (refTexts_bad v _ w4 B (HR.out _ k4) (by have := k4.size; omega) H6.out).mono ?_
  rintro e w5 ⟨rfl, hb5⟩
  have k5 : Below (w.heap.size + 1) W w5 := k4.trans (hb5.mono (by have := k4.size; omega))
  have x5 := Lib.hid (x4.out.later hb5 (by have := k4.size; omega))
  clear hb5
  obtain ⟨a0, a1, a2, a3⟩ := x5.out
  go_wp2_with fail
  refine (rows_bad v _ w5 B (HR.out _ k5) (by have := k5.size; omega) H7.out).mono ?_
  rintro e w6 ⟨rfl, hb6⟩
  have k6 : Below (w.heap.size + 1) W w6 := k5.trans (hb6.mono (by have := k5.size; omega))
  have x6 := Lib.hid (x5.out.later hb6 (by have := k5.size; omega))
  clear hb6
  obtain ⟨a0, a1, a2, a3⟩ := x6.out
  go_wp2_with fail
  refine (refRows_bad v _ w6 B (HR.out _ k6) (by have := k6.size; omega) H7.out).mono ?_
  rintro e w7 ⟨rfl, hb7⟩
  have k7 : Below (w.heap.size + 1) W w7 := k6.trans (hb7.mono (by have := k6.size; omega))
  have x7 := Lib.hid (x6.out.later hb7 (by have := k6.size; omega))
  clear hb7
  obtain ⟨a0, a1, a2, a3⟩ := x7.out
  have KF := Lib.hid k7
  go_wp2_with fail
  have hs7 := k7.size
  have krg : ∀ d os, Below (w.heap.size + 1) W (grow (redrawn w7 d) os) := fun d os => k7.trans ((below_regrown w7 d os).mono (by omega))
  have KRG := Lib.hid krg
  have q0 := fun d os => cell_regrown a0 d os
  have q1 := fun d os => cell_regrown a1 d os
  have q2 := fun d os => cell_regrown a2 d os
  have q3 := fun d os => cell_regrown a3 d os
  have rl := fun d os => Calls.regrown_of (alive_any (grow (redrawn w7 d) os) (hN0.out.later (FIN.out _ (krg d os))))
  clear krg a0 a1 a2 a3
  refine wp_region_quiet_below (by kernel_rfl) (by kernel_rfl) ?_
  repeat (quiet_step (first | with_reducible exact rl _ _))
  refine wpQuiet_nil ?_
  intro w' hw'
  obtain ⟨p, rfl⟩ := hw'
  have k8 := KRG.out p.d p.os
  go_wp2_with fail
  go_ret
  exact ⟨rfl, FIN.out _ k8⟩

end Go.Proofs.YtohecojckghedaaDoor
