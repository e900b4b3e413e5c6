/-
  The walk of ValueLeast.
-/
import Derived.Test.YtohecojckghedaaDoorLawCompares
import Derived.Test.YtohecojckghedaaDoorLeast
namespace Go.Proofs.YtohecojckghedaaDoor
open Go.RowKit
open Go.Sort (grow)

set_option maxRecDepth 100000 in
set_option maxHeartbeats 3200000 in
theorem lawLeast_any (v : V) (sl : Value) (w : World) (B : Nat) (hrep : Rep w B sl v.l) (hB : B ≤ w.heap.size) (hN : Names w) :
    Calls Tryd.prog 11 #[.agg #[.int .i64 v.t, .int .i64 v.n, .string v.s, sl]] w fun e w' => e = .returned (.bool true) ∧ Below w.heap.size w w' := by
  obtain ⟨oa, ca, rfl, _, _, hel⟩ := hrep.slice
  clear hel
  go_enter Tryd.func11, Tryd.ntmps11
  go_wp2_with fail
  have kk : Below w.heap.size w (w.alloc (.cells #[.int .i64 v.t, .int .i64 v.n, .string v.s, .slice oa v.l.length ca] 24)) := below1 _ _
  have x0 : Hid (Box (w.alloc (.cells #[.int .i64 v.t, .int .i64 v.n, .string v.s, .slice oa v.l.length ca] 24)) w.heap.size v (.slice oa v.l.length ca)) := Box.new v _ _ rfl
  have hzz : w.heap.size + 1 ≤ (w.alloc (.cells #[.int .i64 v.t, .int .i64 v.n, .string v.s, .slice oa v.l.length ca] 24)).heap.size := by simp
  have hr0 := Lib.hid (hrep.later (kk.mono hB))
  have hN0 := Lib.hid hN
  clear hrep hN
  generalize w.alloc (.cells #[.int .i64 v.t, .int .i64 v.n, .string v.s, .slice oa v.l.length ca] 24) = W at *
  have k0 : Below (w.heap.size + 1) W W := Below.refl _ _
  have HR : Hid (∀ w', Below (w.heap.size + 1) W w' → Rep w' B (.slice oa v.l.length ca) v.l) := fun w' h => hr0.out.later (h.mono (by omega))
  have FIN : Hid (∀ w', Below (w.heap.size + 1) W w' → Below w.heap.size w w') := fun w' h => kk.trans (h.mono (by omega))
  refine (small_any v _ W B (HR.out _ k0) (by omega)).mono ?_
  rintro e w1 ⟨rfl, hb1⟩
  have k1 : Below (w.heap.size + 1) W w1 := hb1.mono hzz
  have x1 := Lib.hid (x0.out.later hb1 (by omega))
  clear hb1
  obtain ⟨a0, a1, a2, a3⟩ := x1.out
  cases hs : v.small
  · have HS := Lib.hid hs; clear hs
    go_wp2_with fail
    refine (alive_any w1 (hN0.out.later (FIN.out _ k1))).mono ?_
    rintro e w9 ⟨rfl, hb9⟩
    go_wp2_with fail
    go_ret
    exact ⟨rfl, (FIN.out _ k1).trans (hb9.mono (by have := k1.size; omega))⟩
  have HS := Lib.hid hs; clear hs
  go_wp2_with fail
  refine (check_any v _ _ B (HR.out _ k1) (by have := k1.size; omega)).mono ?_
  rintro e w2 ⟨rfl, hb2⟩
  have k2 : Below (w.heap.size + 1) W w2 := k1.trans (hb2.mono (by have := k1.size; omega))
  have x2 := Lib.hid (x1.out.later hb2 (by have := k1.size; omega))
  clear hb2
  obtain ⟨a0, a1, a2, a3⟩ := x2.out
  by_cases hc : v.chk = 0
  case neg =>
    have fc := neqt hc
    have HC := Lib.hid hc; clear hc
    go_wp2_with fail
    refine (alive_any w2 (hN0.out.later (FIN.out _ k2))).mono ?_
    rintro e w9 ⟨rfl, hb9⟩
    go_wp2_with fail
    go_ret
    exact ⟨rfl, (FIN.out _ k2).trans (hb9.mono (by have := k2.size; omega))⟩
  have fc := neqf hc
  have HC := Lib.hid hc; clear hc
  go_wp2_with fail
  refine (default_any v.t w2).mono ?_
  rintro e w3 ⟨rfl, hb3⟩
  have hde : derr v.t = 0 := by unfold derr; rw [if_pos (chk_ty HC.out)]
  rw [hde]; clear hde
  have k3 : Below (w.heap.size + 1) W w3 := k2.trans (hb3.mono (by have := k2.size; omega))
  have x3 := Lib.hid (x2.out.later hb3 (by have := k2.size; omega))
  clear hb3
  obtain ⟨a0, a1, a2, a3⟩ := x3.out
  go_wp2_with fail
  have hs3 := k3.size
  have k4 : Below (w.heap.size + 1) W (w3.alloc (.cells #[.int .i64 (dflt v.t).t, .int .i64 (dflt v.t).n, .string (dflt v.t).s, .slice none 0 0] 24)) := k3.alloc (by omega) _
  have x4 := Lib.hid (x3.out.later (below1 w3 (.cells #[.int .i64 (dflt v.t).t, .int .i64 (dflt v.t).n, .string (dflt v.t).s, .slice none 0 0] 24)) (by omega))
  have y4 : Hid (Box (w3.alloc (.cells #[.int .i64 (dflt v.t).t, .int .i64 (dflt v.t).n, .string (dflt v.t).s, .slice none 0 0] 24)) w3.heap.size (dflt v.t) (.slice none 0 0)) := Box.new (dflt v.t) _ _ rfl
  have hn3 : w3.heap.size < (w3.alloc (.cells #[.int .i64 (dflt v.t).t, .int .i64 (dflt v.t).n, .string (dflt v.t).s, .slice none 0 0] 24)).heap.size := by simp
  generalize w3.alloc (.cells #[.int .i64 (dflt v.t).t, .int .i64 (dflt v.t).n, .string (dflt v.t).s, .slice none 0 0] 24) = X at *
  have hBX : B ≤ X.heap.size := by omega
  obtain ⟨a0, a1, a2, a3⟩ := x4.out
  obtain ⟨b0, b1, b2, b3⟩ := y4.out
  have krg : ∀ d os, Below (w.heap.size + 1) W (grow (redrawn X d) os) := fun d os => k4.trans ((below_regrown X d os).mono (by have := k4.size; omega))
  have KRG := Lib.hid krg
  obtain ⟨c, hcc⟩ : ∃ c, (dflt v.t).cmp v = c := ⟨_, rfl⟩
  have hle := default_least HC.out
  have hrg := V.range (dflt v.t) v
  have hanti := V.anti (dflt v.t) v
  rw [hcc] at hle hrg hanti
  have HCC := Lib.hid hcc; clear hcc
  have HAN := Lib.hid hanti; clear hanti
  have HEQ := Lib.hid (eqb_lit HCC.out)
  have hty := Lib.hid (default_t (chk_ty HC.out).1 (chk_ty HC.out).2)
  have q0 := fun d os => cell_regrown a0 d os
  have q1 := fun d os => cell_regrown a1 d os
  have q2 := fun d os => cell_regrown a2 d os
  have q3 := fun d os => cell_regrown a3 d os
  have p0 := fun d os => cell_regrown b0 d os
  have p1 := fun d os => cell_regrown b1 d os
  have p2 := fun d os => cell_regrown b2 d os
  have p3 := fun d os => cell_regrown b3 d os
  have rk := fun d os => Calls.regrown_of (check_any (dflt v.t) (.slice none 0 0) (grow (redrawn X d) os) 0 (by rw [dflt_l]; exact Rep.nil) (Nat.zero_le _))
  have rdv := fun d os => Calls.regrown_of (compare_any (dflt v.t) v (.slice none 0 0) _ (grow (redrawn X d) os) B (by rw [dflt_l]; exact Rep.nil) (HR.out _ (krg d os)) (Nat.le_trans hBX (below_regrown X d os).size))
  have rvd := fun d os => Calls.regrown_of (compare_any v (dflt v.t) _ (.slice none 0 0) (grow (redrawn X d) os) B (HR.out _ (krg d os)) (by rw [dflt_l]; exact Rep.nil) (Nat.le_trans hBX (below_regrown X d os).size))
  have rdq := fun d os => Calls.regrown_of (equal_any (dflt v.t) v (.slice none 0 0) _ (grow (redrawn X d) os) B (by rw [dflt_l]; exact Rep.nil) (HR.out _ (krg d os)) (Nat.le_trans hBX (below_regrown X d os).size))
  have rl := fun d os => Calls.regrown_of (alive_any (grow (redrawn X d) os) (hN0.out.later (FIN.out _ (krg d os))))
  rw [default_chk (chk_ty HC.out).1 (chk_ty HC.out).2] at rk
  rw [HCC.out] at rdv
  rw [HAN.out] at rvd
  rw [HEQ.out] at rdq
  clear krg a0 a1 a2 a3 b0 b1 b2 b3 HEQ
  have p0' := p0
  rw [hty.out] at p0'
  rw [hty.out] at p0 rk rdv rvd rdq
  clear p0'
  rcases hrg with rfl | rfl | rfl
  case inr.inr => exact absurd hle (by decide)
  all_goals
    refine wp_region_quiet_below (by kernel_rfl) (by kernel_rfl) ?_
    repeat (quiet_step (first | with_reducible exact rk _ _ | with_reducible exact rdv _ _ | with_reducible exact rvd _ _ | with_reducible exact rdq _ _ | with_reducible exact rl _ _))
    refine wpQuiet_nil ?_
    intro w' hw'
    obtain ⟨p, rfl⟩ := hw'
    have k5 := KRG.out p.d p.os
    go_wp2_with fail
    go_ret
    exact ⟨rfl, FIN.out _ k5⟩

end Go.Proofs.YtohecojckghedaaDoor
