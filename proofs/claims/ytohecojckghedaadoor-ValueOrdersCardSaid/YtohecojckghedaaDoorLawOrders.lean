/-
  The walk of ValueOrders.
-/
import Derived.Test.YtohecojckghedaaDoorLawCompares
namespace Go.Proofs.YtohecojckghedaaDoor
open Go.RowKit
open Go.Sort (grow)

set_option maxRecDepth 100000 in
set_option maxHeartbeats 6400000 in
theorem lawOrders_any (a b c : V) (sa sb sc : Value) (w : World) (B : Nat) (hra : Rep w B sa a.l) (hrb : Rep w B sb b.l) (hrc : Rep w B sc c.l) (hB : B ≤ w.heap.size) (hN : Names w) :
    Calls Tryd.prog 5 #[.agg #[.int .i64 a.t, .int .i64 a.n, .string a.s, sa], .agg #[.int .i64 b.t, .int .i64 b.n, .string b.s, sb], .agg #[.int .i64 c.t, .int .i64 c.n, .string c.s, sc]] w fun e w' => e = .returned (.bool true) ∧ Below w.heap.size w w' := by
  obtain ⟨oa, ca, rfl, _, _, hel⟩ := hra.slice
  obtain ⟨ob, cb, rfl, _, _, hel'⟩ := hrb.slice
  obtain ⟨oc, cc, rfl, _, _, hel''⟩ := hrc.slice
  clear hel hel' hel''
  obtain ⟨x, hx⟩ : ∃ x, a.cmp b = x := ⟨_, rfl⟩
  obtain ⟨y, hy⟩ : ∃ y, b.cmp c = y := ⟨_, rfl⟩
  obtain ⟨z, hz⟩ : ∃ z, a.cmp c = z := ⟨_, rfl⟩
  have hq := V.Q3 a b c
  rw [hx, hy, hz] at hq
  have HQ := Lib.hid hq; clear hq
  have HX := Lib.hid hx; clear hx
  have HY := Lib.hid hy; clear hy
  have HZ := Lib.hid hz; clear hz
  go_enter Tryd.func5, Tryd.ntmps5
  go_wp2_with fail
  have kk : Below w.heap.size w (((w.alloc (.cells #[.int .i64 a.t, .int .i64 a.n, .string a.s, .slice oa a.l.length ca] 24)).alloc (.cells #[.int .i64 b.t, .int .i64 b.n, .string b.s, .slice ob b.l.length cb] 24)).alloc (.cells #[.int .i64 c.t, .int .i64 c.n, .string c.s, .slice oc c.l.length cc] 24)) := below3 _ _ _ _
  have xa0 : Hid (Box (((w.alloc (.cells #[.int .i64 a.t, .int .i64 a.n, .string a.s, .slice oa a.l.length ca] 24)).alloc (.cells #[.int .i64 b.t, .int .i64 b.n, .string b.s, .slice ob b.l.length cb] 24)).alloc (.cells #[.int .i64 c.t, .int .i64 c.n, .string c.s, .slice oc c.l.length cc] 24)) w.heap.size a (.slice oa a.l.length ca)) := ((Box.new a _ _ rfl).later (below1 _ _) (by simp)).later (below1 _ _) (by simp; omega)
  have xb0 : Hid (Box (((w.alloc (.cells #[.int .i64 a.t, .int .i64 a.n, .string a.s, .slice oa a.l.length ca] 24)).alloc (.cells #[.int .i64 b.t, .int .i64 b.n, .string b.s, .slice ob b.l.length cb] 24)).alloc (.cells #[.int .i64 c.t, .int .i64 c.n, .string c.s, .slice oc c.l.length cc] 24)) (w.heap.size + 1) b (.slice ob b.l.length cb)) := (Box.new b _ _ (by simp)).later (below1 _ _) (by simp)
  have xc0 : Hid (Box (((w.alloc (.cells #[.int .i64 a.t, .int .i64 a.n, .string a.s, .slice oa a.l.length ca] 24)).alloc (.cells #[.int .i64 b.t, .int .i64 b.n, .string b.s, .slice ob b.l.length cb] 24)).alloc (.cells #[.int .i64 c.t, .int .i64 c.n, .string c.s, .slice oc c.l.length cc] 24)) (w.heap.size + 2) c (.slice oc c.l.length cc)) := Box.new c _ _ (by simp)
  have hzz : w.heap.size + 3 ≤ (((w.alloc (.cells #[.int .i64 a.t, .int .i64 a.n, .string a.s, .slice oa a.l.length ca] 24)).alloc (.cells #[.int .i64 b.t, .int .i64 b.n, .string b.s, .slice ob b.l.length cb] 24)).alloc (.cells #[.int .i64 c.t, .int .i64 c.n, .string c.s, .slice oc c.l.length cc] 24)).heap.size := by simp
  have hra0 := Lib.hid (hra.later (kk.mono hB))
  have hrb0 := Lib.hid (hrb.later (kk.mono hB))
  have hrc0 := Lib.hid (hrc.later (kk.mono hB))
  have hN0 := Lib.hid hN
  clear hra hrb hrc hN
  generalize ((w.alloc (.cells #[.int .i64 a.t, .int .i64 a.n, .string a.s, .slice oa a.l.length ca] 24)).alloc (.cells #[.int .i64 b.t, .int .i64 b.n, .string b.s, .slice ob b.l.length cb] 24)).alloc (.cells #[.int .i64 c.t, .int .i64 c.n, .string c.s, .slice oc c.l.length cc] 24) = W at *
  have k0 : Below (w.heap.size + 3) W W := Below.refl _ _
  have HRA : Hid (∀ w', Below (w.heap.size + 3) W w' → Rep w' B (.slice oa a.l.length ca) a.l) := fun w' h => hra0.out.later (h.mono (by omega))
  have HRB : Hid (∀ w', Below (w.heap.size + 3) W w' → Rep w' B (.slice ob b.l.length cb) b.l) := fun w' h => hrb0.out.later (h.mono (by omega))
  have HRC : Hid (∀ w', Below (w.heap.size + 3) W w' → Rep w' B (.slice oc c.l.length cc) c.l) := fun w' h => hrc0.out.later (h.mono (by omega))
  have FIN : Hid (∀ w', Below (w.heap.size + 3) W w' → Below w.heap.size w w') := fun w' h => kk.trans (h.mono (by omega))
  refine (small_any a _ W B (HRA.out _ k0) (by omega)).mono ?_
  rintro e w1 ⟨rfl, hb1⟩
  have k1 : Below (w.heap.size + 3) W w1 := hb1.mono hzz
  have xa1 := Lib.hid (xa0.out.later hb1 (by omega))
  have xb1 := Lib.hid (xb0.out.later hb1 (by omega))
  have xc1 := Lib.hid (xc0.out.later hb1 (by omega))
  clear hb1
  obtain ⟨a0, a1, a2, a3⟩ := xa1.out
  obtain ⟨b0, b1, b2, b3⟩ := xb1.out
  obtain ⟨c0, c1, c2, c3⟩ := xc1.out
  cases hs : a.small
  · have HS := Lib.hid hs; clear hs
    go_wp2_with fail
    refine (alive_any w1 (hN0.out.later (FIN.out _ k1))).mono ?_
    rintro e w9 ⟨rfl, hb9⟩
    go_wp2_with fail
    go_ret
    exact ⟨rfl, (FIN.out _ k1).trans (hb9.mono (by have := k1.size; omega))⟩
  have HS1 := Lib.hid hs; clear hs
  go_wp2_with fail
  refine (small_any b _ _ B (HRB.out _ k1) (by have := k1.size; omega)).mono ?_
  rintro e w2 ⟨rfl, hb2⟩
  have k2 : Below (w.heap.size + 3) W w2 := k1.trans (hb2.mono (by have := k1.size; omega))
  have xa2 := Lib.hid (xa1.out.later hb2 (by have := k1.size; omega))
  have xb2 := Lib.hid (xb1.out.later hb2 (by have := k1.size; omega))
  have xc2 := Lib.hid (xc1.out.later hb2 (by have := k1.size; omega))
  clear hb2
  obtain ⟨a0, a1, a2, a3⟩ := xa2.out
  obtain ⟨b0, b1, b2, b3⟩ := xb2.out
  obtain ⟨c0, c1, c2, c3⟩ := xc2.out
  cases hs : b.small
  · have HS := Lib.hid hs; clear hs
    go_wp2_with fail
    refine (alive_any w2 (hN0.out.later (FIN.out _ k2))).mono ?_
    rintro e w9 ⟨rfl, hb9⟩
    go_wp2_with fail
    go_ret
    exact ⟨rfl, (FIN.out _ k2).trans (hb9.mono (by have := k2.size; omega))⟩
  have HS2 := Lib.hid hs; clear hs
  go_wp2_with fail
  refine (small_any c _ _ B (HRC.out _ k2) (by have := k2.size; omega)).mono ?_
  rintro e w3 ⟨rfl, hb3⟩
  have k3 : Below (w.heap.size + 3) W w3 := k2.trans (hb3.mono (by have := k2.size; omega))
  have xa3 := Lib.hid (xa2.out.later hb3 (by have := k2.size; omega))
  have xb3 := Lib.hid (xb2.out.later hb3 (by have := k2.size; omega))
  have xc3 := Lib.hid (xc2.out.later hb3 (by have := k2.size; omega))
  clear hb3
  obtain ⟨a0, a1, a2, a3⟩ := xa3.out
  obtain ⟨b0, b1, b2, b3⟩ := xb3.out
  obtain ⟨c0, c1, c2, c3⟩ := xc3.out
  cases hs : c.small
  · have HS := Lib.hid hs; clear hs
    go_wp2_with fail
    refine (alive_any w3 (hN0.out.later (FIN.out _ k3))).mono ?_
    rintro e w9 ⟨rfl, hb9⟩
    go_wp2_with fail
    go_ret
    exact ⟨rfl, (FIN.out _ k3).trans (hb9.mono (by have := k3.size; omega))⟩
  have HS3 := Lib.hid hs; clear hs
  go_wp2_with fail
  have hB3 : B ≤ w3.heap.size := by have := k3.size; omega
  have qa0 := fun d os => cell_regrown a0 d os
  have qa1 := fun d os => cell_regrown a1 d os
  have qa2 := fun d os => cell_regrown a2 d os
  have qa3 := fun d os => cell_regrown a3 d os
  have qb0 := fun d os => cell_regrown b0 d os
  have qb1 := fun d os => cell_regrown b1 d os
  have qb2 := fun d os => cell_regrown b2 d os
  have qb3 := fun d os => cell_regrown b3 d os
  have qc0 := fun d os => cell_regrown c0 d os
  have qc1 := fun d os => cell_regrown c1 d os
  have qc2 := fun d os => cell_regrown c2 d os
  have qc3 := fun d os => cell_regrown c3 d os
  have krg : ∀ d os, Below (w.heap.size + 3) W (grow (redrawn w3 d) os) := fun d os => k3.trans ((below_regrown w3 d os).mono (by have := k3.size; omega))
  have rab := fun d os => Calls.regrown_of (compare_any a b _ _ (grow (redrawn w3 d) os) B (HRA.out _ (krg d os)) (HRB.out _ (krg d os)) (Nat.le_trans hB3 (below_regrown w3 d os).size))
  have rbc := fun d os => Calls.regrown_of (compare_any b c _ _ (grow (redrawn w3 d) os) B (HRB.out _ (krg d os)) (HRC.out _ (krg d os)) (Nat.le_trans hB3 (below_regrown w3 d os).size))
  have rac := fun d os => Calls.regrown_of (compare_any a c _ _ (grow (redrawn w3 d) os) B (HRA.out _ (krg d os)) (HRC.out _ (krg d os)) (Nat.le_trans hB3 (below_regrown w3 d os).size))
  rw [HX.out] at rab
  rw [HY.out] at rbc
  rw [HZ.out] at rac
  have KRG := Lib.hid krg; clear krg
  clear a0 a1 a2 a3 b0 b1 b2 b3 c0 c1 c2 c3
  refine wp_region_quiet_below (by kernel_rfl) (by kernel_rfl) ?_
  repeat (quiet_step (first | with_reducible exact rab _ _ | with_reducible exact rbc _ _ | with_reducible exact rac _ _))
  refine wpQuiet_nil ?_
  intro w' hw'
  obtain ⟨p, rfl⟩ := hw'
  clear qa0 qa1 qa2 qa3 qb0 qb1 qb2 qb3 qc0 qc1 qc2 qc3 rab rbc rac
  have hb4 := below_regrown w3 p.d p.os
  have k4 := KRG.out p.d p.os
  have xa4 := Lib.hid (xa3.out.later hb4 (by have := k3.size; omega))
  have xb4 := Lib.hid (xb3.out.later hb4 (by have := k3.size; omega))
  generalize grow (redrawn w3 p.d) p.os = w4 at *
  clear hb4
  obtain ⟨a0, a1, a2, a3⟩ := xa4.out
  obtain ⟨b0, b1, b2, b3⟩ := xb4.out
  obtain ⟨r1, r2, r3, s1, s2, s3, s4⟩ := HQ.out
  have s1' := Lib.hid s1; have s2' := Lib.hid s2; have s3' := Lib.hid s3; have s4' := Lib.hid s4
  clear s1 s2 s3 s4
  rcases r1 with rfl | rfl | rfl <;> rcases r2 with rfl | rfl | rfl <;> rcases r3 with rfl | rfl | rfl
  · go_wp2_with fail
    refine (equal_any a b _ _ _ B (HRA.out _ k4) (HRB.out _ k4) (by have := k4.size; omega)).mono ?_
    rintro e w5 ⟨rfl, hb5⟩
    rw [eqb_lit HX.out]
    have k5 : Below (w.heap.size + 3) W w5 := k4.trans (hb5.mono (by have := k4.size; omega))
    go_wp2_with fail
    refine (alive_any w5 (hN0.out.later (FIN.out _ k5))).mono ?_
    rintro e w9 ⟨rfl, hb9⟩
    go_wp2_with fail
    go_ret
    exact ⟨rfl, (FIN.out _ k5).trans (hb9.mono (by have := k5.size; omega))⟩
  · exact absurd (s3'.out rfl rfl) (by decide)
  · exact absurd (s3'.out rfl rfl) (by decide)
  · go_wp2_with fail
    refine (equal_any a b _ _ _ B (HRA.out _ k4) (HRB.out _ k4) (by have := k4.size; omega)).mono ?_
    rintro e w5 ⟨rfl, hb5⟩
    rw [eqb_lit HX.out]
    have k5 : Below (w.heap.size + 3) W w5 := k4.trans (hb5.mono (by have := k4.size; omega))
    go_wp2_with fail
    refine (alive_any w5 (hN0.out.later (FIN.out _ k5))).mono ?_
    rintro e w9 ⟨rfl, hb9⟩
    go_wp2_with fail
    go_ret
    exact ⟨rfl, (FIN.out _ k5).trans (hb9.mono (by have := k5.size; omega))⟩
  · exact absurd (s2'.out rfl) (by decide)
  · exact absurd (s2'.out rfl) (by decide)
  · go_wp2_with fail
    refine (equal_any a b _ _ _ B (HRA.out _ k4) (HRB.out _ k4) (by have := k4.size; omega)).mono ?_
    rintro e w5 ⟨rfl, hb5⟩
    rw [eqb_lit HX.out]
    have k5 : Below (w.heap.size + 3) W w5 := k4.trans (hb5.mono (by have := k4.size; omega))
    go_wp2_with fail
    refine (alive_any w5 (hN0.out.later (FIN.out _ k5))).mono ?_
    rintro e w9 ⟨rfl, hb9⟩
    go_wp2_with fail
    go_ret
    exact ⟨rfl, (FIN.out _ k5).trans (hb9.mono (by have := k5.size; omega))⟩
  · go_wp2_with fail
    refine (equal_any a b _ _ _ B (HRA.out _ k4) (HRB.out _ k4) (by have := k4.size; omega)).mono ?_
    rintro e w5 ⟨rfl, hb5⟩
    rw [eqb_lit HX.out]
    have k5 : Below (w.heap.size + 3) W w5 := k4.trans (hb5.mono (by have := k4.size; omega))
    go_wp2_with fail
    refine (alive_any w5 (hN0.out.later (FIN.out _ k5))).mono ?_
    rintro e w9 ⟨rfl, hb9⟩
    go_wp2_with fail
    go_ret
    exact ⟨rfl, (FIN.out _ k5).trans (hb9.mono (by have := k5.size; omega))⟩
  · go_wp2_with fail
    refine (equal_any a b _ _ _ B (HRA.out _ k4) (HRB.out _ k4) (by have := k4.size; omega)).mono ?_
    rintro e w5 ⟨rfl, hb5⟩
    rw [eqb_lit HX.out]
    have k5 : Below (w.heap.size + 3) W w5 := k4.trans (hb5.mono (by have := k4.size; omega))
    go_wp2_with fail
    refine (alive_any w5 (hN0.out.later (FIN.out _ k5))).mono ?_
    rintro e w9 ⟨rfl, hb9⟩
    go_wp2_with fail
    go_ret
    exact ⟨rfl, (FIN.out _ k5).trans (hb9.mono (by have := k5.size; omega))⟩
  · go_wp2_with fail
    refine (equal_any a b _ _ _ B (HRA.out _ k4) (HRB.out _ k4) (by have := k4.size; omega)).mono ?_
    rintro e w5 ⟨rfl, hb5⟩
    rw [eqb_lit HX.out]
    have k5 : Below (w.heap.size + 3) W w5 := k4.trans (hb5.mono (by have := k4.size; omega))
    go_wp2_with fail
    refine (alive_any w5 (hN0.out.later (FIN.out _ k5))).mono ?_
    rintro e w9 ⟨rfl, hb9⟩
    go_wp2_with fail
    go_ret
    exact ⟨rfl, (FIN.out _ k5).trans (hb9.mono (by have := k5.size; omega))⟩
  · exact absurd (s1'.out rfl) (by decide)
  · exact absurd (s1'.out rfl) (by decide)
  · exact absurd (s1'.out rfl) (by decide)
  · go_wp2_with fail
    refine (equal_any a b _ _ _ B (HRA.out _ k4) (HRB.out _ k4) (by have := k4.size; omega)).mono ?_
    rintro e w5 ⟨rfl, hb5⟩
    rw [eqb_lit HX.out]
    have k5 : Below (w.heap.size + 3) W w5 := k4.trans (hb5.mono (by have := k4.size; omega))
    go_wp2_with fail
    refine (alive_any w5 (hN0.out.later (FIN.out _ k5))).mono ?_
    rintro e w9 ⟨rfl, hb9⟩
    go_wp2_with fail
    go_ret
    exact ⟨rfl, (FIN.out _ k5).trans (hb9.mono (by have := k5.size; omega))⟩
  · exact absurd (s1'.out rfl) (by decide)
  · exact absurd (s1'.out rfl) (by decide)
  · exact absurd (s1'.out rfl) (by decide)
  · go_wp2_with fail
    refine (equal_any a b _ _ _ B (HRA.out _ k4) (HRB.out _ k4) (by have := k4.size; omega)).mono ?_
    rintro e w5 ⟨rfl, hb5⟩
    rw [eqb_lit HX.out]
    have k5 : Below (w.heap.size + 3) W w5 := k4.trans (hb5.mono (by have := k4.size; omega))
    go_wp2_with fail
    refine (alive_any w5 (hN0.out.later (FIN.out _ k5))).mono ?_
    rintro e w9 ⟨rfl, hb9⟩
    go_wp2_with fail
    go_ret
    exact ⟨rfl, (FIN.out _ k5).trans (hb9.mono (by have := k5.size; omega))⟩
  · go_wp2_with fail
    refine (equal_any a b _ _ _ B (HRA.out _ k4) (HRB.out _ k4) (by have := k4.size; omega)).mono ?_
    rintro e w5 ⟨rfl, hb5⟩
    rw [eqb_lit HX.out]
    have k5 : Below (w.heap.size + 3) W w5 := k4.trans (hb5.mono (by have := k4.size; omega))
    go_wp2_with fail
    refine (alive_any w5 (hN0.out.later (FIN.out _ k5))).mono ?_
    rintro e w9 ⟨rfl, hb9⟩
    go_wp2_with fail
    go_ret
    exact ⟨rfl, (FIN.out _ k5).trans (hb9.mono (by have := k5.size; omega))⟩
  · go_wp2_with fail
    refine (equal_any a b _ _ _ B (HRA.out _ k4) (HRB.out _ k4) (by have := k4.size; omega)).mono ?_
    rintro e w5 ⟨rfl, hb5⟩
    rw [eqb_lit HX.out]
    have k5 : Below (w.heap.size + 3) W w5 := k4.trans (hb5.mono (by have := k4.size; omega))
    go_wp2_with fail
    refine (alive_any w5 (hN0.out.later (FIN.out _ k5))).mono ?_
    rintro e w9 ⟨rfl, hb9⟩
    go_wp2_with fail
    go_ret
    exact ⟨rfl, (FIN.out _ k5).trans (hb9.mono (by have := k5.size; omega))⟩
  · go_wp2_with fail
    refine (equal_any a b _ _ _ B (HRA.out _ k4) (HRB.out _ k4) (by have := k4.size; omega)).mono ?_
    rintro e w5 ⟨rfl, hb5⟩
    rw [eqb_lit HX.out]
    have k5 : Below (w.heap.size + 3) W w5 := k4.trans (hb5.mono (by have := k4.size; omega))
    go_wp2_with fail
    refine (alive_any w5 (hN0.out.later (FIN.out _ k5))).mono ?_
    rintro e w9 ⟨rfl, hb9⟩
    go_wp2_with fail
    go_ret
    exact ⟨rfl, (FIN.out _ k5).trans (hb9.mono (by have := k5.size; omega))⟩
  · exact absurd (s2'.out rfl) (by decide)
  · exact absurd (s2'.out rfl) (by decide)
  · go_wp2_with fail
    refine (equal_any a b _ _ _ B (HRA.out _ k4) (HRB.out _ k4) (by have := k4.size; omega)).mono ?_
    rintro e w5 ⟨rfl, hb5⟩
    rw [eqb_lit HX.out]
    have k5 : Below (w.heap.size + 3) W w5 := k4.trans (hb5.mono (by have := k4.size; omega))
    go_wp2_with fail
    refine (alive_any w5 (hN0.out.later (FIN.out _ k5))).mono ?_
    rintro e w9 ⟨rfl, hb9⟩
    go_wp2_with fail
    go_ret
    exact ⟨rfl, (FIN.out _ k5).trans (hb9.mono (by have := k5.size; omega))⟩
  · exact absurd (s4'.out rfl rfl) (by decide)
  · exact absurd (s4'.out rfl rfl) (by decide)
  · go_wp2_with fail
    refine (equal_any a b _ _ _ B (HRA.out _ k4) (HRB.out _ k4) (by have := k4.size; omega)).mono ?_
    rintro e w5 ⟨rfl, hb5⟩
    rw [eqb_lit HX.out]
    have k5 : Below (w.heap.size + 3) W w5 := k4.trans (hb5.mono (by have := k4.size; omega))
    go_wp2_with fail
    refine (alive_any w5 (hN0.out.later (FIN.out _ k5))).mono ?_
    rintro e w9 ⟨rfl, hb9⟩
    go_wp2_with fail
    go_ret
    exact ⟨rfl, (FIN.out _ k5).trans (hb9.mono (by have := k5.size; omega))⟩

end Go.Proofs.YtohecojckghedaaDoor
