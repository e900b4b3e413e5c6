/-
  The walk of ValueCompares.
-/
import Derived.Test.YtohecojckghedaaDoorLaw0
import Derived.Test.YtohecojckghedaaDoorOrder
import Derived.Test.YtohecojckghedaaDoorLawNames
namespace Go.Proofs.YtohecojckghedaaDoor
open Go.RowKit

theorem eqb_lit {a b : V} {c : Int} (h : a.cmp b = c) : a.eqb b = (c == 0) := by unfold V.eqb; rw [h]

set_option maxRecDepth 100000 in
set_option maxHeartbeats 3200000 in
theorem lawCompares_any (a b : V) (sa sb : Value) (w : World) (B : Nat) (hra : Rep w B sa a.l) (hrb : Rep w B sb b.l) (hB : B ≤ w.heap.size) (hN : Names w) :
    Calls Tryd.prog 4 #[.agg #[.int .i64 a.t, .int .i64 a.n, .string a.s, sa], .agg #[.int .i64 b.t, .int .i64 b.n, .string b.s, sb]] w fun e w' => e = .returned (.bool true) ∧ Below w.heap.size w w' := by
  obtain ⟨oa, ca, rfl, _, _, hel⟩ := hra.slice
  obtain ⟨ob, cb, rfl, _, _, hel'⟩ := hrb.slice
  clear hel hel'
  go_enter Tryd.func4, Tryd.ntmps4
  go_wp2_with fail
  have kk : Below w.heap.size w ((w.alloc (.cells #[.int .i64 a.t, .int .i64 a.n, .string a.s, .slice oa a.l.length ca] 24)).alloc (.cells #[.int .i64 b.t, .int .i64 b.n, .string b.s, .slice ob b.l.length cb] 24)) := below2 _ _ _
  have xa0 : Hid (Box ((w.alloc (.cells #[.int .i64 a.t, .int .i64 a.n, .string a.s, .slice oa a.l.length ca] 24)).alloc (.cells #[.int .i64 b.t, .int .i64 b.n, .string b.s, .slice ob b.l.length cb] 24)) w.heap.size a (.slice oa a.l.length ca)) := (Box.new a _ _ rfl).later (below1 _ _) (by simp)
  have xb0 : Hid (Box ((w.alloc (.cells #[.int .i64 a.t, .int .i64 a.n, .string a.s, .slice oa a.l.length ca] 24)).alloc (.cells #[.int .i64 b.t, .int .i64 b.n, .string b.s, .slice ob b.l.length cb] 24)) (w.heap.size + 1) b (.slice ob b.l.length cb)) := Box.new b _ _ (by simp)
  have hzz : w.heap.size + 2 ≤ ((w.alloc (.cells #[.int .i64 a.t, .int .i64 a.n, .string a.s, .slice oa a.l.length ca] 24)).alloc (.cells #[.int .i64 b.t, .int .i64 b.n, .string b.s, .slice ob b.l.length cb] 24)).heap.size := by simp
  have hra0 := Lib.hid (hra.later (kk.mono hB))
  have hrb0 := Lib.hid (hrb.later (kk.mono hB))
  have hN0 := Lib.hid hN
  clear hra hrb hN
  generalize (w.alloc (.cells #[.int .i64 a.t, .int .i64 a.n, .string a.s, .slice oa a.l.length ca] 24)).alloc (.cells #[.int .i64 b.t, .int .i64 b.n, .string b.s, .slice ob b.l.length cb] 24) = W at *
  have k0 : Below (w.heap.size + 2) W W := Below.refl _ _
  have HRA : Hid (∀ w', Below (w.heap.size + 2) W w' → Rep w' B (.slice oa a.l.length ca) a.l) := fun w' h => hra0.out.later (h.mono (by omega))
  have HRB : Hid (∀ w', Below (w.heap.size + 2) W w' → Rep w' B (.slice ob b.l.length cb) b.l) := fun w' h => hrb0.out.later (h.mono (by omega))
  have FIN : Hid (∀ w', Below (w.heap.size + 2) W w' → Below w.heap.size w w') := fun w' h => kk.trans (h.mono (by omega))
  refine (small_any a _ W B (HRA.out _ k0) (by omega)).mono ?_
  rintro e w1 ⟨rfl, hb1⟩
  have k1 : Below (w.heap.size + 2) W w1 := hb1.mono hzz
  have xa1 := Lib.hid (xa0.out.later hb1 (by omega))
  have xb1 := Lib.hid (xb0.out.later hb1 (by omega))
  clear hb1
  obtain ⟨a0, a1, a2, a3⟩ := xa1.out
  obtain ⟨b0, b1, b2, b3⟩ := xb1.out
  cases hs : a.small
  · have HS := Lib.hid hs; clear hs
    go_wp2_with fail
    refine (alive_any w1 (hN0.out.later (FIN.out _ k1))).mono ?_
    rintro e w9 ⟨rfl, hb9⟩
    go_wp2_with fail
    go_ret
    exact ⟨rfl, (FIN.out _ k1).trans (hb9.mono (by have := k1.size; omega))⟩
  have HS1 := Lib.hid hs; clear hs
  go_wp2_with fail
  refine (small_any b _ _ B (HRB.out _ k1) (by have := k1.size; omega)).mono ?_
  rintro e w2 ⟨rfl, hb2⟩
  have k2 : Below (w.heap.size + 2) W w2 := k1.trans (hb2.mono (by have := k1.size; omega))
  have xa2 := Lib.hid (xa1.out.later hb2 (by have := k1.size; omega))
  have xb2 := Lib.hid (xb1.out.later hb2 (by have := k1.size; omega))
  clear hb2
  obtain ⟨a0, a1, a2, a3⟩ := xa2.out
  obtain ⟨b0, b1, b2, b3⟩ := xb2.out
  cases hs : b.small
  · have HS := Lib.hid hs; clear hs
    go_wp2_with fail
    refine (alive_any w2 (hN0.out.later (FIN.out _ k2))).mono ?_
    rintro e w9 ⟨rfl, hb9⟩
    go_wp2_with fail
    go_ret
    exact ⟨rfl, (FIN.out _ k2).trans (hb9.mono (by have := k2.size; omega))⟩
  have HS2 := Lib.hid hs; clear hs
  go_wp2_with fail
  refine (refCompare_any a b _ _ _ B (HRA.out _ k2) (HRB.out _ k2) (by have := k2.size; omega)).mono ?_
  rintro e w3 ⟨rfl, hb3⟩
  have k3 : Below (w.heap.size + 2) W w3 := k2.trans (hb3.mono (by have := k2.size; omega))
  have xa3 := Lib.hid (xa2.out.later hb3 (by have := k2.size; omega))
  have xb3 := Lib.hid (xb2.out.later hb3 (by have := k2.size; omega))
  clear hb3
  obtain ⟨a0, a1, a2, a3⟩ := xa3.out
  obtain ⟨b0, b1, b2, b3⟩ := xb3.out
  obtain ⟨c, hc⟩ : ∃ c, a.cmp b = c := ⟨_, rfl⟩
  have hr := V.range a b
  have hanti := V.anti a b
  rw [hc] at hr hanti
  rw [hc]
  have HC := Lib.hid hc; clear hc
  have HA := Lib.hid hanti; clear hanti
  rcases hr with rfl | rfl | rfl
  all_goals
    go_wp2_with fail
    refine (compare_any a b _ _ _ B (HRA.out _ k3) (HRB.out _ k3) (by have := k3.size; omega)).mono ?_
    rintro e w4 ⟨rfl, hb4⟩
    have k4 : Below (w.heap.size + 2) W w4 := k3.trans (hb4.mono (by have := k3.size; omega))
    have xa4 := Lib.hid (xa3.out.later hb4 (by have := k3.size; omega))
    have xb4 := Lib.hid (xb3.out.later hb4 (by have := k3.size; omega))
    clear hb4
    obtain ⟨a0, a1, a2, a3⟩ := xa4.out
    obtain ⟨b0, b1, b2, b3⟩ := xb4.out
    rw [HC.out]
    go_wp2_with fail
    refine (compare_any b a _ _ _ B (HRB.out _ k4) (HRA.out _ k4) (by have := k4.size; omega)).mono ?_
    rintro e w5 ⟨rfl, hb5⟩
    have k5 : Below (w.heap.size + 2) W w5 := k4.trans (hb5.mono (by have := k4.size; omega))
    have xa5 := Lib.hid (xa4.out.later hb5 (by have := k4.size; omega))
    have xb5 := Lib.hid (xb4.out.later hb5 (by have := k4.size; omega))
    clear hb5
    obtain ⟨a0, a1, a2, a3⟩ := xa5.out
    obtain ⟨b0, b1, b2, b3⟩ := xb5.out
    rw [HA.out]
    go_wp2_with fail
    refine (equal_any a b _ _ _ B (HRA.out _ k5) (HRB.out _ k5) (by have := k5.size; omega)).mono ?_
    rintro e w6 ⟨rfl, hb6⟩
    have k6 : Below (w.heap.size + 2) W w6 := k5.trans (hb6.mono (by have := k5.size; omega))
    have xa6 := Lib.hid (xa5.out.later hb6 (by have := k5.size; omega))
    have xb6 := Lib.hid (xb5.out.later hb6 (by have := k5.size; omega))
    clear hb6
    obtain ⟨a0, a1, a2, a3⟩ := xa6.out
    obtain ⟨b0, b1, b2, b3⟩ := xb6.out
    rw [eqb_lit HC.out]
    go_wp2_with fail
    refine (equal_any a a _ _ _ B (HRA.out _ k6) (HRA.out _ k6) (by have := k6.size; omega)).mono ?_
    rintro e w7 ⟨rfl, hb7⟩
    have k7 : Below (w.heap.size + 2) W w7 := k6.trans (hb7.mono (by have := k6.size; omega))
    have xa7 := Lib.hid (xa6.out.later hb7 (by have := k6.size; omega))
    have xb7 := Lib.hid (xb6.out.later hb7 (by have := k6.size; omega))
    clear hb7
    obtain ⟨a0, a1, a2, a3⟩ := xa7.out
    obtain ⟨b0, b1, b2, b3⟩ := xb7.out
    rw [V.eqb_self]
    go_wp2_with fail
    refine (alive_any w7 (hN0.out.later (FIN.out _ k7))).mono ?_
    rintro e w8 ⟨rfl, hb8⟩
    go_wp2_with fail
    go_ret
    exact ⟨rfl, (FIN.out _ k7).trans (hb8.mono (by have := k7.size; omega))⟩

end Go.Proofs.YtohecojckghedaaDoor
