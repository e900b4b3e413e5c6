/-
  The walk of ValueReturns, where nothing is read.
-/
import Derived.Test.YtohecojckghedaaDoorLawCompares
import Derived.Test.YtohecojckghedaaDoorRefGets
namespace Go.Proofs.YtohecojckghedaaDoor
open Go.RowKit
open Go.Sort (grow)

set_option maxRecDepth 100000 in
set_option maxHeartbeats 6400000 in
theorem lawReturns_none (v : V) (sl : Value) (w : World) (B : Nat) (hrep : Rep w B sl v.l) (hB : B ≤ w.heap.size) (hN : Names w) (hg : v.small = true → ¬ (v.chk = 0 ∧ (v.t = 5 ∨ v.t = 6 ∨ v.t = 7))) :
    Calls Tryd.prog 10 #[.agg #[.int .i64 v.t, .int .i64 v.n, .string v.s, sl]] w fun e w' => e = .returned (.bool true) ∧ Below w.heap.size w w' := by
  have HG := Lib.hid hg; clear hg
  obtain ⟨oa, ca, rfl, _, _, hel⟩ := hrep.slice
  clear hel
  go_enter Tryd.func10, Tryd.ntmps10
  go_wp2_with fail
  have kk : Below w.heap.size w (w.alloc (.cells #[.int .i64 v.t, .int .i64 v.n, .string v.s, .slice oa v.l.length ca] 24)) := below1 _ _
  have x0 : Hid (Box (w.alloc (.cells #[.int .i64 v.t, .int .i64 v.n, .string v.s, .slice oa v.l.length ca] 24)) w.heap.size v (.slice oa v.l.length ca)) := Box.new v _ _ rfl
  have hzz : w.heap.size + 1 ≤ (w.alloc (.cells #[.int .i64 v.t, .int .i64 v.n, .string v.s, .slice oa v.l.length ca] 24)).heap.size := by simp
  have hr0 := Lib.hid (hrep.later (kk.mono hB))
  have hN0 := Lib.hid hN
  clear hrep hN
  generalize w.alloc (.cells #[.int .i64 v.t, .int .i64 v.n, .string v.s, .slice oa v.l.length ca] 24) = W at *
  have k0 : Below (w.heap.size + 1) W W := Below.refl _ _
  have HR : Hid (∀ w', Below (w.heap.size + 1) W w' → Rep w' B (.slice oa v.l.length ca) v.l) := fun w' h => hr0.out.later (h.mono (by omega))
  have FIN : Hid (∀ w', Below (w.heap.size + 1) W w' → Below w.heap.size w w') := fun w' h => kk.trans (h.mono (by omega))
  refine (small_any v _ W B (HR.out _ k0) (by omega)).mono ?_
  rintro e w1 ⟨rfl, hb1⟩
  have k1 : Below (w.heap.size + 1) W w1 := hb1.mono hzz
  have x1 := Lib.hid (x0.out.later hb1 (by omega))
  clear hb1
  obtain ⟨a0, a1, a2, a3⟩ := x1.out
  cases hs : v.small
  · have HS := Lib.hid hs; clear hs
    go_wp2_with fail
    refine (alive_any w1 (hN0.out.later (FIN.out _ k1))).mono ?_
    rintro e w9 ⟨rfl, hb9⟩
    go_wp2_with fail
    go_ret
    exact ⟨rfl, (FIN.out _ k1).trans (hb9.mono (by have := k1.size; omega))⟩
  have HH : Hid (¬ (v.chk = 0 ∧ (v.t = 5 ∨ v.t = 6 ∨ v.t = 7))) := HG.out hs
  have HS := Lib.hid hs; clear hs
  go_wp2_with fail
  refine (check_any v _ w1 B (HR.out _ k1) (by have := k1.size; omega)).mono ?_
  rintro e w2 ⟨rfl, hb2⟩
  have k2 : Below (w.heap.size + 1) W w2 := k1.trans (hb2.mono (by have := k1.size; omega))
  have x2 := Lib.hid (x1.out.later hb2 (by have := k1.size; omega))
  clear hb2
  obtain ⟨a0, a1, a2, a3⟩ := x2.out
  by_cases hc : v.chk = 0
  case neg =>
    have fc := neqt hc
    have HC := Lib.hid hc; clear hc
    go_wp2_with fail
    refine (alive_any w2 (hN0.out.later (FIN.out _ k2))).mono ?_
    rintro e w9 ⟨rfl, hb9⟩
    go_wp2_with fail
    go_ret
    exact ⟨rfl, (FIN.out _ k2).trans (hb9.mono (by have := k2.size; omega))⟩
  have hn5 : ¬ v.t = 5 := fun h => HH.out ⟨hc, .inl h⟩
  have hn6 : ¬ v.t = 6 := fun h => HH.out ⟨hc, .inr (.inl h)⟩
  have hn7 : ¬ v.t = 7 := fun h => HH.out ⟨hc, .inr (.inr h)⟩
  have fc := neqf hc
  have HC := Lib.hid hc; clear hc
  go_wp2_with fail
  refine (alive_any w2 (hN0.out.later (FIN.out _ k2))).mono ?_
  rintro e w9 ⟨rfl, hb9⟩
  go_wp2_with fail
  go_ret
  exact ⟨rfl, (FIN.out _ k2).trans (hb9.mono (by have := k2.size; omega))⟩

end Go.Proofs.YtohecojckghedaaDoor
