/-
  The walk of TermSizes. Nothing is assumed.
-/
import Derived.Test.YtdfhfljmcakilaaTmLaw0
import Derived.Test.YtdfhfljmcakilaaTmRCmp
namespace Go.Proofs.Ytdfhfljmcakilaa
open Go.RowKit

set_option maxRecDepth 100000 in
set_option maxHeartbeats 3200000 in
theorem lawSizes_any (v : T) (sl : Value) (w : World) (hrep : Rep w w.heap.size sl v.l) :
    Calls Try.prog 3 #[.agg #[.int .i64 v.r, sl]] w fun e w' => e = .returned (.bool true) ∧ Below w.heap.size w w' := by
  have HREP := Lib.hid hrep
  obtain ⟨oa, ca, rfl, _, _⟩ := hrep.form
  clear hrep
  have HBB : Below w.heap.size w ((w.alloc (.cells #[.int .i64 v.r, .slice oa v.l.length ca] 24)).alloc (.cells #[.int .i64 v.r, .slice oa v.l.length ca] 24)) := below2 _ _ _
  have BA : Box ((w.alloc (.cells #[.int .i64 v.r, .slice oa v.l.length ca] 24)).alloc (.cells #[.int .i64 v.r, .slice oa v.l.length ca] 24)) w.heap.size v (.slice oa v.l.length ca) := (Box.new v _ _ rfl).later (below1 _ _) (by simp)
  have hzz : ((w.alloc (.cells #[.int .i64 v.r, .slice oa v.l.length ca] 24)).alloc (.cells #[.int .i64 v.r, .slice oa v.l.length ca] 24)).heap.size = w.heap.size + 2 := by simp
  have hR1 := Rep.new1 (t := 24) (C := w.heap.size + 2) (HREP.out.later (below1 w (.cells #[.int .i64 v.r, .slice oa v.l.length ca] 24))) (by simp) (n := w.heap.size + 1) (by simp) (by omega)
  have HRA := Lib.hid (HREP.out.later HBB)
  have HSM := Lib.hid (small_any [v] _ _ _ hR1 (by simp))
  rw [small_one] at HSM
  clear hR1
  go_enter Try.func3, Try.ntmps3
  go_wp2_with fail
  generalize (w.alloc (.cells #[.int .i64 v.r, .slice oa v.l.length ca] 24)).alloc (.cells #[.int .i64 v.r, .slice oa v.l.length ca] 24) = W at *
  refine HSM.out.mono ?_
  rintro e w1 ⟨rfl, hb1⟩
  by_cases hs : v.size ≤ 40
  case neg =>
    rw [decide_eq_false hs]
    go_wp2_with fail
    refine (alive_any w1).mono ?_
    rintro e w2 ⟨rfl, hb2⟩
    go_wp2_with fail
    go_ret
    exact ⟨rfl, HBB.trans ((hb1.trans (hb2.mono hb1.size)).mono (by omega))⟩
  rw [decide_eq_true hs]
  have hBW : w.heap.size ≤ W.heap.size := by omega
  have HKEEP : Hid (∀ w', Below W.heap.size W w' → w'.cell? ⟨w.heap.size, 0, none⟩ = some (.int .i64 v.r) ∧ w'.cell? ⟨w.heap.size, 1, none⟩ = some (.slice oa v.l.length ca)) :=
    Lib.hid (fun w' hb => ⟨(BA.later hb (by omega)).1, (BA.later hb (by omega)).2⟩)
  have HSA := Lib.hid (fun w' (hb : Below W.heap.size W w') => size_any v (.slice oa v.l.length ca) w' w.heap.size (HRA.out.later (hb.mono hBW)) (Nat.le_trans hBW hb.size) (by omega))
  have HSB := Lib.hid (fun w' (hb : Below W.heap.size W w') => rsize_any v (.slice oa v.l.length ca) w' w.heap.size (HRA.out.later (hb.mono hBW)) (Nat.le_trans hBW hb.size) (by omega))
  have HDA := Lib.hid (fun w' (hb : Below W.heap.size W w') => depth_any v (.slice oa v.l.length ca) w' w.heap.size (HRA.out.later (hb.mono hBW)) (Nat.le_trans hBW hb.size) (by omega))
  have HDB := Lib.hid (fun w' (hb : Below W.heap.size W w') => rdepth_any v (.slice oa v.l.length ca) w' w.heap.size (HRA.out.later (hb.mono hBW)) (Nat.le_trans hBW hb.size) (by omega))
  have HUA := Lib.hid (fun w' (hb : Below W.heap.size W w') => rules_any v (.slice oa v.l.length ca) w' w.heap.size (HRA.out.later (hb.mono hBW)) (Nat.le_trans hBW hb.size) (by omega))
  have HUB := Lib.hid (fun w' (hb : Below W.heap.size W w') => rrules_any v (.slice oa v.l.length ca) w' w.heap.size (HRA.out.later (hb.mono hBW)) (Nat.le_trans hBW hb.size) (by omega))
  have HCM : Hid (∀ (x y : Value) (w' : World), HoldsI w' w'.heap.size x v.rules → HoldsI w' w'.heap.size y v.rules → Calls Try.prog 15 #[x, y] w' fun e w2 => e = .returned (.int .i64 0) ∧ Below w'.heap.size w' w2) := Lib.hid (fun x y w' hx hy => by
    have h := cmpInts_any x y v.rules v.rules w' w'.heap.size hx hy (Nat.le_refl _)
    rw [cmpL_self] at h
    exact h)
  obtain ⟨ca0, ca1⟩ := HKEEP.out w1 hb1
  have h1 := hb1.drew
  clear hb1 hs HSM
  go_wp2_with fail
  go_region_held_law (fun w' => w'.cell? ⟨w.heap.size, 0, none⟩ = some (.int .i64 v.r) ∧ w'.cell? ⟨w.heap.size, 1, none⟩ = some (.slice oa v.l.length ca))
    (exact HKEEP.out _ (by assumption))
    (first
      | (go_simp; go_at_call 11; (with_reducible refine (HSA.out _ (by assumption)).mono ?_); rintro e w2 ⟨rfl, hb2⟩
         have h2 : Below W.heap.size W w2 := h1.trans (hb2.mono h1.size)
         clear h1 hb2)
      | (go_simp; go_at_call 12; (with_reducible refine (HSB.out _ (by assumption)).mono ?_); rintro e w3 ⟨rfl, hb3⟩
         have h3 : Below W.heap.size W w3 := h2.trans (hb3.mono h2.size)
         clear h2 hb3)
      | (go_simp; go_at_call 13; (with_reducible refine (HDA.out _ (by assumption)).mono ?_); rintro e w4 ⟨rfl, hb4⟩
         have h4 : Below W.heap.size W w4 := h3.trans (hb4.mono h3.size)
         clear h3 hb4)
      | (go_simp; go_at_call 14; (with_reducible refine (HDB.out _ (by assumption)).mono ?_); rintro e w5 ⟨rfl, hb5⟩
         have h5 : Below W.heap.size W w5 := h4.trans (hb5.mono h4.size)
         clear h4 hb5)
      | (go_simp; go_at_call 16; (with_reducible refine (HUA.out _ (by assumption)).mono ?_); rintro e w6 ⟨⟨v1, rfl, g1⟩, hb6⟩
         have H1 := Lib.hid g1.holds
         have h6 : Below W.heap.size W w6 := h5.trans (hb6.mono h5.size)
         clear h5 hb6 g1)
      | (go_simp; go_at_call 17; (with_reducible refine (HUB.out _ (by assumption)).mono ?_); rintro e w7 ⟨⟨v2, rfl, g2⟩, hb7⟩
         have H1' := Lib.hid (H1.out.on hb7)
         have H2 := Lib.hid g2.holds
         have h7 : Below W.heap.size W w7 := h6.trans (hb7.mono h6.size)
         clear h6 hb7 g2 H1)
      | (go_simp; go_at_call 15; (with_reducible refine (HCM.out _ _ _ H1'.out H2.out).mono ?_); rintro e w8 ⟨rfl, hb8⟩
         have h8 : Below W.heap.size W w8 := h7.trans (hb8.mono h7.size)
         clear h7 hb8 H1' H2)
      | (go_simp; go_at_call 10; (refine (alive_any _).mono ?_); rintro e w9 ⟨rfl, hb9⟩
         have h9 : Below W.heap.size W w9 := h8.trans (hb9.mono h8.size)
         clear h8 hb9))
  go_wp2_with fail
  go_ret
  exact ⟨rfl, HBB.trans (h9.mono (by omega))⟩

end Go.Proofs.Ytdfhfljmcakilaa
