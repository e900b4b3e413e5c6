/-
  Compare of the reference. Nothing is assumed.
-/
import Derived.Test.YtdfhfljmcakilaaTmSCmp
import Derived.Test.YtdfhfljmcakilaaTmRRules
import Derived.Deep.RegionHeldLaw
namespace Go.Proofs.Ytdfhfljmcakilaa
open Go.RowKit

set_option maxRecDepth 100000 in
set_option maxHeartbeats 3200000 in
theorem rcompare_any (a b : T) (sa sb : Value) (w : World) (B : Nat) (hra : Rep w B sa a.l) (hrb : Rep w B sb b.l) (hB : B ≤ w.heap.size) (hsa : a.size ≤ 900) (hsb : b.size ≤ 900) :
    Calls Try.prog 18 #[.agg #[.int .i64 a.r, sa], .agg #[.int .i64 b.r, sb]] w fun e w' => e = .returned (.int .i64 (a.cmp b)) ∧ Below w.heap.size w w' := by
  obtain ⟨oa, ca, rfl, _, _⟩ := hra.form
  obtain ⟨ob, cb, rfl, _, _⟩ := hrb.form
  have HZ := Lib.hid (show a.cmp b = if cmpI a.size b.size ≠ 0 then cmpI a.size b.size else if cmpL a.rules b.rules ≠ 0 then cmpL a.rules b.rules else cmpL a.ars b.ars from rfl)
  have HBB : Below w.heap.size w ((w.alloc (.cells #[.int .i64 a.r, .slice oa a.l.length ca] 24)).alloc (.cells #[.int .i64 b.r, .slice ob b.l.length cb] 24)) := below2 _ _ _
  have BA : Box ((w.alloc (.cells #[.int .i64 a.r, .slice oa a.l.length ca] 24)).alloc (.cells #[.int .i64 b.r, .slice ob b.l.length cb] 24)) w.heap.size a (.slice oa a.l.length ca) := (Box.new a _ _ rfl).later (below1 _ _) (by simp)
  have BB : Box ((w.alloc (.cells #[.int .i64 a.r, .slice oa a.l.length ca] 24)).alloc (.cells #[.int .i64 b.r, .slice ob b.l.length cb] 24)) (w.heap.size + 1) b (.slice ob b.l.length cb) := Box.new b _ _ (by simp)
  have hzz : ((w.alloc (.cells #[.int .i64 a.r, .slice oa a.l.length ca] 24)).alloc (.cells #[.int .i64 b.r, .slice ob b.l.length cb] 24)).heap.size = w.heap.size + 2 := by simp
  have HRA := Lib.hid (hra.later (HBB.mono hB))
  have HRB := Lib.hid (hrb.later (HBB.mono hB))
  clear hra hrb
  go_enter Try.func18, Try.ntmps18
  go_wp2_with fail
  generalize (w.alloc (.cells #[.int .i64 a.r, .slice oa a.l.length ca] 24)).alloc (.cells #[.int .i64 b.r, .slice ob b.l.length cb] 24) = W at *
  have hBW : B ≤ W.heap.size := by omega
  have HKEEP : Hid (∀ w', Below W.heap.size W w' → w'.cell? ⟨w.heap.size, 0, none⟩ = some (.int .i64 a.r) ∧ w'.cell? ⟨w.heap.size, 1, none⟩ = some (.slice oa a.l.length ca) ∧ w'.cell? ⟨w.heap.size + 1, 0, none⟩ = some (.int .i64 b.r) ∧ w'.cell? ⟨w.heap.size + 1, 1, none⟩ = some (.slice ob b.l.length cb)) :=
    Lib.hid (fun w' hb => ⟨(BA.later hb (by omega)).1, (BA.later hb (by omega)).2, (BB.later hb (by omega)).1, (BB.later hb (by omega)).2⟩)
  have HSA : Hid (∀ w', Below W.heap.size W w' → Calls Try.prog 12 #[.agg #[.int .i64 a.r, .slice oa a.l.length ca]] w' fun e w2 => e = .returned (.int .i64 a.size) ∧ Below w'.heap.size w' w2) :=
    Lib.hid (fun w' hb => rsize_any a _ w' B (HRA.out.later (hb.mono hBW)) (Nat.le_trans hBW hb.size) (by omega))
  have HSB : Hid (∀ w', Below W.heap.size W w' → Calls Try.prog 12 #[.agg #[.int .i64 b.r, .slice ob b.l.length cb]] w' fun e w2 => e = .returned (.int .i64 b.size) ∧ Below w'.heap.size w' w2) :=
    Lib.hid (fun w' hb => rsize_any b _ w' B (HRB.out.later (hb.mono hBW)) (Nat.le_trans hBW hb.size) (by omega))
  have HUA : Hid (∀ w', Below W.heap.size W w' → Calls Try.prog 17 #[.agg #[.int .i64 a.r, .slice oa a.l.length ca]] w' fun e w2 => RetI w'.heap.size a.rules e w2 ∧ Below w'.heap.size w' w2) :=
    Lib.hid (fun w' hb => rrules_any a _ w' B (HRA.out.later (hb.mono hBW)) (Nat.le_trans hBW hb.size) (by omega))
  have HUB : Hid (∀ w', Below W.heap.size W w' → Calls Try.prog 17 #[.agg #[.int .i64 b.r, .slice ob b.l.length cb]] w' fun e w2 => RetI w'.heap.size b.rules e w2 ∧ Below w'.heap.size w' w2) :=
    Lib.hid (fun w' hb => rrules_any b _ w' B (HRB.out.later (hb.mono hBW)) (Nat.le_trans hBW hb.size) (by omega))
  have HAA : Hid (∀ w', Below W.heap.size W w' → Calls Try.prog 34 #[.agg #[.int .i64 a.r, .slice oa a.l.length ca]] w' fun e w2 => RetI w'.heap.size a.ars e w2 ∧ Below w'.heap.size w' w2) :=
    Lib.hid (fun w' hb => rars_any a _ w' B (HRA.out.later (hb.mono hBW)) (Nat.le_trans hBW hb.size) (by omega))
  have HAB : Hid (∀ w', Below W.heap.size W w' → Calls Try.prog 34 #[.agg #[.int .i64 b.r, .slice ob b.l.length cb]] w' fun e w2 => RetI w'.heap.size b.ars e w2 ∧ Below w'.heap.size w' w2) :=
    Lib.hid (fun w' hb => rars_any b _ w' B (HRB.out.later (hb.mono hBW)) (Nat.le_trans hBW hb.size) (by omega))
  obtain ⟨ca0, ca1, cb0, cb1⟩ := HKEEP.out W (Below.refl _ _)
  have h0 : Below W.heap.size W W.drew := (Below.refl _ _).drew
  go_region_held_law (fun w' => w'.cell? ⟨w.heap.size, 0, none⟩ = some (.int .i64 a.r) ∧ w'.cell? ⟨w.heap.size, 1, none⟩ = some (.slice oa a.l.length ca) ∧ w'.cell? ⟨w.heap.size + 1, 0, none⟩ = some (.int .i64 b.r) ∧ w'.cell? ⟨w.heap.size + 1, 1, none⟩ = some (.slice ob b.l.length cb))
    (exact HKEEP.out _ (by assumption))
    (first
      | (go_simp; go_at_call 12; (with_reducible refine (HSA.out _ (by assumption)).mono ?_); rintro e w3 ⟨rfl, hb3⟩
         have h3 : Below W.heap.size W w3 := h0.trans hb3
         clear h0 hb3)
      | (go_simp; go_at_call 12; (with_reducible refine (HSB.out _ (by assumption)).mono ?_); rintro e w4 ⟨rfl, hb4⟩
         have h4 : Below W.heap.size W w4 := h3.trans (hb4.mono h3.size)
         clear h3 hb4)
      | (go_simp; go_at_call 31; (with_reducible refine (order_any _ _ _).mono ?_); rintro e w5 ⟨rfl, hw5⟩; subst hw5))
  by_cases hc1 : cmpI a.size b.size = 0
  case neg =>
    have fc := neqt hc1
    have HC := Lib.hid hc1
    clear hc1
    go_wp2_with fail
    go_ret
    exact ⟨ret_int (by rw [HZ.out, if_pos HC.out]), HBB.trans (h4.mono (by omega))⟩
  have fc := neqf hc1
  have HC1 := Lib.hid hc1
  clear hc1
  go_wp2_with fail
  clear fc
  have h5 := h4.drew
  clear h4
  go_region_held_law (fun w' => w'.cell? ⟨w.heap.size, 0, none⟩ = some (.int .i64 a.r) ∧ w'.cell? ⟨w.heap.size, 1, none⟩ = some (.slice oa a.l.length ca) ∧ w'.cell? ⟨w.heap.size + 1, 0, none⟩ = some (.int .i64 b.r) ∧ w'.cell? ⟨w.heap.size + 1, 1, none⟩ = some (.slice ob b.l.length cb))
    (exact HKEEP.out _ (by assumption))
    (first
      | (go_simp; go_at_call 17; (with_reducible refine (HUA.out _ (by assumption)).mono ?_); rintro e w6 ⟨⟨v1, rfl, g1⟩, hb6⟩
         have H1 := Lib.hid g1.holds
         have h6 : Below W.heap.size W w6 := h5.trans (hb6.mono h5.size)
         clear h5 hb6 g1)
      | (go_simp; go_at_call 17; (with_reducible refine (HUB.out _ (by assumption)).mono ?_); rintro e w7 ⟨⟨v2, rfl, g2⟩, hb7⟩
         have H1' := Lib.hid (H1.out.on hb7)
         have H2 := Lib.hid g2.holds
         have h7 : Below W.heap.size W w7 := h6.trans (hb7.mono h6.size)
         clear h6 hb7 g2 H1)
      | (go_simp; go_at_call 15; (with_reducible refine (cmpInts_any _ _ _ _ _ _ H1'.out H2.out (Nat.le_refl _)).mono ?_); rintro e w8 ⟨rfl, hb8⟩
         have h8 : Below W.heap.size W w8 := h7.trans (hb8.mono h7.size)
         clear h7 hb8 H1' H2))
  by_cases hc1 : cmpL a.rules b.rules = 0
  case neg =>
    have fc := neqt hc1
    have HC := Lib.hid hc1
    clear hc1
    go_wp2_with fail
    go_ret
    exact ⟨ret_int (by rw [HZ.out, if_neg (by rw [HC1.out]; simp), if_pos HC.out]), HBB.trans (h8.mono (by omega))⟩
  have fc := neqf hc1
  have HC2 := Lib.hid hc1
  clear hc1
  go_wp2_with fail
  clear fc
  have h5 := h8.drew
  clear h8
  go_region_held_law (fun w' => w'.cell? ⟨w.heap.size, 0, none⟩ = some (.int .i64 a.r) ∧ w'.cell? ⟨w.heap.size, 1, none⟩ = some (.slice oa a.l.length ca) ∧ w'.cell? ⟨w.heap.size + 1, 0, none⟩ = some (.int .i64 b.r) ∧ w'.cell? ⟨w.heap.size + 1, 1, none⟩ = some (.slice ob b.l.length cb))
    (exact HKEEP.out _ (by assumption))
    (first
      | (go_simp; go_at_call 34; (with_reducible refine (HAA.out _ (by assumption)).mono ?_); rintro e w6 ⟨⟨v1, rfl, g1⟩, hb6⟩
         have H1 := Lib.hid g1.holds
         have h6 : Below W.heap.size W w6 := h5.trans (hb6.mono h5.size)
         clear h5 hb6 g1)
      | (go_simp; go_at_call 34; (with_reducible refine (HAB.out _ (by assumption)).mono ?_); rintro e w7 ⟨⟨v2, rfl, g2⟩, hb7⟩
         have H1' := Lib.hid (H1.out.on hb7)
         have H2 := Lib.hid g2.holds
         have h7 : Below W.heap.size W w7 := h6.trans (hb7.mono h6.size)
         clear h6 hb7 g2 H1)
      | (go_simp; go_at_call 15; (with_reducible refine (cmpInts_any _ _ _ _ _ _ H1'.out H2.out (Nat.le_refl _)).mono ?_); rintro e w8 ⟨rfl, hb8⟩
         have h8 : Below W.heap.size W w8 := h7.trans (hb8.mono h7.size)
         clear h7 hb8 H1' H2))
  go_wp2_with fail
  go_ret
  exact ⟨ret_int (by rw [HZ.out, if_neg (by rw [HC1.out]; simp), if_neg (by rw [HC2.out]; simp)]), HBB.trans (h8.mono (by omega))⟩

end Go.Proofs.Ytdfhfljmcakilaa
