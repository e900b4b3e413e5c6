/-
  The walk of ValueReturns, a table.
-/
import Derived.Test.YtohecojckghedaaDoorLawCompares
import Derived.Test.YtohecojckghedaaDoorRefGets
namespace Go.Proofs.YtohecojckghedaaDoor
open Go.RowKit
open Go.Sort (grow)

set_option maxRecDepth 100000 in
set_option maxHeartbeats 6400000 in
theorem lawReturns_7 (v : V) (sl : Value) (w : World) (B : Nat) (hrep : Rep w B sl v.l) (hB : B ≤ w.heap.size) (hN : Names w) (hsm : v.small = true) (hck : v.chk = 0) (hty : v.t = 7) :
    Calls Tryd.prog 10 #[.agg #[.int .i64 v.t, .int .i64 v.n, .string v.s, sl]] w fun e w' => e = .returned (.bool true) ∧ Below w.heap.size w w' := by
  have HSM := Lib.hid hsm
  have HCK := Lib.hid hck
  have HTY := Lib.hid hty
  clear hsm hck hty
  obtain ⟨oa, ca, rfl, _, _, hel⟩ := hrep.slice
  clear hel
  go_enter Tryd.func10, Tryd.ntmps10
  go_wp2_with fail
  have kk : Below w.heap.size w (w.alloc (.cells #[.int .i64 v.t, .int .i64 v.n, .string v.s, .slice oa v.l.length ca] 24)) := below1 _ _
  have x0 : Hid (Box (w.alloc (.cells #[.int .i64 v.t, .int .i64 v.n, .string v.s, .slice oa v.l.length ca] 24)) w.heap.size v (.slice oa v.l.length ca)) := Box.new v _ _ rfl
  have hzz : w.heap.size + 1 ≤ (w.alloc (.cells #[.int .i64 v.t, .int .i64 v.n, .string v.s, .slice oa v.l.length ca] 24)).heap.size := by simp
  have hr0 := Lib.hid (hrep.later (kk.mono hB))
  have hN0 := Lib.hid hN
  clear hrep hN
  generalize w.alloc (.cells #[.int .i64 v.t, .int .i64 v.n, .string v.s, .slice oa v.l.length ca] 24) = W at *
  have k0 : Below (w.heap.size + 1) W W := Below.refl _ _
  have HR : Hid (∀ w', Below (w.heap.size + 1) W w' → Rep w' B (.slice oa v.l.length ca) v.l) := fun w' h => hr0.out.later (h.mono (by omega))
  have FIN : Hid (∀ w', Below (w.heap.size + 1) W w' → Below w.heap.size w w') := fun w' h => kk.trans (h.mono (by omega))
  refine (small_any v _ W B (HR.out _ k0) (by omega)).mono ?_
  rintro e w1 ⟨rfl, hb1⟩
  have k1 : Below (w.heap.size + 1) W w1 := hb1.mono hzz
  have x1 := Lib.hid (x0.out.later hb1 (by omega))
  clear hb1
  obtain ⟨a0, a1, a2, a3⟩ := x1.out
  rw [HSM.out]
  go_wp2_with fail
  refine (check_any v _ w1 B (HR.out _ k1) (by have := k1.size; omega)).mono ?_
  rintro e w2 ⟨rfl, hb2⟩
  have k2 : Below (w.heap.size + 1) W w2 := k1.trans (hb2.mono (by have := k1.size; omega))
  have x2 := Lib.hid (x1.out.later hb2 (by have := k1.size; omega))
  clear hb2
  obtain ⟨a0, a1, a2, a3⟩ := x2.out
  rw [HCK.out]
  have hty := HTY.out
  have HV : Hid (∀ w', Below (w.heap.size + 1) W w' → Calls Tryd.prog 54 #[.agg #[.int .i64 7, .int .i64 v.n, .string v.s, .slice oa v.l.length ca]] w' fun e w'' => Good2 v.l.length (fun w B x => LRows w B x (v.l.map fun r => r.l.map V.s)) e w'' ∧ Below w'.heap.size w' w'') := fun w' h => by
    have h1 := rows_good v _ w' B (HR.out _ h) (by have := h.size; omega) HTY.out HCK.out
    rw [HTY.out] at h1
    exact h1
  rw [hty] at a0
  clear hty
  go_wp2_with fail
  refine (HV.out _ k2).mono ?_
  rintro e w3 ⟨⟨o3, c3, rfl, hL⟩, hb3⟩
  have HL := Lib.hid hL; clear hL
  have k3 : Below (w.heap.size + 1) W w3 := k2.trans (hb3.mono (by have := k2.size; omega))
  have x3 := Lib.hid (x2.out.later hb3 (by have := k2.size; omega))
  clear hb3
  obtain ⟨a0, a1, a2, a3⟩ := x3.out
  have KF := Lib.hid k3
  have HC : Hid (Calls Tryd.prog 48 #[.slice o3 v.l.length c3] w3.drew fun e w' => (∃ ox cx, e = .returned (.agg #[.int .i64 v.t, .int .i64 v.n, .string v.s, .slice ox v.l.length cx]) ∧ Rep w' w'.heap.size (.slice ox v.l.length cx) v.l) ∧ Below w3.heap.size w3 w') := by
    refine (ofTable_any (v.l.map fun r => r.l.map V.s) _ w3.drew w3.heap.size (LRows.later HL.out ((Below.refl _ _).drew)) (Nat.le_refl _) (by have := (table_is HTY.out HCK.out).1; simp; omega) (fun r hr => by obtain ⟨x, hx, rfl⟩ := List.mem_map.1 hr; have := ((table_is HTY.out HCK.out).2.1 x hx).1; simp; omega)).mono ?_
    rintro e w' ⟨⟨ox, cx, rfl, h2⟩, h3⟩
    have he : V.mk 7 0 ⟨#[]⟩ ((v.l.map fun r => r.l.map V.s).map rowV) = v := (table_is HTY.out HCK.out).2.2.symm
    have h4 := h2.rep (B := w'.heap.size) (fun b hb => hb.2)
    rw [he] at h4
    rw [he]
    exact ⟨⟨ox, cx, rfl, h4⟩, (Below.refl _ _).drew.trans h3⟩
  go_wp2_with fail
  go_region_law (first
    | (go_simp; go_at_call 48; refine HC.out.mono ?_; rintro e w8 ⟨⟨ox, cx, rfl, hR8⟩, hb8⟩; have HR8 := Lib.hid hR8; clear hR8; have k8 : Below (w.heap.size + 1) W w8 := KF.out.trans (hb8.mono (by have := KF.out.size; omega)); obtain ⟨e0, e1, e2, e3⟩ := x3.out.later hb8 (by have := KF.out.size; omega))
    | (go_simp; go_at_call 24; refine (equal_any v v _ _ w8 w8.heap.size HR8.out ((HR.out _ k8).mono (by have := k8.size; omega)) (Nat.le_refl _)).mono ?_; rw [V.eqb_self]; rintro e w9 ⟨rfl, hb9⟩; have k9 : Below (w.heap.size + 1) W w9 := k8.trans (hb9.mono (by have := k8.size; omega)); obtain ⟨g0, g1, g2, g3⟩ := (x3.out.later hb8 (by have := KF.out.size; omega)).later hb9 (by have := k8.size; have := KF.out.size; omega)))
  all_goals
    go_wp2_with fail
    go_ret
    exact ⟨rfl, FIN.out _ k9⟩

end Go.Proofs.YtohecojckghedaaDoor
