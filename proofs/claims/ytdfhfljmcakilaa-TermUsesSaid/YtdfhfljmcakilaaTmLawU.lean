/-
  The walk of TermUses. Nothing is assumed.
-/
import Derived.Test.YtdfhfljmcakilaaTmRUses
import Derived.Test.YtdfhfljmcakilaaTmLaw0
import Derived.Deep.RegionHeldLaw
namespace Go.Proofs.Ytdfhfljmcakilaa
open Go.RowKit

set_option maxRecDepth 100000 in
set_option maxHeartbeats 6400000 in
theorem lawUses_any (L : Lan) (x1 x2 x3 : Value) (v : T) (sl : Value) (input : Int) (w : World) (hL : HoldsL w w.heap.size x1 x2 x3 L) (hrep : Rep w w.heap.size sl v.l) :
    Calls Try.prog 8 #[lanV L x1 x2 x3, .agg #[.int .i64 v.r, sl], .int .i64 input] w fun e w' => e = .returned (.bool true) ∧ Below w.heap.size w w' := by
  have HL0 := Lib.hid hL
  obtain ⟨hI, hY, hU⟩ := hL
  obtain ⟨o1, c1, rfl, _, _⟩ : ∃ oa cap, x1 = .slice oa L.ins.length cap ∧ L.ins.length ≤ cap ∧ cap ≤ 9223372036854775807 := by obtain ⟨a, b, c, d, e, _⟩ := hI; exact ⟨a, b, c, d, e⟩
  obtain ⟨o2, c2, rfl, _, _⟩ := hY.form
  obtain ⟨o3, c3, rfl, _, _⟩ := hU.form
  obtain ⟨oa, ca, rfl, _, _⟩ := hrep.form
  have HBB := Lib.hid (below2 w (.cells #[.string L.nm, .slice o1 L.ins.length c1, .slice o2 L.sys.length c2, .slice o3 L.rs.length c3] 45) (.cells #[.int .i64 v.r, .slice oa v.l.length ca] 24))
  have HBL := Lib.hid ((BoxL.new w w.heap.size L (.slice o1 L.ins.length c1) (.slice o2 L.sys.length c2) (.slice o3 L.rs.length c3) 45 rfl).later (below1 _ (.cells #[.int .i64 v.r, .slice oa v.l.length ca] 24)) (by simp))
  have HBT : Hid (Box ((w.alloc (.cells #[.string L.nm, .slice o1 L.ins.length c1, .slice o2 L.sys.length c2, .slice o3 L.rs.length c3] 45)).alloc (.cells #[.int .i64 v.r, .slice oa v.l.length ca] 24)) (w.heap.size + 1) v (.slice oa v.l.length ca)) := Lib.hid (Box.new v _ _ (by simp))
  have hzz : ((w.alloc (.cells #[.string L.nm, .slice o1 L.ins.length c1, .slice o2 L.sys.length c2, .slice o3 L.rs.length c3] 45)).alloc (.cells #[.int .i64 v.r, .slice oa v.l.length ca] 24)).heap.size = w.heap.size + 2 := by simp
  have HL := Lib.hid (HL0.out.later HBB.out)
  have HR := Lib.hid (hrep.later HBB.out)
  clear hI hY hU hrep
  go_enter Try.func8, Try.ntmps8
  go_wp2_with fail
  generalize (w.alloc (.cells #[.string L.nm, .slice o1 L.ins.length c1, .slice o2 L.sys.length c2, .slice o3 L.rs.length c3] 45)).alloc (.cells #[.int .i64 v.r, .slice oa v.l.length ca] 24) = W at *
  have hBW : w.heap.size ≤ W.heap.size := by omega
  have HKEEP : Hid (∀ w', Below W.heap.size W w' → w'.cell? ⟨w.heap.size, 0, none⟩ = some (.string L.nm) ∧ w'.cell? ⟨w.heap.size, 1, none⟩ = some (.slice o1 L.ins.length c1) ∧ w'.cell? ⟨w.heap.size, 2, none⟩ = some (.slice o2 L.sys.length c2) ∧ w'.cell? ⟨w.heap.size, 3, none⟩ = some (.slice o3 L.rs.length c3) ∧ w'.cell? ⟨w.heap.size + 1, 0, none⟩ = some (.int .i64 v.r) ∧ w'.cell? ⟨w.heap.size + 1, 1, none⟩ = some (.slice oa v.l.length ca)) := Lib.hid (fun w' hb => ⟨(HBL.out.later hb (by omega)).1, (HBL.out.later hb (by omega)).2.1, (HBL.out.later hb (by omega)).2.2.1, (HBL.out.later hb (by omega)).2.2.2, (HBT.out.later hb (by omega)).1, (HBT.out.later hb (by omega)).2⟩)
  have HFEW := Lib.hid (fun w' (hb : Below W.heap.size W w') => few_any L (.slice o1 L.ins.length c1) (.slice o2 L.sys.length c2) (.slice o3 L.rs.length c3) w' w.heap.size (HL.out.later (hb.mono hBW)) (Nat.le_trans hBW hb.size))
  obtain ⟨l0, l1, l2, l3, t0, t1⟩ := HKEEP.out W (Below.refl _ _)
  have h0 : Below W.heap.size W W.drew := (Below.refl _ _).drew
  cases hf : fewL L
  · rw [hf] at HFEW
    clear hf
    refine wp_region_held_drew (S := fun w' => w'.cell? ⟨w.heap.size, 0, none⟩ = some (.string L.nm) ∧ w'.cell? ⟨w.heap.size, 1, none⟩ = some (.slice o1 L.ins.length c1) ∧ w'.cell? ⟨w.heap.size, 2, none⟩ = some (.slice o2 L.sys.length c2) ∧ w'.cell? ⟨w.heap.size, 3, none⟩ = some (.slice o3 L.rs.length c3) ∧ w'.cell? ⟨w.heap.size + 1, 0, none⟩ = some (.int .i64 v.r) ∧ w'.cell? ⟨w.heap.size + 1, 1, none⟩ = some (.slice oa v.l.length ca)) (by kernel_rfl) ?keep (fun hHeld => ?_)
    case keep => exact HKEEP.out _ h0
    refine wpAnyH_take (i := 0) (v := ?v0) rfl (by kernel_rfl) (by kernel_rfl) (by kernel_rfl) (fun _ _ _ h => h) (Or.inl ⟨by rfl, ?hy0⟩) (by assumption) ?rest0
    case hy0 => (intro w0 hSw; (try dsimp only at hSw); first | (go_simp; done) | (go_simp; with_reducible rfl))
    (try simp only [Act.put, List.setIfInBounds_toArray, List.set_cons_zero, List.set_cons_succ, List.getElem_toArray, List.getElem_cons_zero])
    refine wpAnyH_ready (rs := [1]) (by kernel_rfl) (by simp) ?_
    refine AllReadyH.cons rfl (fun K hK => ?_) AllReadyH.nil
    go_simp
    go_at_call 27
    refine (HFEW.out _ h0).mono ?_
    rintro e w2 ⟨rfl, hb2⟩
    have h2 : Below W.heap.size W w2 := h0.trans hb2
    clear hb2
    (try go_simp)
    refine hK.out _ _ ?keep1 (fun hHeld => ?_)
    case keep1 => exact HKEEP.out _ h2
    clear hK K
    (try simp only [Act.put, List.setIfInBounds_toArray, List.set_cons_zero, List.set_cons_succ, List.getElem_toArray, List.getElem_cons_zero, List.getElem_cons_succ])
    refine wpAnyH_take (i := 2) (v := ?v2) rfl (by kernel_rfl) (by kernel_rfl) (by kernel_rfl) (fun _ _ _ h => h) (Or.inl ⟨by rfl, ?hy2⟩) (by assumption) ?rest2
    case hy2 => (intro w0 hSw; (try dsimp only at hSw); first | (go_simp; done) | (go_simp; with_reducible rfl))
    (try simp only [Act.put, List.setIfInBounds_toArray, List.set_cons_zero, List.set_cons_succ, List.getElem_toArray, List.getElem_cons_zero, List.getElem_cons_succ])
    refine wpAnyH_take (i := 3) (v := ?v3) rfl (by kernel_rfl) (by kernel_rfl) (by kernel_rfl) (fun _ _ _ h => h) (Or.inl ⟨by rfl, ?hy3⟩) (by assumption) ?rest3
    case hy3 => (intro w0 hSw; (try dsimp only at hSw); first | (go_simp; done) | (go_simp; with_reducible rfl))
    (try simp only [Act.put, List.setIfInBounds_toArray, List.set_cons_zero, List.set_cons_succ, List.getElem_toArray, List.getElem_cons_zero, List.getElem_cons_succ])
    refine wpAnyH_take (i := 4) (v := undef) rfl (by kernel_rfl) (by kernel_rfl) (by kernel_rfl) (fun _ _ _ h => h) (Or.inr ⟨by rfl, rfl⟩) (by assumption) ?_
    (try simp only [Act.put, List.setIfInBounds_toArray, List.set_cons_zero, List.set_cons_succ, List.getElem_toArray, List.getElem_cons_zero, List.getElem_cons_succ])
    refine wpAnyH_take (i := 5) (v := undef) rfl (by kernel_rfl) (by kernel_rfl) (by kernel_rfl) (fun _ _ _ h => h) (Or.inr ⟨by rfl, rfl⟩) (by assumption) ?_
    (try simp only [Act.put, List.setIfInBounds_toArray, List.set_cons_zero, List.set_cons_succ, List.getElem_toArray, List.getElem_cons_zero, List.getElem_cons_succ])
    refine wpAnyH_take (i := 6) (v := undef) rfl (by kernel_rfl) (by kernel_rfl) (by kernel_rfl) (fun _ _ _ h => h) (Or.inr ⟨by rfl, rfl⟩) (by assumption) ?_
    (try simp only [Act.put, List.setIfInBounds_toArray, List.set_cons_zero, List.set_cons_succ, List.getElem_toArray, List.getElem_cons_zero, List.getElem_cons_succ])
    refine wpAnyH_take (i := 7) (v := undef) rfl (by kernel_rfl) (by kernel_rfl) (by kernel_rfl) (fun _ _ _ h => h) (Or.inr ⟨by rfl, rfl⟩) (by assumption) ?_
    (try simp only [Act.put, List.setIfInBounds_toArray, List.set_cons_zero, List.set_cons_succ, List.getElem_toArray, List.getElem_cons_zero, List.getElem_cons_succ])
    refine wpAnyH_take (i := 8) (v := ?v8) rfl (by kernel_rfl) (by kernel_rfl) (by kernel_rfl) (fun _ _ _ h => h) (Or.inl ⟨by rfl, ?hy8⟩) (by assumption) ?rest8
    case hy8 => (intro w0 hSw; (try dsimp only at hSw); first | (go_simp; done) | (go_simp; with_reducible rfl))
    (try simp only [Act.put, List.setIfInBounds_toArray, List.set_cons_zero, List.set_cons_succ, List.getElem_toArray, List.getElem_cons_zero, List.getElem_cons_succ])
    refine wpAnyH_take (i := 9) (v := ?v9) rfl (by kernel_rfl) (by kernel_rfl) (by kernel_rfl) (fun _ _ _ h => h) (Or.inl ⟨by rfl, ?hy9⟩) (by assumption) ?rest9
    case hy9 => (intro w0 hSw; (try dsimp only at hSw); first | (go_simp; done) | (go_simp; with_reducible rfl))
    (try simp only [Act.put, List.setIfInBounds_toArray, List.set_cons_zero, List.set_cons_succ, List.getElem_toArray, List.getElem_cons_zero, List.getElem_cons_succ])
    refine wpAnyH_take (i := 10) (v := undef) rfl (by kernel_rfl) (by kernel_rfl) (by kernel_rfl) (fun _ _ _ h => h) (Or.inr ⟨by rfl, rfl⟩) (by assumption) ?_
    (try simp only [Act.put, List.setIfInBounds_toArray, List.set_cons_zero, List.set_cons_succ, List.getElem_toArray, List.getElem_cons_zero, List.getElem_cons_succ])
    refine wpAnyH_take (i := 11) (v := undef) rfl (by kernel_rfl) (by kernel_rfl) (by kernel_rfl) (fun _ _ _ h => h) (Or.inr ⟨by rfl, rfl⟩) (by assumption) ?_
    (try simp only [Act.put, List.setIfInBounds_toArray, List.set_cons_zero, List.set_cons_succ, List.getElem_toArray, List.getElem_cons_zero, List.getElem_cons_succ])
    refine wpAnyH_take (i := 12) (v := undef) rfl (by kernel_rfl) (by kernel_rfl) (by kernel_rfl) (fun _ _ _ h => h) (Or.inr ⟨by rfl, rfl⟩) (by assumption) ?_
    (try simp only [Act.put, List.setIfInBounds_toArray, List.set_cons_zero, List.set_cons_succ, List.getElem_toArray, List.getElem_cons_zero, List.getElem_cons_succ])
    refine wpAnyH_take (i := 13) (v := undef) rfl (by kernel_rfl) (by kernel_rfl) (by kernel_rfl) (fun _ _ _ h => h) (Or.inr ⟨by rfl, rfl⟩) (by assumption) ?_
    (try simp only [Act.put, List.setIfInBounds_toArray, List.set_cons_zero, List.set_cons_succ, List.getElem_toArray, List.getElem_cons_zero, List.getElem_cons_succ])
    refine wpAnyH_take (i := 14) (v := undef) rfl (by kernel_rfl) (by kernel_rfl) (by kernel_rfl) (fun _ _ _ h => h) (Or.inr ⟨by rfl, rfl⟩) (by assumption) ?_
    (try simp only [Act.put, List.setIfInBounds_toArray, List.set_cons_zero, List.set_cons_succ, List.getElem_toArray, List.getElem_cons_zero, List.getElem_cons_succ])
    refine wpAnyH_take (i := 15) (v := undef) rfl (by kernel_rfl) (by kernel_rfl) (by kernel_rfl) (fun _ _ _ h => h) (Or.inr ⟨by rfl, rfl⟩) (by assumption) ?_
    (try simp only [Act.put, List.setIfInBounds_toArray, List.set_cons_zero, List.set_cons_succ, List.getElem_toArray, List.getElem_cons_zero, List.getElem_cons_succ])
    refine wpAnyH_take (i := 16) (v := undef) rfl (by kernel_rfl) (by kernel_rfl) (by kernel_rfl) (fun _ _ _ h => h) (Or.inr ⟨by rfl, rfl⟩) (by assumption) ?_
    (try simp only [Act.put, List.setIfInBounds_toArray, List.set_cons_zero, List.set_cons_succ, List.getElem_toArray, List.getElem_cons_zero, List.getElem_cons_succ])
    refine wpAnyH_take (i := 17) (v := undef) rfl (by kernel_rfl) (by kernel_rfl) (by kernel_rfl) (fun _ _ _ h => h) (Or.inr ⟨by rfl, rfl⟩) (by assumption) ?_
    (try simp only [Act.put, List.setIfInBounds_toArray, List.set_cons_zero, List.set_cons_succ, List.getElem_toArray, List.getElem_cons_zero, List.getElem_cons_succ])
    refine wpAnyH_take (i := 18) (v := undef) rfl (by kernel_rfl) (by kernel_rfl) (by kernel_rfl) (fun _ _ _ h => h) (Or.inr ⟨by rfl, rfl⟩) (by assumption) ?_
    (try simp only [Act.put, List.setIfInBounds_toArray, List.set_cons_zero, List.set_cons_succ, List.getElem_toArray, List.getElem_cons_zero, List.getElem_cons_succ])
    refine wpAnyH_take (i := 19) (v := ?v19) rfl (by kernel_rfl) (by kernel_rfl) (by kernel_rfl) (fun _ _ _ h => h) (Or.inl ⟨by rfl, ?hy19⟩) (by assumption) ?rest19
    case hy19 => (intro w0 hSw; (try dsimp only at hSw); first | (go_simp; done) | (go_simp; with_reducible rfl))
    (try simp only [Act.put, List.setIfInBounds_toArray, List.set_cons_zero, List.set_cons_succ, List.getElem_toArray, List.getElem_cons_zero, List.getElem_cons_succ])
    refine wpAnyH_take (i := 20) (v := ?v20) rfl (by kernel_rfl) (by kernel_rfl) (by kernel_rfl) (fun _ _ _ h => h) (Or.inl ⟨by rfl, ?hy20⟩) (by assumption) ?rest20
    case hy20 => (intro w0 hSw; (try dsimp only at hSw); first | (go_simp; done) | (go_simp; with_reducible rfl))
    (try simp only [Act.put, List.setIfInBounds_toArray, List.set_cons_zero, List.set_cons_succ, List.getElem_toArray, List.getElem_cons_zero, List.getElem_cons_succ])
    refine wpAnyH_ready (rs := [21]) (by kernel_rfl) (by simp) ?_
    refine AllReadyH.cons rfl (fun K hK => ?_) AllReadyH.nil
    go_simp
    go_at_call 10
    refine (alive_any _).mono ?_
    rintro e w9 ⟨rfl, hb9⟩
    have h9 : Below W.heap.size W w9 := h2.trans (hb9.mono h2.size)
    clear hb9
    (try go_simp)
    refine hK.out _ _ ?keep21 (fun hHeld => ?_)
    case keep21 => exact HKEEP.out _ h9
    clear hK K
    (try simp only [Act.put, List.setIfInBounds_toArray, List.set_cons_zero, List.set_cons_succ, List.getElem_toArray, List.getElem_cons_zero, List.getElem_cons_succ])
    refine wpAnyH_take (i := 22) (v := ?v22) rfl (by kernel_rfl) (by kernel_rfl) (by kernel_rfl) (fun _ _ _ h => h) (Or.inl ⟨by rfl, ?hy22⟩) (by assumption) ?rest22
    case hy22 => (intro w0 hSw; (try dsimp only at hSw); first | (go_simp; done) | (go_simp; with_reducible rfl))
    (try simp only [Act.put, List.setIfInBounds_toArray, List.set_cons_zero, List.set_cons_succ, List.getElem_toArray, List.getElem_cons_zero, List.getElem_cons_succ])
    refine wpAnyH_take (i := 23) (v := ?v23) rfl (by kernel_rfl) (by kernel_rfl) (by kernel_rfl) (fun _ _ _ h => h) (Or.inl ⟨by rfl, ?hy23⟩) (by assumption) ?rest23
    case hy23 => (intro w0 hSw; (try dsimp only at hSw); first | (go_simp; done) | (go_simp; with_reducible rfl))
    (try simp only [Act.put, List.setIfInBounds_toArray, List.set_cons_zero, List.set_cons_succ, List.getElem_toArray, List.getElem_cons_zero, List.getElem_cons_succ])
    refine wpAnyH_done (by kernel_rfl) ?_ _
    go_wp2_with fail
    go_ret
    exact ⟨rfl, HBB.out.trans (h9.mono (by omega))⟩
  rw [hf] at HFEW
  clear hf
  have HSM : Hid (∀ w', Below W.heap.size W w' → Calls Try.prog 9 #[.slice (some ⟨w'.heap.size, 0, none⟩) 1 1] (w'.alloc (.cells #[.int .i64 v.r, .slice oa v.l.length ca] 24)) fun e w2 => e = .returned (.bool (decide (v.size ≤ 40))) ∧ Below w'.heap.size w' w2) := Lib.hid (fun w' hb => by
    have hR1 := Rep.new1 (t := 24) (C := w'.heap.size + 1) (n := w'.heap.size) (HR.out.later (hb.mono hBW)) (Nat.le_trans hBW hb.size) rfl (Nat.le_refl _)
    have h := small_any [v] _ _ _ hR1 (by simp)
    rw [small_one] at h
    exact h.mono fun e w2 ⟨he, hb2⟩ => ⟨he, (below1 _ _).trans (hb2.mono (by simp))⟩)
  cases hs : decide (v.size ≤ 40)
  · rw [hs] at HSM
    clear hs
    refine wp_region_held_drew (S := fun w' => w'.cell? ⟨w.heap.size, 0, none⟩ = some (.string L.nm) ∧ w'.cell? ⟨w.heap.size, 1, none⟩ = some (.slice o1 L.ins.length c1) ∧ w'.cell? ⟨w.heap.size, 2, none⟩ = some (.slice o2 L.sys.length c2) ∧ w'.cell? ⟨w.heap.size, 3, none⟩ = some (.slice o3 L.rs.length c3) ∧ w'.cell? ⟨w.heap.size + 1, 0, none⟩ = some (.int .i64 v.r) ∧ w'.cell? ⟨w.heap.size + 1, 1, none⟩ = some (.slice oa v.l.length ca)) (by kernel_rfl) ?keepb (fun hHeld => ?_)
    case keepb => exact HKEEP.out _ h0
    refine wpAnyH_take (i := 0) (v := ?vb0) rfl (by kernel_rfl) (by kernel_rfl) (by kernel_rfl) (fun _ _ _ h => h) (Or.inl ⟨by rfl, ?hyb0⟩) (by assumption) ?restb0
    case hyb0 => (intro w0 hSw; (try dsimp only at hSw); first | (go_simp; done) | (go_simp; with_reducible rfl))
    (try simp only [Act.put, List.setIfInBounds_toArray, List.set_cons_zero, List.set_cons_succ, List.getElem_toArray, List.getElem_cons_zero])
    refine wpAnyH_ready (rs := [1]) (by kernel_rfl) (by simp) ?_
    refine AllReadyH.cons rfl (fun K hK => ?_) AllReadyH.nil
    go_simp
    go_at_call 27
    refine (HFEW.out _ h0).mono ?_
    rintro e w2 ⟨rfl, hb2⟩
    have h2 : Below W.heap.size W w2 := h0.trans hb2
    clear hb2
    (try go_simp)
    refine hK.out _ _ ?keepb1 (fun hHeld => ?_)
    case keepb1 => exact HKEEP.out _ h2
    clear hK K
    (try simp only [Act.put, List.setIfInBounds_toArray, List.set_cons_zero, List.set_cons_succ, List.getElem_toArray, List.getElem_cons_zero, List.getElem_cons_succ])
    refine wpAnyH_take (i := 2) (v := ?vb2) rfl (by kernel_rfl) (by kernel_rfl) (by kernel_rfl) (fun _ _ _ h => h) (Or.inl ⟨by rfl, ?hyb2⟩) (by assumption) ?restb2
    case hyb2 => (intro w0 hSw; (try dsimp only at hSw); first | (go_simp; done) | (go_simp; with_reducible rfl))
    (try simp only [Act.put, List.setIfInBounds_toArray, List.set_cons_zero, List.set_cons_succ, List.getElem_toArray, List.getElem_cons_zero, List.getElem_cons_succ])
    refine wpAnyH_take (i := 3) (v := ?vb3) rfl (by kernel_rfl) (by kernel_rfl) (by kernel_rfl) (fun _ _ _ h => h) (Or.inl ⟨by rfl, ?hyb3⟩) (by assumption) ?restb3
    case hyb3 => (intro w0 hSw; (try dsimp only at hSw); first | (go_simp; done) | (go_simp; with_reducible rfl))
    (try simp only [Act.put, List.setIfInBounds_toArray, List.set_cons_zero, List.set_cons_succ, List.getElem_toArray, List.getElem_cons_zero, List.getElem_cons_succ])
    refine wpAnyH_take (i := 4) (v := ?vb4) rfl (by kernel_rfl) (by kernel_rfl) (by kernel_rfl) (fun _ _ _ h => h) (Or.inl ⟨by rfl, ?hyb4⟩) (by assumption) ?restb4
    case hyb4 => (intro w0 hSw; (try dsimp only at hSw); first | (go_simp; done) | (go_simp; with_reducible rfl))
    (try simp only [Act.put, List.setIfInBounds_toArray, List.set_cons_zero, List.set_cons_succ, List.getElem_toArray, List.getElem_cons_zero, List.getElem_cons_succ])
    refine wpAnyH_ready (rs := [5]) (by kernel_rfl) (by simp) ?_
    refine AllReadyH.cons rfl (fun K hK => ?_) AllReadyH.nil
    go_simp
    (try go_simp)
    refine hK.out _ _ ?keepb5 (fun hHeld => ?_)
    case keepb5 => exact HKEEP.out _ (h2.alloc h2.size _)
    clear hK K
    (try simp only [Act.put, List.setIfInBounds_toArray, List.set_cons_zero, List.set_cons_succ, List.getElem_toArray, List.getElem_cons_zero, List.getElem_cons_succ])
    refine wpAnyH_ready (rs := [6]) (by kernel_rfl) (by simp) ?_
    refine AllReadyH.cons rfl (fun K hK => ?_) AllReadyH.nil
    go_simp
    go_at_call 9
    refine (HSM.out _ h2).mono ?_
    rintro e w3 ⟨rfl, hb3⟩
    have h3 : Below W.heap.size W w3 := h2.trans (hb3.mono h2.size)
    clear hb3
    (try go_simp)
    refine hK.out _ _ ?keepb6 (fun hHeld => ?_)
    case keepb6 => exact HKEEP.out _ h3
    clear hK K
    (try simp only [Act.put, List.setIfInBounds_toArray, List.set_cons_zero, List.set_cons_succ, List.getElem_toArray, List.getElem_cons_zero, List.getElem_cons_succ])
    refine wpAnyH_take (i := 7) (v := ?vb7) rfl (by kernel_rfl) (by kernel_rfl) (by kernel_rfl) (fun _ _ _ h => h) (Or.inl ⟨by rfl, ?hyb7⟩) (by assumption) ?restb7
    case hyb7 => (intro w0 hSw; (try dsimp only at hSw); first | (go_simp; done) | (go_simp; with_reducible rfl))
    (try simp only [Act.put, List.setIfInBounds_toArray, List.set_cons_zero, List.set_cons_succ, List.getElem_toArray, List.getElem_cons_zero, List.getElem_cons_succ])
    refine wpAnyH_take (i := 8) (v := ?vb8) rfl (by kernel_rfl) (by kernel_rfl) (by kernel_rfl) (fun _ _ _ h => h) (Or.inl ⟨by rfl, ?hyb8⟩) (by assumption) ?restb8
    case hyb8 => (intro w0 hSw; (try dsimp only at hSw); first | (go_simp; done) | (go_simp; with_reducible rfl))
    (try simp only [Act.put, List.setIfInBounds_toArray, List.set_cons_zero, List.set_cons_succ, List.getElem_toArray, List.getElem_cons_zero, List.getElem_cons_succ])
    refine wpAnyH_take (i := 9) (v := ?vb9) rfl (by kernel_rfl) (by kernel_rfl) (by kernel_rfl) (fun _ _ _ h => h) (Or.inl ⟨by rfl, ?hyb9⟩) (by assumption) ?restb9
    case hyb9 => (intro w0 hSw; (try dsimp only at hSw); first | (go_simp; done) | (go_simp; with_reducible rfl))
    (try simp only [Act.put, List.setIfInBounds_toArray, List.set_cons_zero, List.set_cons_succ, List.getElem_toArray, List.getElem_cons_zero, List.getElem_cons_succ])
    refine wpAnyH_take (i := 10) (v := undef) rfl (by kernel_rfl) (by kernel_rfl) (by kernel_rfl) (fun _ _ _ h => h) (Or.inr ⟨by rfl, rfl⟩) (by assumption) ?_
    (try simp only [Act.put, List.setIfInBounds_toArray, List.set_cons_zero, List.set_cons_succ, List.getElem_toArray, List.getElem_cons_zero, List.getElem_cons_succ])
    refine wpAnyH_take (i := 11) (v := undef) rfl (by kernel_rfl) (by kernel_rfl) (by kernel_rfl) (fun _ _ _ h => h) (Or.inr ⟨by rfl, rfl⟩) (by assumption) ?_
    (try simp only [Act.put, List.setIfInBounds_toArray, List.set_cons_zero, List.set_cons_succ, List.getElem_toArray, List.getElem_cons_zero, List.getElem_cons_succ])
    refine wpAnyH_take (i := 12) (v := undef) rfl (by kernel_rfl) (by kernel_rfl) (by kernel_rfl) (fun _ _ _ h => h) (Or.inr ⟨by rfl, rfl⟩) (by assumption) ?_
    (try simp only [Act.put, List.setIfInBounds_toArray, List.set_cons_zero, List.set_cons_succ, List.getElem_toArray, List.getElem_cons_zero, List.getElem_cons_succ])
    refine wpAnyH_take (i := 13) (v := undef) rfl (by kernel_rfl) (by kernel_rfl) (by kernel_rfl) (fun _ _ _ h => h) (Or.inr ⟨by rfl, rfl⟩) (by assumption) ?_
    (try simp only [Act.put, List.setIfInBounds_toArray, List.set_cons_zero, List.set_cons_succ, List.getElem_toArray, List.getElem_cons_zero, List.getElem_cons_succ])
    refine wpAnyH_take (i := 14) (v := undef) rfl (by kernel_rfl) (by kernel_rfl) (by kernel_rfl) (fun _ _ _ h => h) (Or.inr ⟨by rfl, rfl⟩) (by assumption) ?_
    (try simp only [Act.put, List.setIfInBounds_toArray, List.set_cons_zero, List.set_cons_succ, List.getElem_toArray, List.getElem_cons_zero, List.getElem_cons_succ])
    refine wpAnyH_take (i := 15) (v := undef) rfl (by kernel_rfl) (by kernel_rfl) (by kernel_rfl) (fun _ _ _ h => h) (Or.inr ⟨by rfl, rfl⟩) (by assumption) ?_
    (try simp only [Act.put, List.setIfInBounds_toArray, List.set_cons_zero, List.set_cons_succ, List.getElem_toArray, List.getElem_cons_zero, List.getElem_cons_succ])
    refine wpAnyH_take (i := 16) (v := undef) rfl (by kernel_rfl) (by kernel_rfl) (by kernel_rfl) (fun _ _ _ h => h) (Or.inr ⟨by rfl, rfl⟩) (by assumption) ?_
    (try simp only [Act.put, List.setIfInBounds_toArray, List.set_cons_zero, List.set_cons_succ, List.getElem_toArray, List.getElem_cons_zero, List.getElem_cons_succ])
    refine wpAnyH_take (i := 17) (v := undef) rfl (by kernel_rfl) (by kernel_rfl) (by kernel_rfl) (fun _ _ _ h => h) (Or.inr ⟨by rfl, rfl⟩) (by assumption) ?_
    (try simp only [Act.put, List.setIfInBounds_toArray, List.set_cons_zero, List.set_cons_succ, List.getElem_toArray, List.getElem_cons_zero, List.getElem_cons_succ])
    refine wpAnyH_take (i := 18) (v := undef) rfl (by kernel_rfl) (by kernel_rfl) (by kernel_rfl) (fun _ _ _ h => h) (Or.inr ⟨by rfl, rfl⟩) (by assumption) ?_
    (try simp only [Act.put, List.setIfInBounds_toArray, List.set_cons_zero, List.set_cons_succ, List.getElem_toArray, List.getElem_cons_zero, List.getElem_cons_succ])
    refine wpAnyH_take (i := 19) (v := ?vb19) rfl (by kernel_rfl) (by kernel_rfl) (by kernel_rfl) (fun _ _ _ h => h) (Or.inl ⟨by rfl, ?hyb19⟩) (by assumption) ?restb19
    case hyb19 => (intro w0 hSw; (try dsimp only at hSw); first | (go_simp; done) | (go_simp; with_reducible rfl))
    (try simp only [Act.put, List.setIfInBounds_toArray, List.set_cons_zero, List.set_cons_succ, List.getElem_toArray, List.getElem_cons_zero, List.getElem_cons_succ])
    refine wpAnyH_take (i := 20) (v := ?vb20) rfl (by kernel_rfl) (by kernel_rfl) (by kernel_rfl) (fun _ _ _ h => h) (Or.inl ⟨by rfl, ?hyb20⟩) (by assumption) ?restb20
    case hyb20 => (intro w0 hSw; (try dsimp only at hSw); first | (go_simp; done) | (go_simp; with_reducible rfl))
    (try simp only [Act.put, List.setIfInBounds_toArray, List.set_cons_zero, List.set_cons_succ, List.getElem_toArray, List.getElem_cons_zero, List.getElem_cons_succ])
    refine wpAnyH_ready (rs := [21]) (by kernel_rfl) (by simp) ?_
    refine AllReadyH.cons rfl (fun K hK => ?_) AllReadyH.nil
    go_simp
    go_at_call 10
    refine (alive_any _).mono ?_
    rintro e w9 ⟨rfl, hb9⟩
    have h9 : Below W.heap.size W w9 := h3.trans (hb9.mono h3.size)
    clear hb9
    (try go_simp)
    refine hK.out _ _ ?keepb21 (fun hHeld => ?_)
    case keepb21 => exact HKEEP.out _ h9
    clear hK K
    (try simp only [Act.put, List.setIfInBounds_toArray, List.set_cons_zero, List.set_cons_succ, List.getElem_toArray, List.getElem_cons_zero, List.getElem_cons_succ])
    refine wpAnyH_take (i := 22) (v := ?vb22) rfl (by kernel_rfl) (by kernel_rfl) (by kernel_rfl) (fun _ _ _ h => h) (Or.inl ⟨by rfl, ?hyb22⟩) (by assumption) ?restb22
    case hyb22 => (intro w0 hSw; (try dsimp only at hSw); first | (go_simp; done) | (go_simp; with_reducible rfl))
    (try simp only [Act.put, List.setIfInBounds_toArray, List.set_cons_zero, List.set_cons_succ, List.getElem_toArray, List.getElem_cons_zero, List.getElem_cons_succ])
    refine wpAnyH_take (i := 23) (v := ?vb23) rfl (by kernel_rfl) (by kernel_rfl) (by kernel_rfl) (fun _ _ _ h => h) (Or.inl ⟨by rfl, ?hyb23⟩) (by assumption) ?restb23
    case hyb23 => (intro w0 hSw; (try dsimp only at hSw); first | (go_simp; done) | (go_simp; with_reducible rfl))
    (try simp only [Act.put, List.setIfInBounds_toArray, List.set_cons_zero, List.set_cons_succ, List.getElem_toArray, List.getElem_cons_zero, List.getElem_cons_succ])
    refine wpAnyH_done (by kernel_rfl) ?_ _
    go_wp2_with fail
    go_ret
    exact ⟨rfl, HBB.out.trans (h9.mono (by omega))⟩
  rw [hs] at HSM
  have hs40 : v.size ≤ 40 := of_decide_eq_true hs
  have HUA := Lib.hid (fun w' (hb : Below W.heap.size W w') => uses_any L (.slice o1 L.ins.length c1) (.slice o2 L.sys.length c2) (.slice o3 L.rs.length c3) v (.slice oa v.l.length ca) input w' w.heap.size (HL.out.later (hb.mono hBW)) (HR.out.later (hb.mono hBW)) (Nat.le_trans hBW hb.size) (by omega))
  have HUB := Lib.hid (fun w' (hb : Below W.heap.size W w') => ruses_any L (.slice o1 L.ins.length c1) (.slice o2 L.sys.length c2) (.slice o3 L.rs.length c3) input v (.slice oa v.l.length ca) w' w.heap.size (HL.out.later (hb.mono hBW)) (HR.out.later (hb.mono hBW)) (Nat.le_trans hBW hb.size) (by omega))
  clear hs
  cases hu : usesT L input v
  · rw [hu] at HUA HUB
    clear hu
    go_region_held_law (fun w' => w'.cell? ⟨w.heap.size, 0, none⟩ = some (.string L.nm) ∧ w'.cell? ⟨w.heap.size, 1, none⟩ = some (.slice o1 L.ins.length c1) ∧ w'.cell? ⟨w.heap.size, 2, none⟩ = some (.slice o2 L.sys.length c2) ∧ w'.cell? ⟨w.heap.size, 3, none⟩ = some (.slice o3 L.rs.length c3) ∧ w'.cell? ⟨w.heap.size + 1, 0, none⟩ = some (.int .i64 v.r) ∧ w'.cell? ⟨w.heap.size + 1, 1, none⟩ = some (.slice oa v.l.length ca))
      (first | exact HKEEP.out _ (by assumption) | exact HKEEP.out _ (h2.alloc h2.size _))
      (first
        | (go_simp; go_at_call 27; (with_reducible refine (HFEW.out _ (by assumption)).mono ?_); rintro e w2 ⟨rfl, hb2⟩
           have h2 : Below W.heap.size W w2 := h0.trans hb2
           clear h0 hb2)
        | (go_simp; go_at_call 9; (with_reducible refine (HSM.out _ (by assumption)).mono ?_); rintro e w3 ⟨rfl, hb3⟩
           have h3 : Below W.heap.size W w3 := h2.trans (hb3.mono h2.size)
           clear hb3)
        | (go_simp; go_at_call 28; (with_reducible refine (HUA.out _ h3).mono ?_); rintro e w4 ⟨rfl, hb4⟩
           have h4 : Below W.heap.size W w4 := h3.trans (hb4.mono h3.size)
           clear hb4)
        | (go_simp; go_at_call 29; (with_reducible refine (HUB.out _ h4).mono ?_); rintro e w5 ⟨rfl, hb5⟩
           have h5 : Below W.heap.size W w5 := h4.trans (hb5.mono h4.size)
           clear hb5)
        | (go_simp; go_at_call 10; (refine (alive_any _).mono ?_); rintro e w9 ⟨rfl, hb9⟩
           have h9 : Below W.heap.size W w9 := h5.trans (hb9.mono h5.size)
           clear hb9))
    all_goals
      go_wp2_with fail
      go_ret
      exact ⟨rfl, HBB.out.trans (h9.mono (by omega))⟩
  · rw [hu] at HUA HUB
    clear hu
    go_region_held_law (fun w' => w'.cell? ⟨w.heap.size, 0, none⟩ = some (.string L.nm) ∧ w'.cell? ⟨w.heap.size, 1, none⟩ = some (.slice o1 L.ins.length c1) ∧ w'.cell? ⟨w.heap.size, 2, none⟩ = some (.slice o2 L.sys.length c2) ∧ w'.cell? ⟨w.heap.size, 3, none⟩ = some (.slice o3 L.rs.length c3) ∧ w'.cell? ⟨w.heap.size + 1, 0, none⟩ = some (.int .i64 v.r) ∧ w'.cell? ⟨w.heap.size + 1, 1, none⟩ = some (.slice oa v.l.length ca))
      (first | exact HKEEP.out _ (by assumption) | exact HKEEP.out _ (h2.alloc h2.size _))
      (first
        | (go_simp; go_at_call 27; (with_reducible refine (HFEW.out _ (by assumption)).mono ?_); rintro e w2 ⟨rfl, hb2⟩
           have h2 : Below W.heap.size W w2 := h0.trans hb2
           clear h0 hb2)
        | (go_simp; go_at_call 9; (with_reducible refine (HSM.out _ (by assumption)).mono ?_); rintro e w3 ⟨rfl, hb3⟩
           have h3 : Below W.heap.size W w3 := h2.trans (hb3.mono h2.size)
           clear hb3)
        | (go_simp; go_at_call 28; (with_reducible refine (HUA.out _ h3).mono ?_); rintro e w4 ⟨rfl, hb4⟩
           have h4 : Below W.heap.size W w4 := h3.trans (hb4.mono h3.size)
           clear hb4)
        | (go_simp; go_at_call 29; (with_reducible refine (HUB.out _ h4).mono ?_); rintro e w5 ⟨rfl, hb5⟩
           have h5 : Below W.heap.size W w5 := h4.trans (hb5.mono h4.size)
           clear hb5)
        | (go_simp; go_at_call 10; (refine (alive_any _).mono ?_); rintro e w9 ⟨rfl, hb9⟩
           have h9 : Below W.heap.size W w9 := h5.trans (hb9.mono h5.size)
           clear hb9))
    all_goals
      go_wp2_with fail
      go_ret
      exact ⟨rfl, HBB.out.trans (h9.mono (by omega))⟩

end Go.Proofs.Ytdfhfljmcakilaa
