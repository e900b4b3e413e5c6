/-
  At of the reference. Nothing is assumed.
-/
import Derived.Test.YtdfhfljmcakilaaTmRClone
namespace Go.Proofs.Ytdfhfljmcakilaa
open Go.RowKit

theorem T.follow_cons (v : T) (i : Int) (p : List Int) : v.follow (i :: p) = if 0 ≤ i then (match v.l[i.toNat]? with | some x => x.follow p | none => none) else none := by rw [T.follow]; rfl

set_option maxRecDepth 100000 in
set_option maxHeartbeats 3200000 in
theorem rat_any (p : List Int) : ∀ (v : T) (sl y : Value) (w : World) (B : Nat), Rep w B sl v.l → B ≤ w.heap.size → HoldsI w B y p → v.size ≤ 900 →
    Calls Try.prog 21 #[.agg #[.int .i64 v.r, sl], y] w fun e w' => RetA w w' (v.follow p) e ∧ Below w.heap.size w w' := by
  induction p with
  | nil =>
    intro v sl y w B hrep hB hy hsz
    obtain ⟨oa, ca, rfl, _, _⟩ := hrep.form
    obtain ⟨oy, cy, rfl, _, _⟩ : ∃ oa cap, y = .slice oa 0 cap ∧ 0 ≤ cap ∧ cap ≤ 9223372036854775807 := by obtain ⟨a, b, c, d, e, _⟩ := hy; exact ⟨a, b, c, d, e⟩
    have HBB : Below w.heap.size w ((w.alloc (.cells #[.int .i64 v.r, .slice oa v.l.length ca] 24)).alloc (.cells #[.int .i64 0, .slice none 0 0] 24)) := below2 _ _ _
    have HBR : BoxF ((w.alloc (.cells #[.int .i64 v.r, .slice oa v.l.length ca] 24)).alloc (.cells #[.int .i64 0, .slice none 0 0] 24)) (w.heap.size + 1) 0 (.slice none 0 0) := BoxF.new _ _ _ _ (by simp)
    have hzz : ((w.alloc (.cells #[.int .i64 v.r, .slice oa v.l.length ca] 24)).alloc (.cells #[.int .i64 0, .slice none 0 0] 24)).heap.size = w.heap.size + 2 := by simp
    have HC := Lib.hid (rclone_any v _ _ B (hrep.later (HBB.mono hB)) (by omega) hsz)
    go_enter Try.func21, Try.ntmps21
    go_wp2_with fail
    generalize (w.alloc (.cells #[.int .i64 v.r, .slice oa v.l.length ca] 24)).alloc (.cells #[.int .i64 0, .slice none 0 0] 24) = W at *
    refine HC.out.mono ?_
    rintro e w3 ⟨⟨sl3, rfl, hf3⟩, hb3⟩
    obtain ⟨o3, cc3, rfl, _, _⟩ := hf3.form
    have HF3 := Lib.hid hf3
    have hs3 := hb3.size
    obtain ⟨r0, r1, rz⟩ := HBR.keep (hb3.block (w.heap.size + 1) (by omega))
    have f0 := rz 0
    have f1 := rz 1
    clear hf3 rz
    go_wp2_with fail
    refine bodyPost_ret (v := .tuple #[.agg #[.int .i64 v.r, .slice o3 v.l.length cc3], .int .i64 0]) (by simp [results, Try.results21, go_sem, *]) rfl ?_
    exact ⟨RetA.some (by rw [T.follow]) rfl ((HF3.out.keep (fun q hq => set2_other _ _ _ _ _ _ _ (by omega))).mono (fun q hq => ⟨by omega, by rw [set2_size]; omega⟩)), HBB.trans (((hb3.mono (by omega)).setCell (p := ⟨w.heap.size + 1, _, none⟩) (by simp) _).setCell (p := ⟨w.heap.size + 1, _, none⟩) (by simp) _)⟩
  | cons i p ih =>
    intro v sl y w B hrep hB hy hsz
    have HREP := Lib.hid hrep
    obtain ⟨oa, ca, rfl, _, _, hel⟩ := hrep.slice
    have HY := Lib.hid hy
    obtain ⟨oy, cy, rfl, hcy, hcm, hey⟩ := hy
    obtain ⟨by1, oy1, rfl, hby, hcy0⟩ := hey 0 i rfl
    have hfo := T.follow_cons v i p
    have HFO := Lib.hid hfo
    have HBB : Below w.heap.size w ((w.alloc (.cells #[.int .i64 v.r, .slice oa v.l.length ca] 24)).alloc (.cells #[.int .i64 0, .slice none 0 0] 24)) := below2 _ _ _
    have HBT : Box ((w.alloc (.cells #[.int .i64 v.r, .slice oa v.l.length ca] 24)).alloc (.cells #[.int .i64 0, .slice none 0 0] 24)) w.heap.size v (.slice oa v.l.length ca) := (Box.new v _ _ rfl).later (below1 _ _) (by simp)
    have HBR : BoxF ((w.alloc (.cells #[.int .i64 v.r, .slice oa v.l.length ca] 24)).alloc (.cells #[.int .i64 0, .slice none 0 0] 24)) (w.heap.size + 1) 0 (.slice none 0 0) := BoxF.new _ _ _ _ (by simp)
    have hzz : ((w.alloc (.cells #[.int .i64 v.r, .slice oa v.l.length ca] 24)).alloc (.cells #[.int .i64 0, .slice none 0 0] 24)).heap.size = w.heap.size + 2 := by simp
    have hln : ((i :: p).length : Int) = (p.length : Int) + 1 := by simp
    have hlb : (((i :: p).length : Int) == 0) = false := by rw [beq_eq_false_iff_ne]; simp; omega
    clear hfo hey
    rw [← HBB.cell (p := ⟨by1, _, none⟩) (by show by1 < w.heap.size; omega)] at hcy0
    rw [Nat.add_zero] at hcy0
    have HR := Lib.hid (HREP.out.later (HBB.mono hB))
    have HY2 := Lib.hid (HY.out.later (HBB.mono hB))
    by_cases hneg : i < 0
    · have HNO : Hid (v.follow (i :: p) = none) := Lib.hid (by rw [HFO.out, if_neg (by omega)])
      clear hel
      go_enter Try.func21, Try.ntmps21
      go_wp2_with fail
      generalize (w.alloc (.cells #[.int .i64 v.r, .slice oa v.l.length ca] 24)).alloc (.cells #[.int .i64 0, .slice none 0 0] 24) = W at *
      obtain ⟨t0, t1⟩ := HBT
      have hx0 : (0 : Int) < ((i :: p).length : Int) := by omega
      have hx1 : 0 < (i :: p).length := by simp
      go_quiet (fail)
      obtain ⟨r0, r1, rz⟩ := HBR
      have f0 := rz 0
      have f1 := rz 1
      clear rz
      go_wp2_with fail
      refine bodyPost_ret (v := .tuple #[.agg #[.int .i64 0, .slice none 0 0], .int .i64 7]) (by simp [results, Try.results21, go_sem, *]) rfl ?_
      exact ⟨RetA.none HNO.out rfl, HBB.trans ((((Below.refl _ _).trans (below_drewN _ _ _)).setCell (p := ⟨w.heap.size + 1, _, none⟩) (by simp) _).setCell (p := ⟨w.heap.size + 1, _, none⟩) (by simp) _)⟩
    by_cases hge : (v.l.length : Int) ≤ i
    · have HNO : Hid (v.follow (i :: p) = none) := Lib.hid (by rw [HFO.out, if_pos (by omega), List.getElem?_eq_none (by omega)])
      clear hel
      go_enter Try.func21, Try.ntmps21
      go_wp2_with fail
      generalize (w.alloc (.cells #[.int .i64 v.r, .slice oa v.l.length ca] 24)).alloc (.cells #[.int .i64 0, .slice none 0 0] 24) = W at *
      obtain ⟨t0, t1⟩ := HBT
      have hx0 : (0 : Int) < ((i :: p).length : Int) := by omega
      have hx1 : 0 < (i :: p).length := by simp
      go_quiet (fail)
      obtain ⟨r0, r1, rz⟩ := HBR
      have f0 := rz 0
      have f1 := rz 1
      clear rz
      go_wp2_with fail
      refine bodyPost_ret (v := .tuple #[.agg #[.int .i64 0, .slice none 0 0], .int .i64 7]) (by simp [results, Try.results21, go_sem, *]) rfl ?_
      exact ⟨RetA.none HNO.out rfl, HBB.trans ((((Below.refl _ _).trans (below_drewN _ _ _)).setCell (p := ⟨w.heap.size + 1, _, none⟩) (by simp) _).setCell (p := ⟨w.heap.size + 1, _, none⟩) (by simp) _)⟩
    obtain ⟨n, rfl⟩ : ∃ n : Nat, i = n := ⟨i.toNat, by omega⟩
    have hnl : n < v.l.length := by omega
    have HFS : Hid (v.follow ((n : Int) :: p) = v.l[n].follow p) := Lib.hid (by rw [HFO.out, if_pos (by omega)]; simp only [Int.toNat_natCast, List.getElem?_eq_getElem hnl])
    obtain ⟨b, off, oe, ce, rfl, hb, c0, c1, hr⟩ := hel n _ (List.getElem?_eq_getElem hnl)
    rw [← HBB.cell (p := ⟨b, _, none⟩) (by show b < w.heap.size; omega)] at c0 c1
    have hle := T.mem_sizes (List.getElem_mem hnl)
    have hle2 : v.l[n].size ≤ 900 := by have := v.size_eq; omega
    clear hel hle
    by_cases hc1 : cy = 1
    · subst hc1
      cases hq : v.l[n].follow p with
      | none =>
        have HQ := Lib.hid hq
        clear hq
        have HYP : HoldsI w B (.slice (some ⟨by1, oy1, none⟩) p.length 0) p := ⟨_, 0, rfl, by have h := hcy; rw [List.length_cons] at h; omega, by omega, fun j z hz => by have := (List.getElem?_eq_some_iff.1 hz).1; have h := hcy; rw [List.length_cons] at h; omega⟩
        go_enter Try.func21, Try.ntmps21
        go_wp2_with fail
        generalize (w.alloc (.cells #[.int .i64 v.r, .slice (some ⟨b, off, none⟩) v.l.length ca] 24)).alloc (.cells #[.int .i64 0, .slice none 0 0] 24) = W at *
        obtain ⟨t0, t1⟩ := HBT
        have hx0 : (0 : Int) < (((n : Int) :: p).length : Int) := by omega
        have hx1 : 0 < ((n : Int) :: p).length := by simp
        have q0 : (0 : Int) ≤ (n : Int) := by omega
        have q1 : (n : Int) < (v.l.length : Int) := by omega
        go_quiet (fail)
        go_wp2_with fail
        have h0 : Below W.heap.size W (W.drewN nq).drew := (below_drewN W _ nq).drew
        have HKEEP : Hid (∀ w', Below W.heap.size W w' → w'.cell? ⟨w.heap.size, 1, none⟩ = some (.slice (some ⟨b, off, none⟩) v.l.length ca) ∧ w'.cell? ⟨by1, oy1, none⟩ = some (.int .i64 n) ∧ w'.cell? ⟨b, off + n * 2, none⟩ = some (.int .i64 v.l[n].r) ∧ w'.cell? ⟨b, off + n * 2 + 1, none⟩ = some (.slice oe v.l[n].l.length ce)) :=
          Lib.hid (fun w' hb => ⟨(hb.cell (p := ⟨w.heap.size, 1, none⟩) (by show w.heap.size < W.heap.size; omega)).trans t1, (hb.cell (p := ⟨by1, oy1, none⟩) (by show by1 < W.heap.size; omega)).trans hcy0, (hb.cell (p := ⟨b, _, none⟩) (by show b < W.heap.size; omega)).trans c0, (hb.cell (p := ⟨b, _, none⟩) (by show b < W.heap.size; omega)).trans c1⟩)
        have HA : Hid (∀ W', Below W.heap.size W W' → Calls Try.prog 21 #[.agg #[.int .i64 v.l[n].r, .slice oe v.l[n].l.length ce], .slice (some ⟨by1, oy1, none⟩) p.length 0] W' fun e w2 => (e = .returned (.tuple #[.agg #[.int .i64 0, .slice none 0 0], .int .i64 7])) ∧ Below W'.heap.size W' w2) := Lib.hid (fun W' hb => by
          have h := ih v.l[n] (.slice oe v.l[n].l.length ce) (.slice (some ⟨by1, oy1, none⟩) p.length 0) W' B ((hr.later (HBB.mono hB)).later (hb.mono (by omega))) (by have := hb.size; omega) ((HYP.later (HBB.mono hB)).later (hb.mono (by omega))) hle2
          rw [HQ.out] at h
          exact h)
        clear HYP
        go_region_held_law (fun w' => w'.cell? ⟨w.heap.size, 1, none⟩ = some (.slice (some ⟨b, off, none⟩) v.l.length ca) ∧ w'.cell? ⟨by1, oy1, none⟩ = some (.int .i64 n) ∧ w'.cell? ⟨b, off + n * 2, none⟩ = some (.int .i64 v.l[n].r) ∧ w'.cell? ⟨b, off + n * 2 + 1, none⟩ = some (.slice oe v.l[n].l.length ce))
          (first | exact HKEEP.out _ (by assumption) | exact HK8.out _ _ _ _)
          (first
            | (go_simp; go_at_call 21; (with_reducible refine (HA.out _ (below_drewN _ _ _)).mono ?_); rintro e w3 ⟨rfl, hb3⟩
               have h3 : Below W.heap.size W w3 := (below_drewN W _ _).trans hb3
               obtain ⟨k1, k2, k3, k4⟩ := HKEEP.out _ h3
               have HK8 := Lib.hid (fun (a c : Nat) (X Y : Value) => (⟨(World.cell?_of_block (w := w3) (a := ⟨w.heap.size, 1, none⟩) (set2_other w3 (w.heap.size + 1) a c X Y w.heap.size (by omega))).trans k1, (World.cell?_of_block (w := w3) (a := ⟨by1, oy1, none⟩) (set2_other w3 (w.heap.size + 1) a c X Y by1 (by omega))).trans k2, (World.cell?_of_block (w := w3) (a := ⟨b, off + n * 2, none⟩) (set2_other w3 (w.heap.size + 1) a c X Y b (by omega))).trans k3, (World.cell?_of_block (w := w3) (a := ⟨b, off + n * 2 + 1, none⟩) (set2_other w3 (w.heap.size + 1) a c X Y b (by omega))).trans k4⟩ : (fun w' => w'.cell? ⟨w.heap.size, 1, none⟩ = some (.slice (some ⟨b, off, none⟩) v.l.length ca) ∧ w'.cell? ⟨by1, oy1, none⟩ = some (.int .i64 n) ∧ w'.cell? ⟨b, off + n * 2, none⟩ = some (.int .i64 v.l[n].r) ∧ w'.cell? ⟨b, off + n * 2 + 1, none⟩ = some (.slice oe v.l[n].l.length ce)) ((w3.setCell ⟨w.heap.size + 1, a, none⟩ X).setCell ⟨w.heap.size + 1, c, none⟩ Y)))
               obtain ⟨r0, r1, rz⟩ := HBR.keep (h3.block (w.heap.size + 1) (by omega))
               have f0 := rz 0
               have f1 := rz 1
               clear rz k1 k2 k3 k4 h0 hb3))
        go_wp2_with fail
        refine bodyPost_ret (v := .tuple #[.agg #[.int .i64 0, .slice none 0 0], .int .i64 7]) (by simp [results, Try.results21, go_sem, *]) rfl ?_
        have hs3 := h3.size
        exact ⟨RetA.none (HFS.out.trans HQ.out) rfl, HBB.trans (((h3.mono (by omega)).setCell (p := ⟨w.heap.size + 1, _, none⟩) (by simp) _).setCell (p := ⟨w.heap.size + 1, _, none⟩) (by simp) _)⟩
      | some u =>
        have HQ := Lib.hid hq
        clear hq
        have HYP : HoldsI w B (.slice (some ⟨by1, oy1, none⟩) p.length 0) p := ⟨_, 0, rfl, by have h := hcy; rw [List.length_cons] at h; omega, by omega, fun j z hz => by have := (List.getElem?_eq_some_iff.1 hz).1; have h := hcy; rw [List.length_cons] at h; omega⟩
        go_enter Try.func21, Try.ntmps21
        go_wp2_with fail
        generalize (w.alloc (.cells #[.int .i64 v.r, .slice (some ⟨b, off, none⟩) v.l.length ca] 24)).alloc (.cells #[.int .i64 0, .slice none 0 0] 24) = W at *
        obtain ⟨t0, t1⟩ := HBT
        have hx0 : (0 : Int) < (((n : Int) :: p).length : Int) := by omega
        have hx1 : 0 < ((n : Int) :: p).length := by simp
        have q0 : (0 : Int) ≤ (n : Int) := by omega
        have q1 : (n : Int) < (v.l.length : Int) := by omega
        go_quiet (fail)
        go_wp2_with fail
        have h0 : Below W.heap.size W (W.drewN nq).drew := (below_drewN W _ nq).drew
        have HKEEP : Hid (∀ w', Below W.heap.size W w' → w'.cell? ⟨w.heap.size, 1, none⟩ = some (.slice (some ⟨b, off, none⟩) v.l.length ca) ∧ w'.cell? ⟨by1, oy1, none⟩ = some (.int .i64 n) ∧ w'.cell? ⟨b, off + n * 2, none⟩ = some (.int .i64 v.l[n].r) ∧ w'.cell? ⟨b, off + n * 2 + 1, none⟩ = some (.slice oe v.l[n].l.length ce)) :=
          Lib.hid (fun w' hb => ⟨(hb.cell (p := ⟨w.heap.size, 1, none⟩) (by show w.heap.size < W.heap.size; omega)).trans t1, (hb.cell (p := ⟨by1, oy1, none⟩) (by show by1 < W.heap.size; omega)).trans hcy0, (hb.cell (p := ⟨b, _, none⟩) (by show b < W.heap.size; omega)).trans c0, (hb.cell (p := ⟨b, _, none⟩) (by show b < W.heap.size; omega)).trans c1⟩)
        have HA : Hid (∀ W', Below W.heap.size W W' → Calls Try.prog 21 #[.agg #[.int .i64 v.l[n].r, .slice oe v.l[n].l.length ce], .slice (some ⟨by1, oy1, none⟩) p.length 0] W' fun e w2 => (∃ sl, e = .returned (.tuple #[.agg #[.int .i64 u.r, sl], .int .i64 0]) ∧ FR w2 (fun k => W'.heap.size ≤ k ∧ k < w2.heap.size) sl u.l) ∧ Below W'.heap.size W' w2) := Lib.hid (fun W' hb => by
          have h := ih v.l[n] (.slice oe v.l[n].l.length ce) (.slice (some ⟨by1, oy1, none⟩) p.length 0) W' B ((hr.later (HBB.mono hB)).later (hb.mono (by omega))) (by have := hb.size; omega) ((HYP.later (HBB.mono hB)).later (hb.mono (by omega))) hle2
          rw [HQ.out] at h
          exact h)
        clear HYP
        go_region_held_law (fun w' => w'.cell? ⟨w.heap.size, 1, none⟩ = some (.slice (some ⟨b, off, none⟩) v.l.length ca) ∧ w'.cell? ⟨by1, oy1, none⟩ = some (.int .i64 n) ∧ w'.cell? ⟨b, off + n * 2, none⟩ = some (.int .i64 v.l[n].r) ∧ w'.cell? ⟨b, off + n * 2 + 1, none⟩ = some (.slice oe v.l[n].l.length ce))
          (first | exact HKEEP.out _ (by assumption) | exact HK8.out _ _ _ _)
          (first
            | (go_simp; go_at_call 21; (with_reducible refine (HA.out _ (below_drewN _ _ _)).mono ?_); rintro e w3 ⟨⟨sl3, rfl, hf3⟩, hb3⟩
               obtain ⟨o3, cc3, rfl, _, _⟩ := hf3.form
               have HF3 : Hid (FR w3 (fun k => W.heap.size ≤ k ∧ k < w3.heap.size) (.slice o3 u.l.length cc3) u.l) := Lib.hid hf3
               have h3 : Below W.heap.size W w3 := (below_drewN W _ _).trans hb3
               obtain ⟨k1, k2, k3, k4⟩ := HKEEP.out _ h3
               have HK8 := Lib.hid (fun (a c : Nat) (X Y : Value) => (⟨(World.cell?_of_block (w := w3) (a := ⟨w.heap.size, 1, none⟩) (set2_other w3 (w.heap.size + 1) a c X Y w.heap.size (by omega))).trans k1, (World.cell?_of_block (w := w3) (a := ⟨by1, oy1, none⟩) (set2_other w3 (w.heap.size + 1) a c X Y by1 (by omega))).trans k2, (World.cell?_of_block (w := w3) (a := ⟨b, off + n * 2, none⟩) (set2_other w3 (w.heap.size + 1) a c X Y b (by omega))).trans k3, (World.cell?_of_block (w := w3) (a := ⟨b, off + n * 2 + 1, none⟩) (set2_other w3 (w.heap.size + 1) a c X Y b (by omega))).trans k4⟩ : (fun w' => w'.cell? ⟨w.heap.size, 1, none⟩ = some (.slice (some ⟨b, off, none⟩) v.l.length ca) ∧ w'.cell? ⟨by1, oy1, none⟩ = some (.int .i64 n) ∧ w'.cell? ⟨b, off + n * 2, none⟩ = some (.int .i64 v.l[n].r) ∧ w'.cell? ⟨b, off + n * 2 + 1, none⟩ = some (.slice oe v.l[n].l.length ce)) ((w3.setCell ⟨w.heap.size + 1, a, none⟩ X).setCell ⟨w.heap.size + 1, c, none⟩ Y)))
               obtain ⟨r0, r1, rz⟩ := HBR.keep (h3.block (w.heap.size + 1) (by omega))
               have f0 := rz 0
               have f1 := rz 1
               clear rz k1 k2 k3 k4 h0 hb3 hf3))
        go_wp2_with fail
        refine bodyPost_ret (v := .tuple #[.agg #[.int .i64 u.r, .slice o3 u.l.length cc3], .int .i64 0]) (by simp [results, Try.results21, go_sem, *]) rfl ?_
        have hs3 := h3.size
        exact ⟨RetA.some (HFS.out.trans HQ.out) rfl ((HF3.out.keep (fun q hq => set2_other _ _ _ _ _ _ _ (by omega))).mono (fun q hq => ⟨by omega, by rw [set2_size]; omega⟩)), HBB.trans (((h3.mono (by omega)).setCell (p := ⟨w.heap.size + 1, _, none⟩) (by simp) _).setCell (p := ⟨w.heap.size + 1, _, none⟩) (by simp) _)⟩
    · have hc2 : 1 < cy := by simp at hcy; omega
      cases hq : v.l[n].follow p with
      | none =>
        have HQ := Lib.hid hq
        clear hq
        have HYP : HoldsI w B (.slice (some ⟨by1, oy1 + 1, none⟩) p.length (cy - 1)) p := by have h := HY.out.drop (k := 1) (by simp); simpa [Addr.add] using h
        go_enter Try.func21, Try.ntmps21
        go_wp2_with fail
        generalize (w.alloc (.cells #[.int .i64 v.r, .slice (some ⟨b, off, none⟩) v.l.length ca] 24)).alloc (.cells #[.int .i64 0, .slice none 0 0] 24) = W at *
        obtain ⟨t0, t1⟩ := HBT
        have hx0 : (0 : Int) < (((n : Int) :: p).length : Int) := by omega
        have hx1 : 0 < ((n : Int) :: p).length := by simp
        have q0 : (0 : Int) ≤ (n : Int) := by omega
        have q1 : (n : Int) < (v.l.length : Int) := by omega
        go_quiet (fail)
        go_wp2_with fail
        have h0 : Below W.heap.size W (W.drewN nq).drew := (below_drewN W _ nq).drew
        have HKEEP : Hid (∀ w', Below W.heap.size W w' → w'.cell? ⟨w.heap.size, 1, none⟩ = some (.slice (some ⟨b, off, none⟩) v.l.length ca) ∧ w'.cell? ⟨by1, oy1, none⟩ = some (.int .i64 n) ∧ w'.cell? ⟨b, off + n * 2, none⟩ = some (.int .i64 v.l[n].r) ∧ w'.cell? ⟨b, off + n * 2 + 1, none⟩ = some (.slice oe v.l[n].l.length ce)) :=
          Lib.hid (fun w' hb => ⟨(hb.cell (p := ⟨w.heap.size, 1, none⟩) (by show w.heap.size < W.heap.size; omega)).trans t1, (hb.cell (p := ⟨by1, oy1, none⟩) (by show by1 < W.heap.size; omega)).trans hcy0, (hb.cell (p := ⟨b, _, none⟩) (by show b < W.heap.size; omega)).trans c0, (hb.cell (p := ⟨b, _, none⟩) (by show b < W.heap.size; omega)).trans c1⟩)
        have HA : Hid (∀ W', Below W.heap.size W W' → Calls Try.prog 21 #[.agg #[.int .i64 v.l[n].r, .slice oe v.l[n].l.length ce], .slice (some ⟨by1, oy1 + 1, none⟩) p.length (cy - 1)] W' fun e w2 => (e = .returned (.tuple #[.agg #[.int .i64 0, .slice none 0 0], .int .i64 7])) ∧ Below W'.heap.size W' w2) := Lib.hid (fun W' hb => by
          have h := ih v.l[n] (.slice oe v.l[n].l.length ce) (.slice (some ⟨by1, oy1 + 1, none⟩) p.length (cy - 1)) W' B ((hr.later (HBB.mono hB)).later (hb.mono (by omega))) (by have := hb.size; omega) ((HYP.later (HBB.mono hB)).later (hb.mono (by omega))) hle2
          rw [HQ.out] at h
          exact h)
        clear HYP
        go_region_held_law (fun w' => w'.cell? ⟨w.heap.size, 1, none⟩ = some (.slice (some ⟨b, off, none⟩) v.l.length ca) ∧ w'.cell? ⟨by1, oy1, none⟩ = some (.int .i64 n) ∧ w'.cell? ⟨b, off + n * 2, none⟩ = some (.int .i64 v.l[n].r) ∧ w'.cell? ⟨b, off + n * 2 + 1, none⟩ = some (.slice oe v.l[n].l.length ce))
          (first | exact HKEEP.out _ (by assumption) | exact HK8.out _ _ _ _)
          (first
            | (go_simp; go_at_call 21; (with_reducible refine (HA.out _ (below_drewN _ _ _)).mono ?_); rintro e w3 ⟨rfl, hb3⟩
               have h3 : Below W.heap.size W w3 := (below_drewN W _ _).trans hb3
               obtain ⟨k1, k2, k3, k4⟩ := HKEEP.out _ h3
               have HK8 := Lib.hid (fun (a c : Nat) (X Y : Value) => (⟨(World.cell?_of_block (w := w3) (a := ⟨w.heap.size, 1, none⟩) (set2_other w3 (w.heap.size + 1) a c X Y w.heap.size (by omega))).trans k1, (World.cell?_of_block (w := w3) (a := ⟨by1, oy1, none⟩) (set2_other w3 (w.heap.size + 1) a c X Y by1 (by omega))).trans k2, (World.cell?_of_block (w := w3) (a := ⟨b, off + n * 2, none⟩) (set2_other w3 (w.heap.size + 1) a c X Y b (by omega))).trans k3, (World.cell?_of_block (w := w3) (a := ⟨b, off + n * 2 + 1, none⟩) (set2_other w3 (w.heap.size + 1) a c X Y b (by omega))).trans k4⟩ : (fun w' => w'.cell? ⟨w.heap.size, 1, none⟩ = some (.slice (some ⟨b, off, none⟩) v.l.length ca) ∧ w'.cell? ⟨by1, oy1, none⟩ = some (.int .i64 n) ∧ w'.cell? ⟨b, off + n * 2, none⟩ = some (.int .i64 v.l[n].r) ∧ w'.cell? ⟨b, off + n * 2 + 1, none⟩ = some (.slice oe v.l[n].l.length ce)) ((w3.setCell ⟨w.heap.size + 1, a, none⟩ X).setCell ⟨w.heap.size + 1, c, none⟩ Y)))
               obtain ⟨r0, r1, rz⟩ := HBR.keep (h3.block (w.heap.size + 1) (by omega))
               have f0 := rz 0
               have f1 := rz 1
               clear rz k1 k2 k3 k4 h0 hb3))
        go_wp2_with fail
        refine bodyPost_ret (v := .tuple #[.agg #[.int .i64 0, .slice none 0 0], .int .i64 7]) (by simp [results, Try.results21, go_sem, *]) rfl ?_
        have hs3 := h3.size
        exact ⟨RetA.none (HFS.out.trans HQ.out) rfl, HBB.trans (((h3.mono (by omega)).setCell (p := ⟨w.heap.size + 1, _, none⟩) (by simp) _).setCell (p := ⟨w.heap.size + 1, _, none⟩) (by simp) _)⟩
      | some u =>
        have HQ := Lib.hid hq
        clear hq
        have HYP : HoldsI w B (.slice (some ⟨by1, oy1 + 1, none⟩) p.length (cy - 1)) p := by have h := HY.out.drop (k := 1) (by simp); simpa [Addr.add] using h
        go_enter Try.func21, Try.ntmps21
        go_wp2_with fail
        generalize (w.alloc (.cells #[.int .i64 v.r, .slice (some ⟨b, off, none⟩) v.l.length ca] 24)).alloc (.cells #[.int .i64 0, .slice none 0 0] 24) = W at *
        obtain ⟨t0, t1⟩ := HBT
        have hx0 : (0 : Int) < (((n : Int) :: p).length : Int) := by omega
        have hx1 : 0 < ((n : Int) :: p).length := by simp
        have q0 : (0 : Int) ≤ (n : Int) := by omega
        have q1 : (n : Int) < (v.l.length : Int) := by omega
        go_quiet (fail)
        go_wp2_with fail
        have h0 : Below W.heap.size W (W.drewN nq).drew := (below_drewN W _ nq).drew
        have HKEEP : Hid (∀ w', Below W.heap.size W w' → w'.cell? ⟨w.heap.size, 1, none⟩ = some (.slice (some ⟨b, off, none⟩) v.l.length ca) ∧ w'.cell? ⟨by1, oy1, none⟩ = some (.int .i64 n) ∧ w'.cell? ⟨b, off + n * 2, none⟩ = some (.int .i64 v.l[n].r) ∧ w'.cell? ⟨b, off + n * 2 + 1, none⟩ = some (.slice oe v.l[n].l.length ce)) :=
          Lib.hid (fun w' hb => ⟨(hb.cell (p := ⟨w.heap.size, 1, none⟩) (by show w.heap.size < W.heap.size; omega)).trans t1, (hb.cell (p := ⟨by1, oy1, none⟩) (by show by1 < W.heap.size; omega)).trans hcy0, (hb.cell (p := ⟨b, _, none⟩) (by show b < W.heap.size; omega)).trans c0, (hb.cell (p := ⟨b, _, none⟩) (by show b < W.heap.size; omega)).trans c1⟩)
        have HA : Hid (∀ W', Below W.heap.size W W' → Calls Try.prog 21 #[.agg #[.int .i64 v.l[n].r, .slice oe v.l[n].l.length ce], .slice (some ⟨by1, oy1 + 1, none⟩) p.length (cy - 1)] W' fun e w2 => (∃ sl, e = .returned (.tuple #[.agg #[.int .i64 u.r, sl], .int .i64 0]) ∧ FR w2 (fun k => W'.heap.size ≤ k ∧ k < w2.heap.size) sl u.l) ∧ Below W'.heap.size W' w2) := Lib.hid (fun W' hb => by
          have h := ih v.l[n] (.slice oe v.l[n].l.length ce) (.slice (some ⟨by1, oy1 + 1, none⟩) p.length (cy - 1)) W' B ((hr.later (HBB.mono hB)).later (hb.mono (by omega))) (by have := hb.size; omega) ((HYP.later (HBB.mono hB)).later (hb.mono (by omega))) hle2
          rw [HQ.out] at h
          exact h)
        clear HYP
        go_region_held_law (fun w' => w'.cell? ⟨w.heap.size, 1, none⟩ = some (.slice (some ⟨b, off, none⟩) v.l.length ca) ∧ w'.cell? ⟨by1, oy1, none⟩ = some (.int .i64 n) ∧ w'.cell? ⟨b, off + n * 2, none⟩ = some (.int .i64 v.l[n].r) ∧ w'.cell? ⟨b, off + n * 2 + 1, none⟩ = some (.slice oe v.l[n].l.length ce))
          (first | exact HKEEP.out _ (by assumption) | exact HK8.out _ _ _ _)
          (first
            | (go_simp; go_at_call 21; (with_reducible refine (HA.out _ (below_drewN _ _ _)).mono ?_); rintro e w3 ⟨⟨sl3, rfl, hf3⟩, hb3⟩
               obtain ⟨o3, cc3, rfl, _, _⟩ := hf3.form
               have HF3 : Hid (FR w3 (fun k => W.heap.size ≤ k ∧ k < w3.heap.size) (.slice o3 u.l.length cc3) u.l) := Lib.hid hf3
               have h3 : Below W.heap.size W w3 := (below_drewN W _ _).trans hb3
               obtain ⟨k1, k2, k3, k4⟩ := HKEEP.out _ h3
               have HK8 := Lib.hid (fun (a c : Nat) (X Y : Value) => (⟨(World.cell?_of_block (w := w3) (a := ⟨w.heap.size, 1, none⟩) (set2_other w3 (w.heap.size + 1) a c X Y w.heap.size (by omega))).trans k1, (World.cell?_of_block (w := w3) (a := ⟨by1, oy1, none⟩) (set2_other w3 (w.heap.size + 1) a c X Y by1 (by omega))).trans k2, (World.cell?_of_block (w := w3) (a := ⟨b, off + n * 2, none⟩) (set2_other w3 (w.heap.size + 1) a c X Y b (by omega))).trans k3, (World.cell?_of_block (w := w3) (a := ⟨b, off + n * 2 + 1, none⟩) (set2_other w3 (w.heap.size + 1) a c X Y b (by omega))).trans k4⟩ : (fun w' => w'.cell? ⟨w.heap.size, 1, none⟩ = some (.slice (some ⟨b, off, none⟩) v.l.length ca) ∧ w'.cell? ⟨by1, oy1, none⟩ = some (.int .i64 n) ∧ w'.cell? ⟨b, off + n * 2, none⟩ = some (.int .i64 v.l[n].r) ∧ w'.cell? ⟨b, off + n * 2 + 1, none⟩ = some (.slice oe v.l[n].l.length ce)) ((w3.setCell ⟨w.heap.size + 1, a, none⟩ X).setCell ⟨w.heap.size + 1, c, none⟩ Y)))
               obtain ⟨r0, r1, rz⟩ := HBR.keep (h3.block (w.heap.size + 1) (by omega))
               have f0 := rz 0
               have f1 := rz 1
               clear rz k1 k2 k3 k4 h0 hb3 hf3))
        go_wp2_with fail
        refine bodyPost_ret (v := .tuple #[.agg #[.int .i64 u.r, .slice o3 u.l.length cc3], .int .i64 0]) (by simp [results, Try.results21, go_sem, *]) rfl ?_
        have hs3 := h3.size
        exact ⟨RetA.some (HFS.out.trans HQ.out) rfl ((HF3.out.keep (fun q hq => set2_other _ _ _ _ _ _ _ (by omega))).mono (fun q hq => ⟨by omega, by rw [set2_size]; omega⟩)), HBB.trans (((h3.mono (by omega)).setCell (p := ⟨w.heap.size + 1, _, none⟩) (by simp) _).setCell (p := ⟨w.heap.size + 1, _, none⟩) (by simp) _)⟩

end Go.Proofs.Ytdfhfljmcakilaa
