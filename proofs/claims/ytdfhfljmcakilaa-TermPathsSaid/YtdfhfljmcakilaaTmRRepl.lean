/-
  Replace of the reference. Nothing is assumed.
-/
import Derived.Test.YtdfhfljmcakilaaTmRAt
import Derived.BigRegion
namespace Go.Proofs.Ytdfhfljmcakilaa
open Go.RowKit

theorem FR.opened {w : World} {P : Nat → Prop} {x : Value} {l : List T} (h : FR w P x l) (hl : 0 < l.length) : ∃ (b off cap : Nat), x = .slice (some ⟨b, off, none⟩) l.length cap ∧ l.length ≤ cap ∧ P b ∧ (∀ o : Nat, w.frozen? ⟨b, o, none⟩ = false) ∧
    ∀ i v, l[i]? = some v → ∃ s, w.cell? ⟨b, off + i * 2, none⟩ = some (.int .i64 v.r) ∧ w.cell? ⟨b, off + i * 2 + 1, none⟩ = some s := by
  cases h with
  | empty _ oa cap => simp at hl
  | arr _ b off cap l sl Q h1 h2 h3 h4 h5 h6 h7 h8 => exact ⟨b, off, cap, rfl, h2, h1, h5, fun i v hv => ⟨sl i, h4 i v hv⟩⟩
theorem repl_one (x v u : T) (n : Nat) (p : List Int) (h : v.l[n]? = some u) : T.repl x v ((n : Int) :: p) = T.repl (T.repl x u p) v [(n : Int)] := by
  rw [T.repl, T.repl]
  simp only [Int.toNat_natCast, h]
  rw [T.repl]
theorem repl_r (x v : T) (i : Int) (p : List Int) : (T.repl x v (i :: p)).r = v.r := by
  rw [T.repl]
  split <;> rfl

set_option maxRecDepth 100000 in
set_option maxHeartbeats 6400000 in
theorem rrepl_any (x : T) (hsx : x.size ≤ 900) (p : List Int) : ∀ (v : T) (sl slx y : Value) (w : World) (B : Nat), Rep w B sl v.l → Rep w B slx x.l → B ≤ w.heap.size → HoldsI w B y p → v.size ≤ 900 →
    Calls Try.prog 23 #[.agg #[.int .i64 v.r, sl], y, .agg #[.int .i64 x.r, slx]] w fun e w' => RetA w w' (replO x v p) e ∧ Below w.heap.size w w' := by
  induction p with
  | nil =>
    intro v sl slx y w B hrep hrx hB hy hsz
    obtain ⟨oa, ca, rfl, _, _⟩ := hrep.form
    obtain ⟨ox, cx, rfl, _, _⟩ := hrx.form
    obtain ⟨oy, cy, rfl, _, _⟩ : ∃ oa cap, y = .slice oa 0 cap ∧ 0 ≤ cap ∧ cap ≤ 9223372036854775807 := by obtain ⟨a, b, c, d, e, _⟩ := hy; exact ⟨a, b, c, d, e⟩
    have HBB : Below w.heap.size w (((w.alloc (.cells #[.int .i64 v.r, .slice oa v.l.length ca] 24)).alloc (.cells #[.int .i64 x.r, .slice ox x.l.length cx] 24)).alloc (.cells #[.int .i64 0, .slice none 0 0] 24)) := below3 _ _ _ _
    have HBX : Box (((w.alloc (.cells #[.int .i64 v.r, .slice oa v.l.length ca] 24)).alloc (.cells #[.int .i64 x.r, .slice ox x.l.length cx] 24)).alloc (.cells #[.int .i64 0, .slice none 0 0] 24)) (w.heap.size + 1) x (.slice ox x.l.length cx) := (Box.new x _ _ (by simp)).later (below1 _ _) (by simp)
    have HBR : BoxF (((w.alloc (.cells #[.int .i64 v.r, .slice oa v.l.length ca] 24)).alloc (.cells #[.int .i64 x.r, .slice ox x.l.length cx] 24)).alloc (.cells #[.int .i64 0, .slice none 0 0] 24)) (w.heap.size + 2) 0 (.slice none 0 0) := BoxF.new _ _ _ _ (by simp)
    have hzz : (((w.alloc (.cells #[.int .i64 v.r, .slice oa v.l.length ca] 24)).alloc (.cells #[.int .i64 x.r, .slice ox x.l.length cx] 24)).alloc (.cells #[.int .i64 0, .slice none 0 0] 24)).heap.size = w.heap.size + 3 := by simp
    have HC := Lib.hid (rclone_any x _ _ B (hrx.later (HBB.mono hB)) (by omega) hsx)
    go_enter Try.func23, Try.ntmps23
    go_wp2_with fail
    generalize ((w.alloc (.cells #[.int .i64 v.r, .slice oa v.l.length ca] 24)).alloc (.cells #[.int .i64 x.r, .slice ox x.l.length cx] 24)).alloc (.cells #[.int .i64 0, .slice none 0 0] 24) = W at *
    refine HC.out.mono ?_
    rintro e w3 ⟨⟨sl3, rfl, hf3⟩, hb3⟩
    obtain ⟨o3, cc3, rfl, _, _⟩ := hf3.form
    have HF3 := Lib.hid hf3
    have hs3 := hb3.size
    obtain ⟨r0, r1, rz⟩ := HBR.keep (hb3.block (w.heap.size + 2) (by omega))
    have f0 := rz 0
    have f1 := rz 1
    clear hf3 rz
    go_wp2_with fail
    refine bodyPost_ret (v := .tuple #[.agg #[.int .i64 x.r, .slice o3 x.l.length cc3], .int .i64 0]) (by simp [results, Try.results23, go_sem, *]) rfl ?_
    exact ⟨RetA.some (by unfold replO; rw [T.follow, T.repl]; rfl) rfl ((HF3.out.keep (fun q hq => set2_other _ _ _ _ _ _ _ (by omega))).mono (fun q hq => ⟨by omega, by rw [set2_size]; omega⟩)), HBB.trans (((hb3.mono (by omega)).setCell (p := ⟨w.heap.size + 2, _, none⟩) (by simp) _).setCell (p := ⟨w.heap.size + 2, _, none⟩) (by simp) _)⟩
  | cons i p ih =>
    intro v sl slx y w B hrep hrx hB hy hsz
    have HREP := Lib.hid hrep
    obtain ⟨oa, ca, rfl, _, _, hel⟩ := hrep.slice
    have HRX0 := Lib.hid hrx
    obtain ⟨ox, cx, rfl, _, _⟩ := hrx.form
    have HY := Lib.hid hy
    obtain ⟨oy, cy, rfl, hcy, hcm, hey⟩ := hy
    obtain ⟨by1, oy1, rfl, hby, hcy0⟩ := hey 0 i rfl
    have HFO := Lib.hid (T.follow_cons v i p)
    have HBB : Below w.heap.size w (((w.alloc (.cells #[.int .i64 v.r, .slice oa v.l.length ca] 24)).alloc (.cells #[.int .i64 x.r, .slice ox x.l.length cx] 24)).alloc (.cells #[.int .i64 0, .slice none 0 0] 24)) := below3 _ _ _ _
    have HBT : Box (((w.alloc (.cells #[.int .i64 v.r, .slice oa v.l.length ca] 24)).alloc (.cells #[.int .i64 x.r, .slice ox x.l.length cx] 24)).alloc (.cells #[.int .i64 0, .slice none 0 0] 24)) w.heap.size v (.slice oa v.l.length ca) := ((Box.new v _ _ rfl).later (below1 _ _) (by simp)).later (below1 _ _) (by simp; omega)
    have HBX : Box (((w.alloc (.cells #[.int .i64 v.r, .slice oa v.l.length ca] 24)).alloc (.cells #[.int .i64 x.r, .slice ox x.l.length cx] 24)).alloc (.cells #[.int .i64 0, .slice none 0 0] 24)) (w.heap.size + 1) x (.slice ox x.l.length cx) := (Box.new x _ _ (by simp)).later (below1 _ _) (by simp)
    have HBR : BoxF (((w.alloc (.cells #[.int .i64 v.r, .slice oa v.l.length ca] 24)).alloc (.cells #[.int .i64 x.r, .slice ox x.l.length cx] 24)).alloc (.cells #[.int .i64 0, .slice none 0 0] 24)) (w.heap.size + 2) 0 (.slice none 0 0) := BoxF.new _ _ _ _ (by simp)
    have hzz : (((w.alloc (.cells #[.int .i64 v.r, .slice oa v.l.length ca] 24)).alloc (.cells #[.int .i64 x.r, .slice ox x.l.length cx] 24)).alloc (.cells #[.int .i64 0, .slice none 0 0] 24)).heap.size = w.heap.size + 3 := by simp
    have hln : ((i :: p).length : Int) = (p.length : Int) + 1 := by simp
    have hlb : (((i :: p).length : Int) == 0) = false := by rw [beq_eq_false_iff_ne]; simp; omega
    clear hey
    rw [← HBB.cell (p := ⟨by1, _, none⟩) (by show by1 < w.heap.size; omega), Nat.add_zero] at hcy0
    have HR := Lib.hid (HREP.out.later (HBB.mono hB))
    have HRX := Lib.hid (HRX0.out.later (HBB.mono hB))
    by_cases hneg : i < 0 ∨ (v.l.length : Int) ≤ i
    · have HNO : Hid (replO x v (i :: p) = none) := Lib.hid (replO_none (by
        rw [HFO.out]
        split
        · rw [List.getElem?_eq_none (by omega)]
        · rfl))
      clear hel
      rcases hneg with hneg | hneg
      · go_enter Try.func23, Try.ntmps23
        go_wp2_with fail
        generalize ((w.alloc (.cells #[.int .i64 v.r, .slice oa v.l.length ca] 24)).alloc (.cells #[.int .i64 x.r, .slice ox x.l.length cx] 24)).alloc (.cells #[.int .i64 0, .slice none 0 0] 24) = W at *
        obtain ⟨t0, t1⟩ := HBT
        have hx0 : (0 : Int) < ((i :: p).length : Int) := by omega
        have hx1 : 0 < (i :: p).length := by simp
        go_quiet (fail)
        obtain ⟨r0, r1, rz⟩ := HBR
        have f0 := rz 0
        have f1 := rz 1
        clear rz
        go_wp2_with fail
        refine bodyPost_ret (v := .tuple #[.agg #[.int .i64 0, .slice none 0 0], .int .i64 7]) (by simp [results, Try.results23, go_sem, *]) rfl ?_
        exact ⟨RetA.none HNO.out rfl, HBB.trans ((((Below.refl _ _).trans (below_drewN _ _ _)).setCell (p := ⟨w.heap.size + 2, _, none⟩) (by simp) _).setCell (p := ⟨w.heap.size + 2, _, none⟩) (by simp) _)⟩
      · have hnn : ¬ i < 0 := by omega
        go_enter Try.func23, Try.ntmps23
        go_wp2_with fail
        generalize ((w.alloc (.cells #[.int .i64 v.r, .slice oa v.l.length ca] 24)).alloc (.cells #[.int .i64 x.r, .slice ox x.l.length cx] 24)).alloc (.cells #[.int .i64 0, .slice none 0 0] 24) = W at *
        obtain ⟨t0, t1⟩ := HBT
        have hx0 : (0 : Int) < ((i :: p).length : Int) := by omega
        have hx1 : 0 < (i :: p).length := by simp
        go_quiet (fail)
        obtain ⟨r0, r1, rz⟩ := HBR
        have f0 := rz 0
        have f1 := rz 1
        clear rz
        go_wp2_with fail
        refine bodyPost_ret (v := .tuple #[.agg #[.int .i64 0, .slice none 0 0], .int .i64 7]) (by simp [results, Try.results23, go_sem, *]) rfl ?_
        exact ⟨RetA.none HNO.out rfl, HBB.trans ((((Below.refl _ _).trans (below_drewN _ _ _)).setCell (p := ⟨w.heap.size + 2, _, none⟩) (by simp) _).setCell (p := ⟨w.heap.size + 2, _, none⟩) (by simp) _)⟩
    obtain ⟨n, rfl⟩ : ∃ n : Nat, i = n := ⟨i.toNat, by omega⟩
    have hnl : n < v.l.length := by omega
    have HFS : Hid (v.follow ((n : Int) :: p) = v.l[n].follow p) := Lib.hid (by rw [HFO.out, if_pos (by omega)]; simp only [Int.toNat_natCast, List.getElem?_eq_getElem hnl])
    obtain ⟨b, off, oe, ce, rfl, hb, c0, c1, hr⟩ := hel n _ (List.getElem?_eq_getElem hnl)
    rw [← HBB.cell (p := ⟨b, _, none⟩) (by show b < w.heap.size; omega)] at c0 c1
    have hle := T.mem_sizes (List.getElem_mem hnl)
    have hle2 : v.l[n].size ≤ 900 := by have := v.size_eq; omega
    have HRP := Lib.hid (repl_one x v v.l[n] n p (List.getElem?_eq_getElem hnl))
    have hneg1 : ¬ (n : Int) < 0 := by omega
    have hge1 : ¬ (v.l.length : Int) ≤ (n : Int) := by omega
    clear hel hle hneg
    by_cases hc1 : cy = 1
    · subst hc1
      cases hq : v.l[n].follow p with
      | none =>
        have HQ := Lib.hid hq
        have HQO := Lib.hid (replO_none (x := x) hq)
        clear hq
        have HYP : HoldsI w B (.slice (some ⟨by1, oy1, none⟩) p.length 0) p := ⟨_, 0, rfl, by have h := hcy; rw [List.length_cons] at h; omega, by omega, fun j z hz => by have := (List.getElem?_eq_some_iff.1 hz).1; have h := hcy; rw [List.length_cons] at h; omega⟩
        go_enter Try.func23, Try.ntmps23
        go_wp2_with fail
        generalize ((w.alloc (.cells #[.int .i64 v.r, .slice (some ⟨b, off, none⟩) v.l.length ca] 24)).alloc (.cells #[.int .i64 x.r, .slice ox x.l.length cx] 24)).alloc (.cells #[.int .i64 0, .slice none 0 0] 24) = W at *
        obtain ⟨t0, t1⟩ := HBT
        have hx0 : (0 : Int) < (((n : Int) :: p).length : Int) := by omega
        have hx1 : 0 < ((n : Int) :: p).length := by simp
        have q0 : (0 : Int) ≤ (n : Int) := by omega
        have q1 : (n : Int) < (v.l.length : Int) := by omega
        go_quiet (fail)
        go_wp2_with fail
        have h0 : Below W.heap.size W (W.drewN nq).drew := (below_drewN W _ nq).drew
        have HKEEP : Hid (∀ w', Below W.heap.size W w' → w'.cell? ⟨w.heap.size, 1, none⟩ = some (.slice (some ⟨b, off, none⟩) v.l.length ca) ∧ w'.cell? ⟨by1, oy1, none⟩ = some (.int .i64 n) ∧ w'.cell? ⟨b, off + n * 2, none⟩ = some (.int .i64 v.l[n].r) ∧ w'.cell? ⟨b, off + n * 2 + 1, none⟩ = some (.slice oe v.l[n].l.length ce) ∧ w'.cell? ⟨w.heap.size + 1, 0, none⟩ = some (.int .i64 x.r) ∧ w'.cell? ⟨w.heap.size + 1, 1, none⟩ = some (.slice ox x.l.length cx)) :=
          Lib.hid (fun w' hb => ⟨(hb.cell (p := ⟨w.heap.size, 1, none⟩) (by show w.heap.size < W.heap.size; omega)).trans t1, (hb.cell (p := ⟨by1, oy1, none⟩) (by show by1 < W.heap.size; omega)).trans hcy0, (hb.cell (p := ⟨b, _, none⟩) (by show b < W.heap.size; omega)).trans c0, (hb.cell (p := ⟨b, _, none⟩) (by show b < W.heap.size; omega)).trans c1, (HBX.later hb (by omega)).1, (HBX.later hb (by omega)).2⟩)
        have HA : Hid (∀ W', Below W.heap.size W W' → Calls Try.prog 23 #[.agg #[.int .i64 v.l[n].r, .slice oe v.l[n].l.length ce], .slice (some ⟨by1, oy1, none⟩) p.length 0, .agg #[.int .i64 x.r, .slice ox x.l.length cx]] W' fun e w2 => (e = .returned (.tuple #[.agg #[.int .i64 0, .slice none 0 0], .int .i64 7])) ∧ Below W'.heap.size W' w2) := Lib.hid (fun W' hb => by
          have h := ih v.l[n] (.slice oe v.l[n].l.length ce) (.slice ox x.l.length cx) (.slice (some ⟨by1, oy1, none⟩) p.length 0) W' B ((hr.later (HBB.mono hB)).later (hb.mono (by omega))) (HRX.out.later (hb.mono (by omega))) (by have := hb.size; omega) ((HYP.later (HBB.mono hB)).later (hb.mono (by omega))) hle2
          rw [HQO.out] at h
          exact h)
        clear HYP
        obtain ⟨x0, x1⟩ := HBX
        have HALA := Lib.hid (fun (m : Nat) (o : Obj) => (below_drewN W W.heap.size m).alloc (Nat.le_refl _) o)
        go_region_held_law (fun w' => w'.cell? ⟨w.heap.size, 1, none⟩ = some (.slice (some ⟨b, off, none⟩) v.l.length ca) ∧ w'.cell? ⟨by1, oy1, none⟩ = some (.int .i64 n) ∧ w'.cell? ⟨b, off + n * 2, none⟩ = some (.int .i64 v.l[n].r) ∧ w'.cell? ⟨b, off + n * 2 + 1, none⟩ = some (.slice oe v.l[n].l.length ce) ∧ w'.cell? ⟨w.heap.size + 1, 0, none⟩ = some (.int .i64 x.r) ∧ w'.cell? ⟨w.heap.size + 1, 1, none⟩ = some (.slice ox x.l.length cx))
          (first | exact HKEEP.out _ (by assumption) | exact HKEEP.out _ (HALA.out _ _) | exact HKEEP.out _ (h3.alloc hs3 _) | exact HKEEP.out _ ((h3.setCell (p := ⟨w.heap.size + 3, 0, none⟩) (by simp; omega) _).setCell (p := ⟨w.heap.size + 3, 1, none⟩) (by simp; omega) _))
          (first
            | (go_simp; go_at_call 23; (with_reducible refine (HA.out _ (below_drewN _ _ _)).mono ?_); rintro e w3 ⟨rfl, hb3⟩
               have h3 : Below W.heap.size W w3 := (below_drewN W _ _).trans hb3
               have hs3 := h3.size
               have HCASEA := Lib.hid hs3
               clear h0 hb3)
            | (go_simp; go_at_call 23; (with_reducible refine (HA.out _ (HALA.out _ _)).mono ?_); rintro e w3 ⟨rfl, hb3⟩
               have hb3' : Below (w.heap.size + 4) ((W.drewN (nq + 1)).alloc (.cells #[.int .i64 0, .slice none 0 0] 24)) w3 := hb3.mono (by simp; omega)
               have h3 : Below W.heap.size W w3 := (HALA.out _ _).trans (hb3'.mono (by omega))
               have hs3 := h3.size
               have hs3' : w.heap.size + 4 ≤ w3.heap.size := by have := hb3.size; simp at this; omega
               obtain ⟨z0, z1, zz⟩ := (BoxF.new (W.drewN (nq + 1)) (w.heap.size + 3) 0 (.slice none 0 0) (by simp; omega)).keep (hb3'.block (w.heap.size + 3) (by omega))
               have zf0 := zz 0
               have zf1 := zz 1
               have HCASEB := Lib.hid hs3'
               clear h0 hb3 hb3' zz))
        all_goals first
          | (have hq := HCASEA.out
             have h4 : Below W.heap.size W (w3.alloc (.cells #[.int .i64 0, .slice none 0 0] 24)) := h3.alloc hs3 _
             generalize w3.alloc (.cells #[.int .i64 0, .slice none 0 0] 24) = W4 at *)
          | (have hq := HCASEB.out
             have h4 : Below W.heap.size W ((w3.setCell ⟨w.heap.size + 3, 0, none⟩ (.int .i64 0)).setCell ⟨w.heap.size + 3, 1, none⟩ (.slice none 0 0)) := (h3.setCell (p := ⟨w.heap.size + 3, 0, none⟩) (by simp; omega) _).setCell (p := ⟨w.heap.size + 3, 1, none⟩) (by simp; omega) _
             generalize (w3.setCell ⟨w.heap.size + 3, 0, none⟩ (.int .i64 0)).setCell ⟨w.heap.size + 3, 1, none⟩ (.slice none 0 0) = W4 at *
             clear z0 z1 zf0 zf1)
        all_goals
          obtain ⟨r0, r1, rz⟩ := HBR.keep (h4.block (w.heap.size + 2) (by omega))
          have f0 := rz 0
          have f1 := rz 1
          clear rz
          go_wp2_with fail
          refine bodyPost_ret (v := .tuple #[.agg #[.int .i64 0, .slice none 0 0], .int .i64 7]) (by simp [results, Try.results23, go_sem, *]) rfl ?_
          exact ⟨RetA.none (replO_none (HFS.out.trans HQ.out)) rfl, HBB.trans (((h4.mono (by omega)).setCell (p := ⟨w.heap.size + 2, _, none⟩) (by simp) _).setCell (p := ⟨w.heap.size + 2, _, none⟩) (by simp) _)⟩
      | some u =>
        have HQ := Lib.hid hq
        have HQO := Lib.hid (replO_some (x := x) hq)
        clear hq
        have HYP : HoldsI w B (.slice (some ⟨by1, oy1, none⟩) p.length 0) p := ⟨_, 0, rfl, by have h := hcy; rw [List.length_cons] at h; omega, by omega, fun j z hz => by have := (List.getElem?_eq_some_iff.1 hz).1; have h := hcy; rw [List.length_cons] at h; omega⟩
        go_enter Try.func23, Try.ntmps23
        go_wp2_with fail
        generalize ((w.alloc (.cells #[.int .i64 v.r, .slice (some ⟨b, off, none⟩) v.l.length ca] 24)).alloc (.cells #[.int .i64 x.r, .slice ox x.l.length cx] 24)).alloc (.cells #[.int .i64 0, .slice none 0 0] 24) = W at *
        obtain ⟨t0, t1⟩ := HBT
        have hx0 : (0 : Int) < (((n : Int) :: p).length : Int) := by omega
        have hx1 : 0 < ((n : Int) :: p).length := by simp
        have q0 : (0 : Int) ≤ (n : Int) := by omega
        have q1 : (n : Int) < (v.l.length : Int) := by omega
        go_quiet (fail)
        go_wp2_with fail
        have h0 : Below W.heap.size W (W.drewN nq).drew := (below_drewN W _ nq).drew
        have HKEEP : Hid (∀ w', Below W.heap.size W w' → w'.cell? ⟨w.heap.size, 1, none⟩ = some (.slice (some ⟨b, off, none⟩) v.l.length ca) ∧ w'.cell? ⟨by1, oy1, none⟩ = some (.int .i64 n) ∧ w'.cell? ⟨b, off + n * 2, none⟩ = some (.int .i64 v.l[n].r) ∧ w'.cell? ⟨b, off + n * 2 + 1, none⟩ = some (.slice oe v.l[n].l.length ce) ∧ w'.cell? ⟨w.heap.size + 1, 0, none⟩ = some (.int .i64 x.r) ∧ w'.cell? ⟨w.heap.size + 1, 1, none⟩ = some (.slice ox x.l.length cx)) :=
          Lib.hid (fun w' hb => ⟨(hb.cell (p := ⟨w.heap.size, 1, none⟩) (by show w.heap.size < W.heap.size; omega)).trans t1, (hb.cell (p := ⟨by1, oy1, none⟩) (by show by1 < W.heap.size; omega)).trans hcy0, (hb.cell (p := ⟨b, _, none⟩) (by show b < W.heap.size; omega)).trans c0, (hb.cell (p := ⟨b, _, none⟩) (by show b < W.heap.size; omega)).trans c1, (HBX.later hb (by omega)).1, (HBX.later hb (by omega)).2⟩)
        have HA : Hid (∀ W', Below W.heap.size W W' → Calls Try.prog 23 #[.agg #[.int .i64 v.l[n].r, .slice oe v.l[n].l.length ce], .slice (some ⟨by1, oy1, none⟩) p.length 0, .agg #[.int .i64 x.r, .slice ox x.l.length cx]] W' fun e w2 => (∃ sl, e = .returned (.tuple #[.agg #[.int .i64 (x.repl v.l[n] p).r, sl], .int .i64 0]) ∧ FR w2 (fun k => W'.heap.size ≤ k ∧ k < w2.heap.size) sl (x.repl v.l[n] p).l) ∧ Below W'.heap.size W' w2) := Lib.hid (fun W' hb => by
          have h := ih v.l[n] (.slice oe v.l[n].l.length ce) (.slice ox x.l.length cx) (.slice (some ⟨by1, oy1, none⟩) p.length 0) W' B ((hr.later (HBB.mono hB)).later (hb.mono (by omega))) (HRX.out.later (hb.mono (by omega))) (by have := hb.size; omega) ((HYP.later (HBB.mono hB)).later (hb.mono (by omega))) hle2
          rw [HQO.out] at h
          exact h)
        clear HYP
        obtain ⟨x0, x1⟩ := HBX
        have HALA := Lib.hid (fun (m : Nat) (o : Obj) => (below_drewN W W.heap.size m).alloc (Nat.le_refl _) o)
        go_region_held_law (fun w' => w'.cell? ⟨w.heap.size, 1, none⟩ = some (.slice (some ⟨b, off, none⟩) v.l.length ca) ∧ w'.cell? ⟨by1, oy1, none⟩ = some (.int .i64 n) ∧ w'.cell? ⟨b, off + n * 2, none⟩ = some (.int .i64 v.l[n].r) ∧ w'.cell? ⟨b, off + n * 2 + 1, none⟩ = some (.slice oe v.l[n].l.length ce) ∧ w'.cell? ⟨w.heap.size + 1, 0, none⟩ = some (.int .i64 x.r) ∧ w'.cell? ⟨w.heap.size + 1, 1, none⟩ = some (.slice ox x.l.length cx))
          (first | exact HKEEP.out _ (by assumption) | exact HKEEP.out _ (HALA.out _ _) | exact HKEEP.out _ (h3.alloc hs3 _) | exact HKEEP.out _ ((h3.setCell (p := ⟨w.heap.size + 3, 0, none⟩) (by simp; omega) _).setCell (p := ⟨w.heap.size + 3, 1, none⟩) (by simp; omega) _))
          (first
            | (go_simp; go_at_call 23; (with_reducible refine (HA.out _ (below_drewN _ _ _)).mono ?_); rintro e w3 ⟨⟨sl3, rfl, hf3⟩, hb3⟩
               obtain ⟨o3, cc3, rfl, _, _⟩ := hf3.form
               have HF3 : Hid (FR w3 (fun k => W.heap.size ≤ k ∧ k < w3.heap.size) (.slice o3 (x.repl v.l[n] p).l.length cc3) (x.repl v.l[n] p).l) := Lib.hid hf3
               have h3 : Below W.heap.size W w3 := (below_drewN W _ _).trans hb3
               have hs3 := h3.size
               have HCASEA := Lib.hid hs3
               clear h0 hb3 hf3)
            | (go_simp; go_at_call 23; (with_reducible refine (HA.out _ (HALA.out _ _)).mono ?_); rintro e w3 ⟨⟨sl3, rfl, hf3⟩, hb3⟩
               obtain ⟨o3, cc3, rfl, _, _⟩ := hf3.form
               have HF3 : Hid (FR w3 (fun k => w.heap.size + 4 ≤ k ∧ k < w3.heap.size) (.slice o3 (x.repl v.l[n] p).l.length cc3) (x.repl v.l[n] p).l) := Lib.hid (hf3.mono (fun q hq => by simp at hq; omega))
               have hb3' : Below (w.heap.size + 4) ((W.drewN (nq + 1)).alloc (.cells #[.int .i64 0, .slice none 0 0] 24)) w3 := hb3.mono (by simp; omega)
               have h3 : Below W.heap.size W w3 := (HALA.out _ _).trans (hb3'.mono (by omega))
               have hs3 := h3.size
               have hs3' : w.heap.size + 4 ≤ w3.heap.size := by have := hb3.size; simp at this; omega
               obtain ⟨z0, z1, zz⟩ := (BoxF.new (W.drewN (nq + 1)) (w.heap.size + 3) 0 (.slice none 0 0) (by simp; omega)).keep (hb3'.block (w.heap.size + 3) (by omega))
               have zf0 := zz 0
               have zf1 := zz 1
               have HCASEB := Lib.hid hs3'
               clear h0 hb3 hb3' zz hf3))
        all_goals generalize x.repl v.l[n] p = u' at *
        all_goals first
          | (have hq := HCASEA.out
             have h4 : Below W.heap.size W (w3.alloc (.cells #[.int .i64 u'.r, .slice o3 u'.l.length cc3] 24)) := h3.alloc hs3 _
             have hs4 : (w3.alloc (.cells #[.int .i64 u'.r, .slice o3 u'.l.length cc3] 24)).heap.size = w3.heap.size + 1 := by simp
             obtain ⟨ny, hny⟩ : ∃ ny, ny = w3.heap.size := ⟨_, rfl⟩
             have HBY : Box (w3.alloc (.cells #[.int .i64 u'.r, .slice o3 u'.l.length cc3] 24)) ny u' (.slice o3 u'.l.length cc3) := by rw [hny]; exact Box.new u' _ _ rfl
             have HF4 : Hid (FR (w3.alloc (.cells #[.int .i64 u'.r, .slice o3 u'.l.length cc3] 24)) (fun k => W.heap.size ≤ k ∧ k < (w3.alloc (.cells #[.int .i64 u'.r, .slice o3 u'.l.length cc3] 24)).heap.size ∧ k ≠ ny) (.slice o3 u'.l.length cc3) u'.l) := Lib.hid ((HF3.out.later (below1 w3 (.cells #[.int .i64 u'.r, .slice o3 u'.l.length cc3] 24)) (fun q hq => hq.2)).mono (fun q hq => ⟨hq.1, by omega, by omega⟩))
             have hny1 : W.heap.size ≤ ny := by omega
             have hny2 : ny < (w3.alloc (.cells #[.int .i64 u'.r, .slice o3 u'.l.length cc3] 24)).heap.size := by omega
             rw [← hny]
             generalize w3.alloc (.cells #[.int .i64 u'.r, .slice o3 u'.l.length cc3] 24) = W4 at *
             clear hny hs4)
          | (have hq := HCASEB.out
             have h4 : Below W.heap.size W ((w3.setCell ⟨w.heap.size + 3, 0, none⟩ (.int .i64 u'.r)).setCell ⟨w.heap.size + 3, 0 + 1, none⟩ (.slice o3 u'.l.length cc3)) := (h3.setCell (p := ⟨w.heap.size + 3, 0, none⟩) (by simp; omega) _).setCell (p := ⟨w.heap.size + 3, 1, none⟩) (by simp; omega) _
             have hs4 := set2_size w3 (w.heap.size + 3) 0 (0 + 1) (.int .i64 u'.r) (.slice o3 u'.l.length cc3)
             obtain ⟨ny, hny⟩ : ∃ ny, ny = w.heap.size + 3 := ⟨_, rfl⟩
             have HBY : Box ((w3.setCell ⟨w.heap.size + 3, 0, none⟩ (.int .i64 u'.r)).setCell ⟨w.heap.size + 3, 0 + 1, none⟩ (.slice o3 u'.l.length cc3)) ny u' (.slice o3 u'.l.length cc3) := by rw [hny]; exact set2_at w3 (w.heap.size + 3) 0 _ _ (by rw [z0]; rfl) (by rw [z1]; rfl)
             have HF4 : Hid (FR ((w3.setCell ⟨w.heap.size + 3, 0, none⟩ (.int .i64 u'.r)).setCell ⟨w.heap.size + 3, 0 + 1, none⟩ (.slice o3 u'.l.length cc3)) (fun k => W.heap.size ≤ k ∧ k < ((w3.setCell ⟨w.heap.size + 3, 0, none⟩ (.int .i64 u'.r)).setCell ⟨w.heap.size + 3, 0 + 1, none⟩ (.slice o3 u'.l.length cc3)).heap.size ∧ k ≠ ny) (.slice o3 u'.l.length cc3) u'.l) := Lib.hid ((HF3.out.keep (fun q hq => set2_other _ _ _ _ _ _ _ (by omega))).mono (fun q hq => ⟨by omega, by omega, by omega⟩))
             have hny1 : W.heap.size ≤ ny := by omega
             have hny2 : ny < ((w3.setCell ⟨w.heap.size + 3, 0, none⟩ (.int .i64 u'.r)).setCell ⟨w.heap.size + 3, 0 + 1, none⟩ (.slice o3 u'.l.length cc3)).heap.size := by omega
             simp only [Nat.zero_add] at h4 HBY HF4 hny2 hs4
             generalize (w3.setCell ⟨w.heap.size + 3, 0, none⟩ (.int .i64 u'.r)).setCell ⟨w.heap.size + 3, 1, none⟩ (.slice o3 u'.l.length cc3) = W4 at *
             rw [← hny]
             clear hny hs4 z0 z1 zf0 zf1)
        all_goals
          have HCL := Lib.hid (rclone_any v (.slice (some ⟨b, off, none⟩) v.l.length ca) W4 B (HR.out.later (h4.mono (by omega))) (by omega) hsz)
          have t0' := (h4.cell (p := ⟨w.heap.size, 0, none⟩) (by show w.heap.size < W.heap.size; omega)).trans t0
          have t1' := (h4.cell (p := ⟨w.heap.size, 1, none⟩) (by show w.heap.size < W.heap.size; omega)).trans t1
          go_wp2_with fail
          refine HCL.out.mono ?_
          rintro e w5 ⟨⟨sl5, rfl, hf5⟩, hb5⟩
          obtain ⟨b5, off5, cc5, rfl, hcc5, hP5, hz5, hc5⟩ := hf5.opened (by omega)
          have HF5 := Lib.hid hf5
          clear hf5 t0' t1'
          have hs5 := hb5.size
          have h6 : Below W4.heap.size W4 (w5.alloc (.cells #[.int .i64 v.r, .slice (some ⟨b5, off5, none⟩) v.l.length cc5] 24)) := hb5.alloc hs5 _
          have hs6 : (w5.alloc (.cells #[.int .i64 v.r, .slice (some ⟨b5, off5, none⟩) v.l.length cc5] 24)).heap.size = w5.heap.size + 1 := by simp
          have HBO : Box (w5.alloc (.cells #[.int .i64 v.r, .slice (some ⟨b5, off5, none⟩) v.l.length cc5] 24)) w5.heap.size v (.slice (some ⟨b5, off5, none⟩) v.l.length cc5) := Box.new v _ _ rfl
          have hB56 := below1 w5 (.cells #[.int .i64 v.r, .slice (some ⟨b5, off5, none⟩) v.l.length cc5] 24)
          have HF6 := Lib.hid (HF5.out.later hB56 (fun q hq => hq.2))
          have hz6 : ∀ o : Nat, (w5.alloc (.cells #[.int .i64 v.r, .slice (some ⟨b5, off5, none⟩) v.l.length cc5] 24)).frozen? ⟨b5, o, none⟩ = false := fun o => (hB56.frozen (p := ⟨b5, o, none⟩) hP5.2).trans (hz5 o)
          obtain ⟨s5, d0, d1⟩ := hc5 n _ (List.getElem?_eq_getElem hnl)
          have e0 := (hB56.cell (p := ⟨b5, off5 + n * 2, none⟩) hP5.2).trans d0
          have e1 := (hB56.cell (p := ⟨b5, off5 + n * 2 + 1, none⟩) hP5.2).trans d1
          go_wp2_with fail
          generalize hW6 : w5.alloc (.cells #[.int .i64 v.r, .slice (some ⟨b5, off5, none⟩) v.l.length cc5] 24) = W6 at *
          clear hW6 hc5 hz5 d0 d1 hB56
          have hW46 : Below W.heap.size W W6 := h4.trans (h6.mono (by omega))
          have zz0 := hz6 (off5 + n * 2)
          have zz1 := hz6 (off5 + n * 2 + 1)
          have y0 := (HBY.later h6 hny2).1
          have y1 := (HBY.later h6 hny2).2
          have p0 := (hW46.cell (p := ⟨by1, oy1, none⟩) (by show by1 < W.heap.size; omega)).trans hcy0
          obtain ⟨oo0, oo1⟩ := id HBO
          go_region
          have hat8 := set2_at W6 b5 (off5 + n * 2) (.int .i64 u'.r) (.slice o3 u'.l.length cc3) (by rw [e0]; rfl) (by rw [e1]; rfl)
          have hsm : ∀ k, k ≠ b5 → ((W6.setCell ⟨b5, off5 + n * 2, none⟩ (.int .i64 u'.r)).setCell ⟨b5, off5 + n * 2 + 1, none⟩ (.slice o3 u'.l.length cc3)).heap[k]? = W6.heap[k]? := fun k hk => set2_other _ _ _ _ _ _ _ hk
          have HN6 : FN W6 (fun k => W4.heap.size ≤ k ∧ k < w5.heap.size) w5.heap.size 0 v := ⟨_, HBO.1, HBO.2, HF6.out, fun h => by omega⟩
          have HST := Lib.hid (FN.store (w' := (W6.setCell ⟨b5, off5 + n * 2, none⟩ (.int .i64 u'.r)).setCell ⟨b5, off5 + n * 2 + 1, none⟩ (.slice o3 u'.l.length cc3)) (x := u') (slx := .slice o3 u'.l.length cc3) (P' := fun k => W.heap.size ≤ k ∧ k < W4.heap.size ∧ k ≠ ny)
            (Place.step w5.heap.size 0 b5 off5 cc5 v v.l[n] v.l[n] n [] b5 (off5 + n * 2) HBO.2 (List.getElem?_eq_getElem hnl) (Place.here _ _ _)) HN6 (fun k hk hk' => by omega) (fun h => by omega) hsm (fun q h0 h1 => set2_cell _ _ _ _ _ _ h0 h1) (fun q => set2_frozen _ _ _ _ _ _ _) hat8.1 hat8.2 ((HF4.out.later h6 (fun q hq => hq.2.1)).keep (fun q hq => hsm q (by omega)))).1
          have hb8 : Below W.heap.size W ((W6.setCell ⟨b5, off5 + n * 2, none⟩ (.int .i64 u'.r)).setCell ⟨b5, off5 + n * 2 + 1, none⟩ (.slice o3 u'.l.length cc3)).drew := ((hW46.setCell (p := ⟨b5, off5 + n * 2, none⟩) (by show W.heap.size ≤ b5; omega) _).setCell (p := ⟨b5, off5 + n * 2 + 1, none⟩) (by show W.heap.size ≤ b5; omega) _).drew
          have hs8 : ((W6.setCell ⟨b5, off5 + n * 2, none⟩ (.int .i64 u'.r)).setCell ⟨b5, off5 + n * 2 + 1, none⟩ (.slice o3 u'.l.length cc3)).drew.heap.size = W6.heap.size := set2_size _ _ _ _ _ _
          have HST2 : Hid (FN ((W6.setCell ⟨b5, off5 + n * 2, none⟩ (.int .i64 u'.r)).setCell ⟨b5, off5 + n * 2 + 1, none⟩ (.slice o3 u'.l.length cc3)).drew (fun k => (W4.heap.size ≤ k ∧ k < w5.heap.size) ∨ (W.heap.size ≤ k ∧ k < W4.heap.size ∧ k ≠ ny)) w5.heap.size 0 (u'.repl v [(n : Int)])) := by
            obtain ⟨s, g0, g1, g2, g3⟩ := HST.out
            exact Lib.hid ⟨s, g0, g1, g2.keep (fun _ _ => rfl), g3⟩
          generalize ((W6.setCell ⟨b5, off5 + n * 2, none⟩ (.int .i64 u'.r)).setCell ⟨b5, off5 + n * 2 + 1, none⟩ (.slice o3 u'.l.length cc3)).drew = w8 at *
          obtain ⟨sl8, d0, d1, hF8, _⟩ := HST2.out
          obtain ⟨o8, cc8, rfl, _, _⟩ := hF8.form
          have HF8 := Lib.hid hF8
          obtain ⟨r0, r1, rz⟩ := HBR.keep (hb8.block (w.heap.size + 2) (by omega))
          have f0 := rz 0
          have f1 := rz 1
          clear hF8 rz e0 e1 zz0 zz1 y0 y1 p0 oo0 oo1 hsm hat8 HN6
          go_wp2_with fail
          refine bodyPost_ret (v := .tuple #[.agg #[.int .i64 (u'.repl v [(n : Int)]).r, .slice o8 (u'.repl v [(n : Int)]).l.length cc8], .int .i64 0]) (by simp [results, Try.results23, go_sem, *]) rfl ?_
          exact ⟨RetA.some ((replO_some (HFS.out.trans HQ.out)).trans (by rw [HRP.out])) rfl ((HF8.out.keep (fun q hq => set2_other _ _ _ _ _ _ _ (by omega))).mono (fun q hq => ⟨by omega, by rw [set2_size]; omega⟩)), HBB.trans (((hb8.mono (by omega)).setCell (p := ⟨w.heap.size + 2, _, none⟩) (by simp) _).setCell (p := ⟨w.heap.size + 2, _, none⟩) (by simp) _)⟩
    · have hc2 : 1 < cy := by simp at hcy; omega
      cases hq : v.l[n].follow p with
      | none =>
        have HQ := Lib.hid hq
        have HQO := Lib.hid (replO_none (x := x) hq)
        clear hq
        have HYP : HoldsI w B (.slice (some ⟨by1, oy1 + 1, none⟩) p.length (cy - 1)) p := by have h := HY.out.drop (k := 1) (by simp); simpa [Addr.add] using h
        go_enter Try.func23, Try.ntmps23
        go_wp2_with fail
        generalize ((w.alloc (.cells #[.int .i64 v.r, .slice (some ⟨b, off, none⟩) v.l.length ca] 24)).alloc (.cells #[.int .i64 x.r, .slice ox x.l.length cx] 24)).alloc (.cells #[.int .i64 0, .slice none 0 0] 24) = W at *
        obtain ⟨t0, t1⟩ := HBT
        have hx0 : (0 : Int) < (((n : Int) :: p).length : Int) := by omega
        have hx1 : 0 < ((n : Int) :: p).length := by simp
        have q0 : (0 : Int) ≤ (n : Int) := by omega
        have q1 : (n : Int) < (v.l.length : Int) := by omega
        go_quiet (fail)
        go_wp2_with fail
        have h0 : Below W.heap.size W (W.drewN nq).drew := (below_drewN W _ nq).drew
        have HKEEP : Hid (∀ w', Below W.heap.size W w' → w'.cell? ⟨w.heap.size, 1, none⟩ = some (.slice (some ⟨b, off, none⟩) v.l.length ca) ∧ w'.cell? ⟨by1, oy1, none⟩ = some (.int .i64 n) ∧ w'.cell? ⟨b, off + n * 2, none⟩ = some (.int .i64 v.l[n].r) ∧ w'.cell? ⟨b, off + n * 2 + 1, none⟩ = some (.slice oe v.l[n].l.length ce) ∧ w'.cell? ⟨w.heap.size + 1, 0, none⟩ = some (.int .i64 x.r) ∧ w'.cell? ⟨w.heap.size + 1, 1, none⟩ = some (.slice ox x.l.length cx)) :=
          Lib.hid (fun w' hb => ⟨(hb.cell (p := ⟨w.heap.size, 1, none⟩) (by show w.heap.size < W.heap.size; omega)).trans t1, (hb.cell (p := ⟨by1, oy1, none⟩) (by show by1 < W.heap.size; omega)).trans hcy0, (hb.cell (p := ⟨b, _, none⟩) (by show b < W.heap.size; omega)).trans c0, (hb.cell (p := ⟨b, _, none⟩) (by show b < W.heap.size; omega)).trans c1, (HBX.later hb (by omega)).1, (HBX.later hb (by omega)).2⟩)
        have HA : Hid (∀ W', Below W.heap.size W W' → Calls Try.prog 23 #[.agg #[.int .i64 v.l[n].r, .slice oe v.l[n].l.length ce], .slice (some ⟨by1, oy1 + 1, none⟩) p.length (cy - 1), .agg #[.int .i64 x.r, .slice ox x.l.length cx]] W' fun e w2 => (e = .returned (.tuple #[.agg #[.int .i64 0, .slice none 0 0], .int .i64 7])) ∧ Below W'.heap.size W' w2) := Lib.hid (fun W' hb => by
          have h := ih v.l[n] (.slice oe v.l[n].l.length ce) (.slice ox x.l.length cx) (.slice (some ⟨by1, oy1 + 1, none⟩) p.length (cy - 1)) W' B ((hr.later (HBB.mono hB)).later (hb.mono (by omega))) (HRX.out.later (hb.mono (by omega))) (by have := hb.size; omega) ((HYP.later (HBB.mono hB)).later (hb.mono (by omega))) hle2
          rw [HQO.out] at h
          exact h)
        clear HYP
        obtain ⟨x0, x1⟩ := HBX
        have HALA := Lib.hid (fun (m : Nat) (o : Obj) => (below_drewN W W.heap.size m).alloc (Nat.le_refl _) o)
        go_region_held_law (fun w' => w'.cell? ⟨w.heap.size, 1, none⟩ = some (.slice (some ⟨b, off, none⟩) v.l.length ca) ∧ w'.cell? ⟨by1, oy1, none⟩ = some (.int .i64 n) ∧ w'.cell? ⟨b, off + n * 2, none⟩ = some (.int .i64 v.l[n].r) ∧ w'.cell? ⟨b, off + n * 2 + 1, none⟩ = some (.slice oe v.l[n].l.length ce) ∧ w'.cell? ⟨w.heap.size + 1, 0, none⟩ = some (.int .i64 x.r) ∧ w'.cell? ⟨w.heap.size + 1, 1, none⟩ = some (.slice ox x.l.length cx))
          (first | exact HKEEP.out _ (by assumption) | exact HKEEP.out _ (HALA.out _ _) | exact HKEEP.out _ (h3.alloc hs3 _) | exact HKEEP.out _ ((h3.setCell (p := ⟨w.heap.size + 3, 0, none⟩) (by simp; omega) _).setCell (p := ⟨w.heap.size + 3, 1, none⟩) (by simp; omega) _))
          (first
            | (go_simp; go_at_call 23; (with_reducible refine (HA.out _ (below_drewN _ _ _)).mono ?_); rintro e w3 ⟨rfl, hb3⟩
               have h3 : Below W.heap.size W w3 := (below_drewN W _ _).trans hb3
               have hs3 := h3.size
               have HCASEA := Lib.hid hs3
               clear h0 hb3)
            | (go_simp; go_at_call 23; (with_reducible refine (HA.out _ (HALA.out _ _)).mono ?_); rintro e w3 ⟨rfl, hb3⟩
               have hb3' : Below (w.heap.size + 4) ((W.drewN (nq + 1)).alloc (.cells #[.int .i64 0, .slice none 0 0] 24)) w3 := hb3.mono (by simp; omega)
               have h3 : Below W.heap.size W w3 := (HALA.out _ _).trans (hb3'.mono (by omega))
               have hs3 := h3.size
               have hs3' : w.heap.size + 4 ≤ w3.heap.size := by have := hb3.size; simp at this; omega
               obtain ⟨z0, z1, zz⟩ := (BoxF.new (W.drewN (nq + 1)) (w.heap.size + 3) 0 (.slice none 0 0) (by simp; omega)).keep (hb3'.block (w.heap.size + 3) (by omega))
               have zf0 := zz 0
               have zf1 := zz 1
               have HCASEB := Lib.hid hs3'
               clear h0 hb3 hb3' zz))
        all_goals first
          | (have hq := HCASEA.out
             have h4 : Below W.heap.size W (w3.alloc (.cells #[.int .i64 0, .slice none 0 0] 24)) := h3.alloc hs3 _
             generalize w3.alloc (.cells #[.int .i64 0, .slice none 0 0] 24) = W4 at *)
          | (have hq := HCASEB.out
             have h4 : Below W.heap.size W ((w3.setCell ⟨w.heap.size + 3, 0, none⟩ (.int .i64 0)).setCell ⟨w.heap.size + 3, 1, none⟩ (.slice none 0 0)) := (h3.setCell (p := ⟨w.heap.size + 3, 0, none⟩) (by simp; omega) _).setCell (p := ⟨w.heap.size + 3, 1, none⟩) (by simp; omega) _
             generalize (w3.setCell ⟨w.heap.size + 3, 0, none⟩ (.int .i64 0)).setCell ⟨w.heap.size + 3, 1, none⟩ (.slice none 0 0) = W4 at *
             clear z0 z1 zf0 zf1)
        all_goals
          obtain ⟨r0, r1, rz⟩ := HBR.keep (h4.block (w.heap.size + 2) (by omega))
          have f0 := rz 0
          have f1 := rz 1
          clear rz
          go_wp2_with fail
          refine bodyPost_ret (v := .tuple #[.agg #[.int .i64 0, .slice none 0 0], .int .i64 7]) (by simp [results, Try.results23, go_sem, *]) rfl ?_
          exact ⟨RetA.none (replO_none (HFS.out.trans HQ.out)) rfl, HBB.trans (((h4.mono (by omega)).setCell (p := ⟨w.heap.size + 2, _, none⟩) (by simp) _).setCell (p := ⟨w.heap.size + 2, _, none⟩) (by simp) _)⟩
      | some u =>
        have HQ := Lib.hid hq
        have HQO := Lib.hid (replO_some (x := x) hq)
        clear hq
        have HYP : HoldsI w B (.slice (some ⟨by1, oy1 + 1, none⟩) p.length (cy - 1)) p := by have h := HY.out.drop (k := 1) (by simp); simpa [Addr.add] using h
        go_enter Try.func23, Try.ntmps23
        go_wp2_with fail
        generalize ((w.alloc (.cells #[.int .i64 v.r, .slice (some ⟨b, off, none⟩) v.l.length ca] 24)).alloc (.cells #[.int .i64 x.r, .slice ox x.l.length cx] 24)).alloc (.cells #[.int .i64 0, .slice none 0 0] 24) = W at *
        obtain ⟨t0, t1⟩ := HBT
        have hx0 : (0 : Int) < (((n : Int) :: p).length : Int) := by omega
        have hx1 : 0 < ((n : Int) :: p).length := by simp
        have q0 : (0 : Int) ≤ (n : Int) := by omega
        have q1 : (n : Int) < (v.l.length : Int) := by omega
        go_quiet (fail)
        go_wp2_with fail
        have h0 : Below W.heap.size W (W.drewN nq).drew := (below_drewN W _ nq).drew
        have HKEEP : Hid (∀ w', Below W.heap.size W w' → w'.cell? ⟨w.heap.size, 1, none⟩ = some (.slice (some ⟨b, off, none⟩) v.l.length ca) ∧ w'.cell? ⟨by1, oy1, none⟩ = some (.int .i64 n) ∧ w'.cell? ⟨b, off + n * 2, none⟩ = some (.int .i64 v.l[n].r) ∧ w'.cell? ⟨b, off + n * 2 + 1, none⟩ = some (.slice oe v.l[n].l.length ce) ∧ w'.cell? ⟨w.heap.size + 1, 0, none⟩ = some (.int .i64 x.r) ∧ w'.cell? ⟨w.heap.size + 1, 1, none⟩ = some (.slice ox x.l.length cx)) :=
          Lib.hid (fun w' hb => ⟨(hb.cell (p := ⟨w.heap.size, 1, none⟩) (by show w.heap.size < W.heap.size; omega)).trans t1, (hb.cell (p := ⟨by1, oy1, none⟩) (by show by1 < W.heap.size; omega)).trans hcy0, (hb.cell (p := ⟨b, _, none⟩) (by show b < W.heap.size; omega)).trans c0, (hb.cell (p := ⟨b, _, none⟩) (by show b < W.heap.size; omega)).trans c1, (HBX.later hb (by omega)).1, (HBX.later hb (by omega)).2⟩)
        have HA : Hid (∀ W', Below W.heap.size W W' → Calls Try.prog 23 #[.agg #[.int .i64 v.l[n].r, .slice oe v.l[n].l.length ce], .slice (some ⟨by1, oy1 + 1, none⟩) p.length (cy - 1), .agg #[.int .i64 x.r, .slice ox x.l.length cx]] W' fun e w2 => (∃ sl, e = .returned (.tuple #[.agg #[.int .i64 (x.repl v.l[n] p).r, sl], .int .i64 0]) ∧ FR w2 (fun k => W'.heap.size ≤ k ∧ k < w2.heap.size) sl (x.repl v.l[n] p).l) ∧ Below W'.heap.size W' w2) := Lib.hid (fun W' hb => by
          have h := ih v.l[n] (.slice oe v.l[n].l.length ce) (.slice ox x.l.length cx) (.slice (some ⟨by1, oy1 + 1, none⟩) p.length (cy - 1)) W' B ((hr.later (HBB.mono hB)).later (hb.mono (by omega))) (HRX.out.later (hb.mono (by omega))) (by have := hb.size; omega) ((HYP.later (HBB.mono hB)).later (hb.mono (by omega))) hle2
          rw [HQO.out] at h
          exact h)
        clear HYP
        obtain ⟨x0, x1⟩ := HBX
        have HALA := Lib.hid (fun (m : Nat) (o : Obj) => (below_drewN W W.heap.size m).alloc (Nat.le_refl _) o)
        go_region_held_law (fun w' => w'.cell? ⟨w.heap.size, 1, none⟩ = some (.slice (some ⟨b, off, none⟩) v.l.length ca) ∧ w'.cell? ⟨by1, oy1, none⟩ = some (.int .i64 n) ∧ w'.cell? ⟨b, off + n * 2, none⟩ = some (.int .i64 v.l[n].r) ∧ w'.cell? ⟨b, off + n * 2 + 1, none⟩ = some (.slice oe v.l[n].l.length ce) ∧ w'.cell? ⟨w.heap.size + 1, 0, none⟩ = some (.int .i64 x.r) ∧ w'.cell? ⟨w.heap.size + 1, 1, none⟩ = some (.slice ox x.l.length cx))
          (first | exact HKEEP.out _ (by assumption) | exact HKEEP.out _ (HALA.out _ _) | exact HKEEP.out _ (h3.alloc hs3 _) | exact HKEEP.out _ ((h3.setCell (p := ⟨w.heap.size + 3, 0, none⟩) (by simp; omega) _).setCell (p := ⟨w.heap.size + 3, 1, none⟩) (by simp; omega) _))
          (first
            | (go_simp; go_at_call 23; (with_reducible refine (HA.out _ (below_drewN _ _ _)).mono ?_); rintro e w3 ⟨⟨sl3, rfl, hf3⟩, hb3⟩
               obtain ⟨o3, cc3, rfl, _, _⟩ := hf3.form
               have HF3 : Hid (FR w3 (fun k => W.heap.size ≤ k ∧ k < w3.heap.size) (.slice o3 (x.repl v.l[n] p).l.length cc3) (x.repl v.l[n] p).l) := Lib.hid hf3
               have h3 : Below W.heap.size W w3 := (below_drewN W _ _).trans hb3
               have hs3 := h3.size
               have HCASEA := Lib.hid hs3
               clear h0 hb3 hf3)
            | (go_simp; go_at_call 23; (with_reducible refine (HA.out _ (HALA.out _ _)).mono ?_); rintro e w3 ⟨⟨sl3, rfl, hf3⟩, hb3⟩
               obtain ⟨o3, cc3, rfl, _, _⟩ := hf3.form
               have HF3 : Hid (FR w3 (fun k => w.heap.size + 4 ≤ k ∧ k < w3.heap.size) (.slice o3 (x.repl v.l[n] p).l.length cc3) (x.repl v.l[n] p).l) := Lib.hid (hf3.mono (fun q hq => by simp at hq; omega))
               have hb3' : Below (w.heap.size + 4) ((W.drewN (nq + 1)).alloc (.cells #[.int .i64 0, .slice none 0 0] 24)) w3 := hb3.mono (by simp; omega)
               have h3 : Below W.heap.size W w3 := (HALA.out _ _).trans (hb3'.mono (by omega))
               have hs3 := h3.size
               have hs3' : w.heap.size + 4 ≤ w3.heap.size := by have := hb3.size; simp at this; omega
               obtain ⟨z0, z1, zz⟩ := (BoxF.new (W.drewN (nq + 1)) (w.heap.size + 3) 0 (.slice none 0 0) (by simp; omega)).keep (hb3'.block (w.heap.size + 3) (by omega))
               have zf0 := zz 0
               have zf1 := zz 1
               have HCASEB := Lib.hid hs3'
               clear h0 hb3 hb3' zz hf3))
        all_goals generalize x.repl v.l[n] p = u' at *
        all_goals first
          | (have hq := HCASEA.out
             have h4 : Below W.heap.size W (w3.alloc (.cells #[.int .i64 u'.r, .slice o3 u'.l.length cc3] 24)) := h3.alloc hs3 _
             have hs4 : (w3.alloc (.cells #[.int .i64 u'.r, .slice o3 u'.l.length cc3] 24)).heap.size = w3.heap.size + 1 := by simp
             obtain ⟨ny, hny⟩ : ∃ ny, ny = w3.heap.size := ⟨_, rfl⟩
             have HBY : Box (w3.alloc (.cells #[.int .i64 u'.r, .slice o3 u'.l.length cc3] 24)) ny u' (.slice o3 u'.l.length cc3) := by rw [hny]; exact Box.new u' _ _ rfl
             have HF4 : Hid (FR (w3.alloc (.cells #[.int .i64 u'.r, .slice o3 u'.l.length cc3] 24)) (fun k => W.heap.size ≤ k ∧ k < (w3.alloc (.cells #[.int .i64 u'.r, .slice o3 u'.l.length cc3] 24)).heap.size ∧ k ≠ ny) (.slice o3 u'.l.length cc3) u'.l) := Lib.hid ((HF3.out.later (below1 w3 (.cells #[.int .i64 u'.r, .slice o3 u'.l.length cc3] 24)) (fun q hq => hq.2)).mono (fun q hq => ⟨hq.1, by omega, by omega⟩))
             have hny1 : W.heap.size ≤ ny := by omega
             have hny2 : ny < (w3.alloc (.cells #[.int .i64 u'.r, .slice o3 u'.l.length cc3] 24)).heap.size := by omega
             rw [← hny]
             generalize w3.alloc (.cells #[.int .i64 u'.r, .slice o3 u'.l.length cc3] 24) = W4 at *
             clear hny hs4)
          | (have hq := HCASEB.out
             have h4 : Below W.heap.size W ((w3.setCell ⟨w.heap.size + 3, 0, none⟩ (.int .i64 u'.r)).setCell ⟨w.heap.size + 3, 0 + 1, none⟩ (.slice o3 u'.l.length cc3)) := (h3.setCell (p := ⟨w.heap.size + 3, 0, none⟩) (by simp; omega) _).setCell (p := ⟨w.heap.size + 3, 1, none⟩) (by simp; omega) _
             have hs4 := set2_size w3 (w.heap.size + 3) 0 (0 + 1) (.int .i64 u'.r) (.slice o3 u'.l.length cc3)
             obtain ⟨ny, hny⟩ : ∃ ny, ny = w.heap.size + 3 := ⟨_, rfl⟩
             have HBY : Box ((w3.setCell ⟨w.heap.size + 3, 0, none⟩ (.int .i64 u'.r)).setCell ⟨w.heap.size + 3, 0 + 1, none⟩ (.slice o3 u'.l.length cc3)) ny u' (.slice o3 u'.l.length cc3) := by rw [hny]; exact set2_at w3 (w.heap.size + 3) 0 _ _ (by rw [z0]; rfl) (by rw [z1]; rfl)
             have HF4 : Hid (FR ((w3.setCell ⟨w.heap.size + 3, 0, none⟩ (.int .i64 u'.r)).setCell ⟨w.heap.size + 3, 0 + 1, none⟩ (.slice o3 u'.l.length cc3)) (fun k => W.heap.size ≤ k ∧ k < ((w3.setCell ⟨w.heap.size + 3, 0, none⟩ (.int .i64 u'.r)).setCell ⟨w.heap.size + 3, 0 + 1, none⟩ (.slice o3 u'.l.length cc3)).heap.size ∧ k ≠ ny) (.slice o3 u'.l.length cc3) u'.l) := Lib.hid ((HF3.out.keep (fun q hq => set2_other _ _ _ _ _ _ _ (by omega))).mono (fun q hq => ⟨by omega, by omega, by omega⟩))
             have hny1 : W.heap.size ≤ ny := by omega
             have hny2 : ny < ((w3.setCell ⟨w.heap.size + 3, 0, none⟩ (.int .i64 u'.r)).setCell ⟨w.heap.size + 3, 0 + 1, none⟩ (.slice o3 u'.l.length cc3)).heap.size := by omega
             simp only [Nat.zero_add] at h4 HBY HF4 hny2 hs4
             generalize (w3.setCell ⟨w.heap.size + 3, 0, none⟩ (.int .i64 u'.r)).setCell ⟨w.heap.size + 3, 1, none⟩ (.slice o3 u'.l.length cc3) = W4 at *
             rw [← hny]
             clear hny hs4 z0 z1 zf0 zf1)
        all_goals
          have HCL := Lib.hid (rclone_any v (.slice (some ⟨b, off, none⟩) v.l.length ca) W4 B (HR.out.later (h4.mono (by omega))) (by omega) hsz)
          have t0' := (h4.cell (p := ⟨w.heap.size, 0, none⟩) (by show w.heap.size < W.heap.size; omega)).trans t0
          have t1' := (h4.cell (p := ⟨w.heap.size, 1, none⟩) (by show w.heap.size < W.heap.size; omega)).trans t1
          go_wp2_with fail
          refine HCL.out.mono ?_
          rintro e w5 ⟨⟨sl5, rfl, hf5⟩, hb5⟩
          obtain ⟨b5, off5, cc5, rfl, hcc5, hP5, hz5, hc5⟩ := hf5.opened (by omega)
          have HF5 := Lib.hid hf5
          clear hf5 t0' t1'
          have hs5 := hb5.size
          have h6 : Below W4.heap.size W4 (w5.alloc (.cells #[.int .i64 v.r, .slice (some ⟨b5, off5, none⟩) v.l.length cc5] 24)) := hb5.alloc hs5 _
          have hs6 : (w5.alloc (.cells #[.int .i64 v.r, .slice (some ⟨b5, off5, none⟩) v.l.length cc5] 24)).heap.size = w5.heap.size + 1 := by simp
          have HBO : Box (w5.alloc (.cells #[.int .i64 v.r, .slice (some ⟨b5, off5, none⟩) v.l.length cc5] 24)) w5.heap.size v (.slice (some ⟨b5, off5, none⟩) v.l.length cc5) := Box.new v _ _ rfl
          have hB56 := below1 w5 (.cells #[.int .i64 v.r, .slice (some ⟨b5, off5, none⟩) v.l.length cc5] 24)
          have HF6 := Lib.hid (HF5.out.later hB56 (fun q hq => hq.2))
          have hz6 : ∀ o : Nat, (w5.alloc (.cells #[.int .i64 v.r, .slice (some ⟨b5, off5, none⟩) v.l.length cc5] 24)).frozen? ⟨b5, o, none⟩ = false := fun o => (hB56.frozen (p := ⟨b5, o, none⟩) hP5.2).trans (hz5 o)
          obtain ⟨s5, d0, d1⟩ := hc5 n _ (List.getElem?_eq_getElem hnl)
          have e0 := (hB56.cell (p := ⟨b5, off5 + n * 2, none⟩) hP5.2).trans d0
          have e1 := (hB56.cell (p := ⟨b5, off5 + n * 2 + 1, none⟩) hP5.2).trans d1
          go_wp2_with fail
          generalize hW6 : w5.alloc (.cells #[.int .i64 v.r, .slice (some ⟨b5, off5, none⟩) v.l.length cc5] 24) = W6 at *
          clear hW6 hc5 hz5 d0 d1 hB56
          have hW46 : Below W.heap.size W W6 := h4.trans (h6.mono (by omega))
          have zz0 := hz6 (off5 + n * 2)
          have zz1 := hz6 (off5 + n * 2 + 1)
          have y0 := (HBY.later h6 hny2).1
          have y1 := (HBY.later h6 hny2).2
          have p0 := (hW46.cell (p := ⟨by1, oy1, none⟩) (by show by1 < W.heap.size; omega)).trans hcy0
          obtain ⟨oo0, oo1⟩ := id HBO
          go_region
          have hat8 := set2_at W6 b5 (off5 + n * 2) (.int .i64 u'.r) (.slice o3 u'.l.length cc3) (by rw [e0]; rfl) (by rw [e1]; rfl)
          have hsm : ∀ k, k ≠ b5 → ((W6.setCell ⟨b5, off5 + n * 2, none⟩ (.int .i64 u'.r)).setCell ⟨b5, off5 + n * 2 + 1, none⟩ (.slice o3 u'.l.length cc3)).heap[k]? = W6.heap[k]? := fun k hk => set2_other _ _ _ _ _ _ _ hk
          have HN6 : FN W6 (fun k => W4.heap.size ≤ k ∧ k < w5.heap.size) w5.heap.size 0 v := ⟨_, HBO.1, HBO.2, HF6.out, fun h => by omega⟩
          have HST := Lib.hid (FN.store (w' := (W6.setCell ⟨b5, off5 + n * 2, none⟩ (.int .i64 u'.r)).setCell ⟨b5, off5 + n * 2 + 1, none⟩ (.slice o3 u'.l.length cc3)) (x := u') (slx := .slice o3 u'.l.length cc3) (P' := fun k => W.heap.size ≤ k ∧ k < W4.heap.size ∧ k ≠ ny)
            (Place.step w5.heap.size 0 b5 off5 cc5 v v.l[n] v.l[n] n [] b5 (off5 + n * 2) HBO.2 (List.getElem?_eq_getElem hnl) (Place.here _ _ _)) HN6 (fun k hk hk' => by omega) (fun h => by omega) hsm (fun q h0 h1 => set2_cell _ _ _ _ _ _ h0 h1) (fun q => set2_frozen _ _ _ _ _ _ _) hat8.1 hat8.2 ((HF4.out.later h6 (fun q hq => hq.2.1)).keep (fun q hq => hsm q (by omega)))).1
          have hb8 : Below W.heap.size W ((W6.setCell ⟨b5, off5 + n * 2, none⟩ (.int .i64 u'.r)).setCell ⟨b5, off5 + n * 2 + 1, none⟩ (.slice o3 u'.l.length cc3)).drew := ((hW46.setCell (p := ⟨b5, off5 + n * 2, none⟩) (by show W.heap.size ≤ b5; omega) _).setCell (p := ⟨b5, off5 + n * 2 + 1, none⟩) (by show W.heap.size ≤ b5; omega) _).drew
          have hs8 : ((W6.setCell ⟨b5, off5 + n * 2, none⟩ (.int .i64 u'.r)).setCell ⟨b5, off5 + n * 2 + 1, none⟩ (.slice o3 u'.l.length cc3)).drew.heap.size = W6.heap.size := set2_size _ _ _ _ _ _
          have HST2 : Hid (FN ((W6.setCell ⟨b5, off5 + n * 2, none⟩ (.int .i64 u'.r)).setCell ⟨b5, off5 + n * 2 + 1, none⟩ (.slice o3 u'.l.length cc3)).drew (fun k => (W4.heap.size ≤ k ∧ k < w5.heap.size) ∨ (W.heap.size ≤ k ∧ k < W4.heap.size ∧ k ≠ ny)) w5.heap.size 0 (u'.repl v [(n : Int)])) := by
            obtain ⟨s, g0, g1, g2, g3⟩ := HST.out
            exact Lib.hid ⟨s, g0, g1, g2.keep (fun _ _ => rfl), g3⟩
          generalize ((W6.setCell ⟨b5, off5 + n * 2, none⟩ (.int .i64 u'.r)).setCell ⟨b5, off5 + n * 2 + 1, none⟩ (.slice o3 u'.l.length cc3)).drew = w8 at *
          obtain ⟨sl8, d0, d1, hF8, _⟩ := HST2.out
          obtain ⟨o8, cc8, rfl, _, _⟩ := hF8.form
          have HF8 := Lib.hid hF8
          obtain ⟨r0, r1, rz⟩ := HBR.keep (hb8.block (w.heap.size + 2) (by omega))
          have f0 := rz 0
          have f1 := rz 1
          clear hF8 rz e0 e1 zz0 zz1 y0 y1 p0 oo0 oo1 hsm hat8 HN6
          go_wp2_with fail
          refine bodyPost_ret (v := .tuple #[.agg #[.int .i64 (u'.repl v [(n : Int)]).r, .slice o8 (u'.repl v [(n : Int)]).l.length cc8], .int .i64 0]) (by simp [results, Try.results23, go_sem, *]) rfl ?_
          exact ⟨RetA.some ((replO_some (HFS.out.trans HQ.out)).trans (by rw [HRP.out])) rfl ((HF8.out.keep (fun q hq => set2_other _ _ _ _ _ _ _ (by omega))).mono (fun q hq => ⟨by omega, by rw [set2_size]; omega⟩)), HBB.trans (((hb8.mono (by omega)).setCell (p := ⟨w.heap.size + 2, _, none⟩) (by simp) _).setCell (p := ⟨w.heap.size + 2, _, none⟩) (by simp) _)⟩

end Go.Proofs.Ytdfhfljmcakilaa
