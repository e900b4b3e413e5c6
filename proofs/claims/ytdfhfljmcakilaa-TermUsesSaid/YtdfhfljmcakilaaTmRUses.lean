/-
  Uses of the reference. Nothing is assumed.
-/
import Derived.Test.YtdfhfljmcakilaaTmUses
import Derived.BigQuiet
namespace Go.Proofs.Ytdfhfljmcakilaa
open Go.RowKit
open Go.Sort (grow)

theorem any_pres (p : Int → Bool) (l : List T) : ((T.pres l).map T.r).any p = l.any fun v => v.rules.any p := by
  induction l with
  | nil => rw [T.pres_nil]; rfl
  | cons v l ih => rw [T.pres_cons, List.map_append, List.any_append, ih, List.any_cons]; rfl
theorem usesT_eq (L : Lan) (input : Int) (v : T) : usesT L input v = (usesI L input v.r || v.l.any (usesT L input)) := by
  unfold usesT
  have h : v.rules = v.r :: (T.pres v.l).map T.r := by unfold T.rules; rw [T.pre_eq]; rfl
  rw [h, List.any_cons, any_pres]

set_option maxRecDepth 100000 in
set_option maxHeartbeats 3200000 in
theorem ruses_any (L : Lan) (x1 x2 x3 : Value) (input : Int) (v : T) : ∀ (sl : Value) (w : World) (B : Nat), HoldsL w B x1 x2 x3 L → Rep w B sl v.l → B ≤ w.heap.size → v.size ≤ 900 →
    Calls Try.prog 29 #[lanV L x1 x2 x3, .agg #[.int .i64 v.r, sl], .int .i64 input] w fun e w' => e = .returned (.bool (usesT L input v)) ∧ Below w.heap.size w w' := by
  induction v using T.ind with
  | h v ih =>
  intro sl w B hL hrep hB hsz
  have HL0 := Lib.hid hL
  obtain ⟨hI, hY, hU⟩ := hL
  obtain ⟨o1, c1, rfl, _, _⟩ : ∃ oa cap, x1 = .slice oa L.ins.length cap ∧ L.ins.length ≤ cap ∧ cap ≤ 9223372036854775807 := by obtain ⟨a, b, c, d, e, _⟩ := hI; exact ⟨a, b, c, d, e⟩
  obtain ⟨o2, c2, rfl, _, _⟩ := hY.form
  obtain ⟨o3, c3, rfl, _, _⟩ := hU.form
  obtain ⟨oa, ca, rfl, _, _⟩ := hrep.form
  have HSZ := Lib.hid v.size_eq
  have HUT := Lib.hid (usesT_eq L input v)
  have HBB := Lib.hid (below2 w (.cells #[.string L.nm, .slice o1 L.ins.length c1, .slice o2 L.sys.length c2, .slice o3 L.rs.length c3] 45) (.cells #[.int .i64 v.r, .slice oa v.l.length ca] 24))
  have HBL := Lib.hid ((BoxL.new w w.heap.size L (.slice o1 L.ins.length c1) (.slice o2 L.sys.length c2) (.slice o3 L.rs.length c3) 45 rfl).later (below1 _ (.cells #[.int .i64 v.r, .slice oa v.l.length ca] 24)) (by simp))
  have HBT : Hid (Box ((w.alloc (.cells #[.string L.nm, .slice o1 L.ins.length c1, .slice o2 L.sys.length c2, .slice o3 L.rs.length c3] 45)).alloc (.cells #[.int .i64 v.r, .slice oa v.l.length ca] 24)) (w.heap.size + 1) v (.slice oa v.l.length ca)) := Lib.hid (Box.new v _ _ (by simp))
  have hzz : ((w.alloc (.cells #[.string L.nm, .slice o1 L.ins.length c1, .slice o2 L.sys.length c2, .slice o3 L.rs.length c3] 45)).alloc (.cells #[.int .i64 v.r, .slice oa v.l.length ca] 24)).heap.size = w.heap.size + 2 := by simp
  have HL := Lib.hid (HL0.out.later (HBB.out.mono hB))
  have HR := Lib.hid (hrep.later (HBB.out.mono hB))
  have HUU := Lib.hid (hU.later (HBB.out.mono hB))
  clear hI hY hU hrep
  have hBW : B ≤ ((w.alloc (.cells #[.string L.nm, .slice o1 L.ins.length c1, .slice o2 L.sys.length c2, .slice o3 L.rs.length c3] 45)).alloc (.cells #[.int .i64 v.r, .slice oa v.l.length ca] 24)).heap.size := by omega
  by_cases hin : 0 ≤ v.r ∧ v.r < (L.rs.length : Int)
  case neg =>
    have HNO : Hid (usesI L input v.r = false) := Lib.hid (usesI_no hin)
    by_cases hneg : v.r < 0
    · have hn0 : ¬ (0 : Int) ≤ v.r := by omega
      clear hin
      go_enter Try.func29, Try.ntmps29
      go_wp2_with fail
      generalize (w.alloc (.cells #[.string L.nm, .slice o1 L.ins.length c1, .slice o2 L.sys.length c2, .slice o3 L.rs.length c3] 45)).alloc (.cells #[.int .i64 v.r, .slice oa v.l.length ca] 24) = W at *
      go_loopw [8] (fun i wr => ∃ k : Nat, k ≤ v.l.length ∧ i = .int .i64 k ∧ Hid ((v.l.drop k).any (usesT L input) = v.l.any (usesT L input)) ∧ Below W.heap.size W wr) (fun i _ => v.l.length - (intOf i).toNat)
      case atStart => exact ⟨0, Nat.zero_le _, rfl, rfl, Below.refl _ _⟩
      case round =>
        obtain ⟨k, hk, rfl, HD, hbr⟩ := hrel
        obtain ⟨l0, l1, l2, l3⟩ := HBL.out.later hbr (by omega)
        obtain ⟨t0, t1⟩ := HBT.out.later hbr (by omega)
        have hsr := hbr.size
        by_cases hlt : k < v.l.length
        · obtain ⟨oa', ca', he, _, _, hel⟩ := (HR.out.later (hbr.mono hBW)).slice
          cases he
          obtain ⟨b, off, oe, ce, rfl, hb, e0, e1, hre⟩ := hel k _ (List.getElem?_eq_getElem hlt)
          have HRE := Lib.hid hre
          have HS := Lib.hid (any_at (usesT L input) v.l k hlt)
          have hle := T.mem_sizes (List.getElem_mem hlt)
          have hle2 : v.l[k].size ≤ 900 := by have := HSZ.out; omega
          have q0 : (0 : Int) ≤ (k : Int) := by omega
          have q1 : (k : Int) < (v.l.length : Int) := by omega
          have ql0 := fun d os => cell_regrown l0 d os
          have ql1 := fun d os => cell_regrown l1 d os
          have ql2 := fun d os => cell_regrown l2 d os
          have ql3 := fun d os => cell_regrown l3 d os
          have qt1 := fun d os => cell_regrown t1 d os
          have qe0 := fun d os => cell_regrown e0 d os
          have qe1 := fun d os => cell_regrown e1 d os
          have hBr : B ≤ wr.heap.size := by omega
          have rk := fun d os => Calls.regrown_of (ih v.l[k] (List.getElem_mem hlt) _ (grow (redrawn wr d) os) B ((HL.out.later (hbr.mono hBW)).later ((below_regrown wr d os).mono hBr)) (HRE.out.later ((below_regrown wr d os).mono hBr)) (Nat.le_trans hBr (below_regrown wr d os).size) hle2)
          clear hel hre hle
          cases hu : usesT L input v.l[k]
          · rw [hu] at rk HS
            clear hu
            go_wp2_with fail
            refine wp_region_quiet_below (by kernel_rfl) (by kernel_rfl) ?_
            repeat (quiet_step (first | with_reducible exact rk _ _))
            refine wpQuiet_nil ?_
            intro w' hw'
            obtain ⟨p, rfl⟩ := hw'
            clear ql0 ql1 ql2 ql3 qt1 qe0 qe1 rk e0 e1 t0 t1 l0 l1 l2 l3
            have hb5 := below_regrown wr p.d p.os
            generalize grow (redrawn wr p.d) p.os = w5 at *
            go_wp2_with fail
            go_roundw
            case rel => exact ⟨k + 1, hlt, by go_num, Lib.hid (by rw [← HD.out, HS.out]; rfl), hbr.trans (hb5.mono hsr)⟩
            case measure => simp [intOf]; omega
          · rw [hu] at rk HS
            clear hu
            go_wp2_with fail
            refine wp_region_quiet_below (by kernel_rfl) (by kernel_rfl) ?_
            repeat (quiet_step (first | with_reducible exact rk _ _))
            refine wpQuiet_nil ?_
            intro w' hw'
            obtain ⟨p, rfl⟩ := hw'
            clear ql0 ql1 ql2 ql3 qt1 qe0 qe1 rk e0 e1 t0 t1 l0 l1 l2 l3
            have hb5 := below_regrown wr p.d p.os
            generalize grow (redrawn wr p.d) p.os = w5 at *
            go_wp2_with fail
            go_ret
            exact ⟨ret_bool (by rw [HUT.out, HNO.out, ← HD.out, HS.out]; rfl), HBB.out.trans ((hbr.trans (hb5.mono hsr)).mono (by omega))⟩
        · go_wp2_with fail
          go_ret
          exact ⟨ret_bool (by rw [HUT.out, HNO.out, ← HD.out, List.drop_of_length_le (by omega)]; rfl), HBB.out.trans (hbr.mono (by omega))⟩
    · have hn0 : (0 : Int) ≤ v.r := by omega
      have hn1 : ¬ v.r < (L.rs.length : Int) := by omega
      clear hin
      obtain ⟨t0, t1⟩ := id HBT.out
      go_enter Try.func29, Try.ntmps29
      go_wp2_with fail
      clear t0 t1
      generalize (w.alloc (.cells #[.string L.nm, .slice o1 L.ins.length c1, .slice o2 L.sys.length c2, .slice o3 L.rs.length c3] 45)).alloc (.cells #[.int .i64 v.r, .slice oa v.l.length ca] 24) = W at *
      go_loopw [8] (fun i wr => ∃ k : Nat, k ≤ v.l.length ∧ i = .int .i64 k ∧ Hid ((v.l.drop k).any (usesT L input) = v.l.any (usesT L input)) ∧ Below W.heap.size W wr) (fun i _ => v.l.length - (intOf i).toNat)
      case atStart => exact ⟨0, Nat.zero_le _, rfl, rfl, Below.refl _ _⟩
      case round =>
        obtain ⟨k, hk, rfl, HD, hbr⟩ := hrel
        obtain ⟨l0, l1, l2, l3⟩ := HBL.out.later hbr (by omega)
        obtain ⟨t0, t1⟩ := HBT.out.later hbr (by omega)
        have hsr := hbr.size
        by_cases hlt : k < v.l.length
        · obtain ⟨oa', ca', he, _, _, hel⟩ := (HR.out.later (hbr.mono hBW)).slice
          cases he
          obtain ⟨b, off, oe, ce, rfl, hb, e0, e1, hre⟩ := hel k _ (List.getElem?_eq_getElem hlt)
          have HRE := Lib.hid hre
          have HS := Lib.hid (any_at (usesT L input) v.l k hlt)
          have hle := T.mem_sizes (List.getElem_mem hlt)
          have hle2 : v.l[k].size ≤ 900 := by have := HSZ.out; omega
          have q0 : (0 : Int) ≤ (k : Int) := by omega
          have q1 : (k : Int) < (v.l.length : Int) := by omega
          have ql0 := fun d os => cell_regrown l0 d os
          have ql1 := fun d os => cell_regrown l1 d os
          have ql2 := fun d os => cell_regrown l2 d os
          have ql3 := fun d os => cell_regrown l3 d os
          have qt1 := fun d os => cell_regrown t1 d os
          have qe0 := fun d os => cell_regrown e0 d os
          have qe1 := fun d os => cell_regrown e1 d os
          have hBr : B ≤ wr.heap.size := by omega
          have rk := fun d os => Calls.regrown_of (ih v.l[k] (List.getElem_mem hlt) _ (grow (redrawn wr d) os) B ((HL.out.later (hbr.mono hBW)).later ((below_regrown wr d os).mono hBr)) (HRE.out.later ((below_regrown wr d os).mono hBr)) (Nat.le_trans hBr (below_regrown wr d os).size) hle2)
          clear hel hre hle
          cases hu : usesT L input v.l[k]
          · rw [hu] at rk HS
            clear hu
            go_wp2_with fail
            refine wp_region_quiet_below (by kernel_rfl) (by kernel_rfl) ?_
            repeat (quiet_step (first | with_reducible exact rk _ _))
            refine wpQuiet_nil ?_
            intro w' hw'
            obtain ⟨p, rfl⟩ := hw'
            clear ql0 ql1 ql2 ql3 qt1 qe0 qe1 rk e0 e1 t0 t1 l0 l1 l2 l3
            have hb5 := below_regrown wr p.d p.os
            generalize grow (redrawn wr p.d) p.os = w5 at *
            go_wp2_with fail
            go_roundw
            case rel => exact ⟨k + 1, hlt, by go_num, Lib.hid (by rw [← HD.out, HS.out]; rfl), hbr.trans (hb5.mono hsr)⟩
            case measure => simp [intOf]; omega
          · rw [hu] at rk HS
            clear hu
            go_wp2_with fail
            refine wp_region_quiet_below (by kernel_rfl) (by kernel_rfl) ?_
            repeat (quiet_step (first | with_reducible exact rk _ _))
            refine wpQuiet_nil ?_
            intro w' hw'
            obtain ⟨p, rfl⟩ := hw'
            clear ql0 ql1 ql2 ql3 qt1 qe0 qe1 rk e0 e1 t0 t1 l0 l1 l2 l3
            have hb5 := below_regrown wr p.d p.os
            generalize grow (redrawn wr p.d) p.os = w5 at *
            go_wp2_with fail
            go_ret
            exact ⟨ret_bool (by rw [HUT.out, HNO.out, ← HD.out, HS.out]; rfl), HBB.out.trans ((hbr.trans (hb5.mono hsr)).mono (by omega))⟩
        · go_wp2_with fail
          go_ret
          exact ⟨ret_bool (by rw [HUT.out, HNO.out, ← HD.out, List.drop_of_length_le (by omega)]; rfl), HBB.out.trans (hbr.mono (by omega))⟩
  have hnl : v.r.toNat < L.rs.length := by omega
  have HUI := Lib.hid (usesI_at (input := input) hnl)
  rw [show ((v.r.toNat : Nat) : Int) = v.r by omega] at HUI
  obtain ⟨b0, off0, ho3, hb0, hRA⟩ := HUU.out.at_ (List.getElem?_eq_getElem hnl)
  obtain ⟨r0, r1, r2, r3, r4, r5, ⟨xi, r6, hi⟩, r7, ⟨xa, r8, ha⟩⟩ := hRA
  obtain ⟨oi, ci, rfl, _⟩ := hi.slice
  obtain ⟨og, cg, rfl, _, _⟩ : ∃ oa cap, xa = .slice oa L.rs[v.r.toNat].ags.length cap ∧ L.rs[v.r.toNat].ags.length ≤ cap ∧ cap ≤ 9223372036854775807 := by obtain ⟨a, b, c, d, e, _⟩ := ha; exact ⟨a, b, c, d, e⟩
  subst ho3
  have q00 : (0 : Int) ≤ v.r := by omega
  have q01 : v.r < (L.rs.length : Int) := by omega
  have q02 : ¬ v.r < 0 := by omega
  obtain ⟨t0, t1⟩ := id HBT.out
  clear hi ha hin
  by_cases hk : L.rs[v.r.toNat].k = 1
  · have hkb : (L.rs[v.r.toNat].k == 1) = true := by rw [hk]; rfl
    by_cases hii : L.rs[v.r.toNat].i = input
    · have HYE : Hid (usesI L input v.r = true) := Lib.hid (by rw [HUI.out, decide_eq_true hk, decide_eq_true hii]; rfl)
      have hib : (L.rs[v.r.toNat].i == input) = true := by rw [hii]; exact beq_self_eq_true _
      clear hk hii
      go_enter Try.func29, Try.ntmps29
      go_wp2_with fail
      go_ret
      exact ⟨ret_bool (by rw [HUT.out, HYE.out]; rfl), HBB.out.trans ((below1 _ _).mono (by simp; omega))⟩
    · have HNO : Hid (usesI L input v.r = false) := Lib.hid (by rw [HUI.out, decide_eq_true hk, decide_eq_false hii]; first | rfl | simp)
      have hib : (L.rs[v.r.toNat].i == input) = false := beq_eq_false_iff_ne.2 hii
      clear hk hii
      go_enter Try.func29, Try.ntmps29
      go_wp2_with fail
      clear r0 r1 r2 r3 r4 r5 r6 r7 r8 t0 t1
      generalize (w.alloc (.cells #[.string L.nm, .slice o1 L.ins.length c1, .slice o2 L.sys.length c2, .slice (some ⟨b0, off0, none⟩) L.rs.length c3] 45)).alloc (.cells #[.int .i64 v.r, .slice oa v.l.length ca] 24) = W at *
      go_loopw [8] (fun i wr => ∃ k : Nat, k ≤ v.l.length ∧ i = .int .i64 k ∧ Hid ((v.l.drop k).any (usesT L input) = v.l.any (usesT L input)) ∧ Below W.heap.size W wr) (fun i _ => v.l.length - (intOf i).toNat)
      case atStart => exact ⟨0, Nat.zero_le _, rfl, rfl, (Below.refl _ _).alloc (Nat.le_refl _) _⟩
      case round =>
        obtain ⟨k, hk, rfl, HD, hbr⟩ := hrel
        obtain ⟨l0, l1, l2, l3⟩ := HBL.out.later hbr (by omega)
        obtain ⟨t0, t1⟩ := HBT.out.later hbr (by omega)
        have hsr := hbr.size
        by_cases hlt : k < v.l.length
        · obtain ⟨oa', ca', he, _, _, hel⟩ := (HR.out.later (hbr.mono hBW)).slice
          cases he
          obtain ⟨b, off, oe, ce, rfl, hb, e0, e1, hre⟩ := hel k _ (List.getElem?_eq_getElem hlt)
          have HRE := Lib.hid hre
          have HS := Lib.hid (any_at (usesT L input) v.l k hlt)
          have hle := T.mem_sizes (List.getElem_mem hlt)
          have hle2 : v.l[k].size ≤ 900 := by have := HSZ.out; omega
          have q0 : (0 : Int) ≤ (k : Int) := by omega
          have q1 : (k : Int) < (v.l.length : Int) := by omega
          have ql0 := fun d os => cell_regrown l0 d os
          have ql1 := fun d os => cell_regrown l1 d os
          have ql2 := fun d os => cell_regrown l2 d os
          have ql3 := fun d os => cell_regrown l3 d os
          have qt1 := fun d os => cell_regrown t1 d os
          have qe0 := fun d os => cell_regrown e0 d os
          have qe1 := fun d os => cell_regrown e1 d os
          have hBr : B ≤ wr.heap.size := by omega
          have rk := fun d os => Calls.regrown_of (ih v.l[k] (List.getElem_mem hlt) _ (grow (redrawn wr d) os) B ((HL.out.later (hbr.mono hBW)).later ((below_regrown wr d os).mono hBr)) (HRE.out.later ((below_regrown wr d os).mono hBr)) (Nat.le_trans hBr (below_regrown wr d os).size) hle2)
          clear hel hre hle
          cases hu : usesT L input v.l[k]
          · rw [hu] at rk HS
            clear hu
            go_wp2_with fail
            refine wp_region_quiet_below (by kernel_rfl) (by kernel_rfl) ?_
            repeat (quiet_step (first | with_reducible exact rk _ _))
            refine wpQuiet_nil ?_
            intro w' hw'
            obtain ⟨p, rfl⟩ := hw'
            clear ql0 ql1 ql2 ql3 qt1 qe0 qe1 rk e0 e1 t0 t1 l0 l1 l2 l3
            have hb5 := below_regrown wr p.d p.os
            generalize grow (redrawn wr p.d) p.os = w5 at *
            go_wp2_with fail
            go_roundw
            case rel => exact ⟨k + 1, hlt, by go_num, Lib.hid (by rw [← HD.out, HS.out]; rfl), hbr.trans (hb5.mono hsr)⟩
            case measure => simp [intOf]; omega
          · rw [hu] at rk HS
            clear hu
            go_wp2_with fail
            refine wp_region_quiet_below (by kernel_rfl) (by kernel_rfl) ?_
            repeat (quiet_step (first | with_reducible exact rk _ _))
            refine wpQuiet_nil ?_
            intro w' hw'
            obtain ⟨p, rfl⟩ := hw'
            clear ql0 ql1 ql2 ql3 qt1 qe0 qe1 rk e0 e1 t0 t1 l0 l1 l2 l3
            have hb5 := below_regrown wr p.d p.os
            generalize grow (redrawn wr p.d) p.os = w5 at *
            go_wp2_with fail
            go_ret
            exact ⟨ret_bool (by rw [HUT.out, HNO.out, ← HD.out, HS.out]; rfl), HBB.out.trans ((hbr.trans (hb5.mono hsr)).mono (by omega))⟩
        · go_wp2_with fail
          go_ret
          exact ⟨ret_bool (by rw [HUT.out, HNO.out, ← HD.out, List.drop_of_length_le (by omega)]; rfl), HBB.out.trans (hbr.mono (by omega))⟩
  · have HNO : Hid (usesI L input v.r = false) := Lib.hid (by rw [HUI.out, decide_eq_false hk]; first | rfl | simp)
    have hkb : (L.rs[v.r.toNat].k == 1) = false := beq_eq_false_iff_ne.2 hk
    clear hk
    go_enter Try.func29, Try.ntmps29
    go_wp2_with fail
    clear r0 r1 r2 r3 r4 r5 r6 r7 r8 t0 t1
    generalize (w.alloc (.cells #[.string L.nm, .slice o1 L.ins.length c1, .slice o2 L.sys.length c2, .slice (some ⟨b0, off0, none⟩) L.rs.length c3] 45)).alloc (.cells #[.int .i64 v.r, .slice oa v.l.length ca] 24) = W at *
    go_loopw [8] (fun i wr => ∃ k : Nat, k ≤ v.l.length ∧ i = .int .i64 k ∧ Hid ((v.l.drop k).any (usesT L input) = v.l.any (usesT L input)) ∧ Below W.heap.size W wr) (fun i _ => v.l.length - (intOf i).toNat)
    case atStart => exact ⟨0, Nat.zero_le _, rfl, rfl, (Below.refl _ _).alloc (Nat.le_refl _) _⟩
    case round =>
      obtain ⟨k, hk, rfl, HD, hbr⟩ := hrel
      obtain ⟨l0, l1, l2, l3⟩ := HBL.out.later hbr (by omega)
      obtain ⟨t0, t1⟩ := HBT.out.later hbr (by omega)
      have hsr := hbr.size
      by_cases hlt : k < v.l.length
      · obtain ⟨oa', ca', he, _, _, hel⟩ := (HR.out.later (hbr.mono hBW)).slice
        cases he
        obtain ⟨b, off, oe, ce, rfl, hb, e0, e1, hre⟩ := hel k _ (List.getElem?_eq_getElem hlt)
        have HRE := Lib.hid hre
        have HS := Lib.hid (any_at (usesT L input) v.l k hlt)
        have hle := T.mem_sizes (List.getElem_mem hlt)
        have hle2 : v.l[k].size ≤ 900 := by have := HSZ.out; omega
        have q0 : (0 : Int) ≤ (k : Int) := by omega
        have q1 : (k : Int) < (v.l.length : Int) := by omega
        have ql0 := fun d os => cell_regrown l0 d os
        have ql1 := fun d os => cell_regrown l1 d os
        have ql2 := fun d os => cell_regrown l2 d os
        have ql3 := fun d os => cell_regrown l3 d os
        have qt1 := fun d os => cell_regrown t1 d os
        have qe0 := fun d os => cell_regrown e0 d os
        have qe1 := fun d os => cell_regrown e1 d os
        have hBr : B ≤ wr.heap.size := by omega
        have rk := fun d os => Calls.regrown_of (ih v.l[k] (List.getElem_mem hlt) _ (grow (redrawn wr d) os) B ((HL.out.later (hbr.mono hBW)).later ((below_regrown wr d os).mono hBr)) (HRE.out.later ((below_regrown wr d os).mono hBr)) (Nat.le_trans hBr (below_regrown wr d os).size) hle2)
        clear hel hre hle
        cases hu : usesT L input v.l[k]
        · rw [hu] at rk HS
          clear hu
          go_wp2_with fail
          refine wp_region_quiet_below (by kernel_rfl) (by kernel_rfl) ?_
          repeat (quiet_step (first | with_reducible exact rk _ _))
          refine wpQuiet_nil ?_
          intro w' hw'
          obtain ⟨p, rfl⟩ := hw'
          clear ql0 ql1 ql2 ql3 qt1 qe0 qe1 rk e0 e1 t0 t1 l0 l1 l2 l3
          have hb5 := below_regrown wr p.d p.os
          generalize grow (redrawn wr p.d) p.os = w5 at *
          go_wp2_with fail
          go_roundw
          case rel => exact ⟨k + 1, hlt, by go_num, Lib.hid (by rw [← HD.out, HS.out]; rfl), hbr.trans (hb5.mono hsr)⟩
          case measure => simp [intOf]; omega
        · rw [hu] at rk HS
          clear hu
          go_wp2_with fail
          refine wp_region_quiet_below (by kernel_rfl) (by kernel_rfl) ?_
          repeat (quiet_step (first | with_reducible exact rk _ _))
          refine wpQuiet_nil ?_
          intro w' hw'
          obtain ⟨p, rfl⟩ := hw'
          clear ql0 ql1 ql2 ql3 qt1 qe0 qe1 rk e0 e1 t0 t1 l0 l1 l2 l3
          have hb5 := below_regrown wr p.d p.os
          generalize grow (redrawn wr p.d) p.os = w5 at *
          go_wp2_with fail
          go_ret
          exact ⟨ret_bool (by rw [HUT.out, HNO.out, ← HD.out, HS.out]; rfl), HBB.out.trans ((hbr.trans (hb5.mono hsr)).mono (by omega))⟩
      · go_wp2_with fail
        go_ret
        exact ⟨ret_bool (by rw [HUT.out, HNO.out, ← HD.out, List.drop_of_length_le (by omega)]; rfl), HBB.out.trans (hbr.mono (by omega))⟩

end Go.Proofs.Ytdfhfljmcakilaa
