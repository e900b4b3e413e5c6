/-
  The walk of TermOrders. Nothing is assumed.
-/
import Derived.Test.YtdfhfljmcakilaaTmLaw0
import Derived.Lib.QuietBelow
import Derived.BigQuiet
namespace Go.Proofs.Ytdfhfljmcakilaa
open Go.RowKit
open Go.Sort (grow)

set_option maxRecDepth 100000 in
set_option maxHeartbeats 6400000 in
theorem lawOrders_any (a b c : T) (sa sb sc : Value) (w : World) (hra : Rep w w.heap.size sa a.l) (hrb : Rep w w.heap.size sb b.l) (hrc : Rep w w.heap.size sc c.l) :
    Calls Try.prog 5 #[.agg #[.int .i64 a.r, sa], .agg #[.int .i64 b.r, sb], .agg #[.int .i64 c.r, sc]] w fun e w' => e = .returned (.bool true) ∧ Below w.heap.size w w' := by
  have HRa := Lib.hid hra
  obtain ⟨oa, ca, rfl, _, _⟩ := hra.form
  clear hra
  have HRb := Lib.hid hrb
  obtain ⟨ob, cb, rfl, _, _⟩ := hrb.form
  clear hrb
  have HRc := Lib.hid hrc
  obtain ⟨oc, cc, rfl, _, _⟩ := hrc.form
  clear hrc
  have HB1 : Below w.heap.size w (((w.alloc (.cells #[.int .i64 a.r, .slice oa a.l.length ca] 24)).alloc (.cells #[.int .i64 b.r, .slice ob b.l.length cb] 24)).alloc (.cells #[.int .i64 c.r, .slice oc c.l.length cc] 24)) := below3 _ _ _ _
  have HBB : Below w.heap.size w ((((w.alloc (.cells #[.int .i64 a.r, .slice oa a.l.length ca] 24)).alloc (.cells #[.int .i64 b.r, .slice ob b.l.length cb] 24)).alloc (.cells #[.int .i64 c.r, .slice oc c.l.length cc] 24)).alloc (.cells #[.int .i64 a.r, .slice oa a.l.length ca, .int .i64 b.r, .slice ob b.l.length cb, .int .i64 c.r, .slice oc c.l.length cc] 24)) := HB1.alloc (by simp <;> omega) _
  have Ba : Box ((((w.alloc (.cells #[.int .i64 a.r, .slice oa a.l.length ca] 24)).alloc (.cells #[.int .i64 b.r, .slice ob b.l.length cb] 24)).alloc (.cells #[.int .i64 c.r, .slice oc c.l.length cc] 24)).alloc (.cells #[.int .i64 a.r, .slice oa a.l.length ca, .int .i64 b.r, .slice ob b.l.length cb, .int .i64 c.r, .slice oc c.l.length cc] 24)) (w.heap.size) a (.slice oa a.l.length ca) := by
    have h := Box.new (w := w) (n := w.heap.size) a (.slice oa a.l.length ca) 24 (by simp)
    exact h.later (B := w.heap.size + 1) ((((Below.refl _ _).alloc (by simp <;> omega) _).alloc (by simp <;> omega) _).alloc (by simp <;> omega) _) (by omega)
  have Bb : Box ((((w.alloc (.cells #[.int .i64 a.r, .slice oa a.l.length ca] 24)).alloc (.cells #[.int .i64 b.r, .slice ob b.l.length cb] 24)).alloc (.cells #[.int .i64 c.r, .slice oc c.l.length cc] 24)).alloc (.cells #[.int .i64 a.r, .slice oa a.l.length ca, .int .i64 b.r, .slice ob b.l.length cb, .int .i64 c.r, .slice oc c.l.length cc] 24)) (w.heap.size + 1) b (.slice ob b.l.length cb) := by
    have h := Box.new (w := (w.alloc (.cells #[.int .i64 a.r, .slice oa a.l.length ca] 24))) (n := w.heap.size + 1) b (.slice ob b.l.length cb) 24 (by simp)
    exact h.later (B := w.heap.size + 2) (((Below.refl _ _).alloc (by simp <;> omega) _).alloc (by simp <;> omega) _) (by omega)
  have Bc : Box ((((w.alloc (.cells #[.int .i64 a.r, .slice oa a.l.length ca] 24)).alloc (.cells #[.int .i64 b.r, .slice ob b.l.length cb] 24)).alloc (.cells #[.int .i64 c.r, .slice oc c.l.length cc] 24)).alloc (.cells #[.int .i64 a.r, .slice oa a.l.length ca, .int .i64 b.r, .slice ob b.l.length cb, .int .i64 c.r, .slice oc c.l.length cc] 24)) (w.heap.size + 2) c (.slice oc c.l.length cc) := by
    have h := Box.new (w := ((w.alloc (.cells #[.int .i64 a.r, .slice oa a.l.length ca] 24)).alloc (.cells #[.int .i64 b.r, .slice ob b.l.length cb] 24))) (n := w.heap.size + 2) c (.slice oc c.l.length cc) 24 (by simp)
    exact h.later (B := w.heap.size + 3) ((Below.refl _ _).alloc (by simp <;> omega) _) (by omega)
  have hzz : ((((w.alloc (.cells #[.int .i64 a.r, .slice oa a.l.length ca] 24)).alloc (.cells #[.int .i64 b.r, .slice ob b.l.length cb] 24)).alloc (.cells #[.int .i64 c.r, .slice oc c.l.length cc] 24)).alloc (.cells #[.int .i64 a.r, .slice oa a.l.length ca, .int .i64 b.r, .slice ob b.l.length cb, .int .i64 c.r, .slice oc c.l.length cc] 24)).heap.size = w.heap.size + 4 := by simp
  have hR1 := Rep.new3 (w := (((w.alloc (.cells #[.int .i64 a.r, .slice oa a.l.length ca] 24)).alloc (.cells #[.int .i64 b.r, .slice ob b.l.length cb] 24)).alloc (.cells #[.int .i64 c.r, .slice oc c.l.length cc] 24))) (B := w.heap.size) (t := 24) (C := w.heap.size + 4) (HRa.out.later HB1) (HRb.out.later HB1) (HRc.out.later HB1) (by simp <;> omega) (n := w.heap.size + 3) (by simp) (by omega)
  have HSM := Lib.hid (small_any [a, b, c] _ _ _ hR1 (by simp))
  rw [small_three] at HSM
  clear hR1 HB1
  have HRa := Lib.hid (HRa.out.later HBB)
  have HRb := Lib.hid (HRb.out.later HBB)
  have HRc := Lib.hid (HRc.out.later HBB)
  go_enter Try.func5, Try.ntmps5
  go_wp2_with fail
  generalize ((((w.alloc (.cells #[.int .i64 a.r, .slice oa a.l.length ca] 24)).alloc (.cells #[.int .i64 b.r, .slice ob b.l.length cb] 24)).alloc (.cells #[.int .i64 c.r, .slice oc c.l.length cc] 24)).alloc (.cells #[.int .i64 a.r, .slice oa a.l.length ca, .int .i64 b.r, .slice ob b.l.length cb, .int .i64 c.r, .slice oc c.l.length cc] 24)) = W at *
  refine HSM.out.mono ?_
  rintro e w1 ⟨rfl, hb1⟩
  have hBW : w.heap.size ≤ W.heap.size := by omega
  clear HSM
  by_cases hs : a.size ≤ 40 ∧ b.size ≤ 40 ∧ c.size ≤ 40
  case neg =>
    have hq : (decide (a.size ≤ 40) && (decide (b.size ≤ 40) && decide (c.size ≤ 40))) = false := by
      rw [Bool.eq_false_iff]
      intro h
      simp at h
      exact hs (by omega)
    rw [hq]
    go_wp2_with fail
    refine (alive_any w1).mono ?_
    rintro e w2 ⟨rfl, hb2⟩
    go_wp2_with fail
    go_ret
    exact ⟨rfl, HBB.trans ((hb1.trans (hb2.mono hb1.size)).mono (by omega))⟩
  have hq : (decide (a.size ≤ 40) && (decide (b.size ≤ 40) && decide (c.size ≤ 40))) = true := by
    simp
    omega
  rw [hq]
  clear hq
  obtain ⟨hsa, hsb, hsc⟩ := hs
  obtain ⟨a0, a1⟩ := Ba.later hb1 (by omega)
  have HRa1 := Lib.hid (HRa.out.later (hb1.mono hBW))
  obtain ⟨b0, b1⟩ := Bb.later hb1 (by omega)
  have HRb1 := Lib.hid (HRb.out.later (hb1.mono hBW))
  obtain ⟨c0, c1⟩ := Bc.later hb1 (by omega)
  have HRc1 := Lib.hid (HRc.out.later (hb1.mono hBW))
  have hW1 : w.heap.size ≤ w1.heap.size := Nat.le_trans hBW hb1.size
  obtain ⟨x, hx⟩ : ∃ x, a.cmp b = x := ⟨_, rfl⟩
  obtain ⟨y, hy⟩ : ∃ y, b.cmp c = y := ⟨_, rfl⟩
  obtain ⟨z, hz⟩ : ∃ z, a.cmp c = z := ⟨_, rfl⟩
  have HQ : Hid ((x ≤ 0 → y ≤ 0 → z ≤ 0) ∧ (0 ≤ x → 0 ≤ y → 0 ≤ z) ∧ (a.size < b.size → x = -1)) := by
    refine Lib.hid ⟨fun h1 h2 => ?_, fun h1 h2 => ?_, fun h => ?_⟩
    · rw [← hz]; exact T.cmp_trans (b := b) (by omega) (by omega)
    · have e1 := T.cmp_swap a b
      have e2 := T.cmp_swap b c
      have e3 := T.cmp_swap a c
      have := T.cmp_trans (a := c) (b := b) (c := a) (by omega) (by omega)
      omega
    · rw [← hx]; exact T.cmp_small h
  have hx3 : x = -1 ∨ x = 0 ∨ x = 1 := by have := T.cmp_range a b; omega
  have hy3 : y = -1 ∨ y = 0 ∨ y = 1 := by have := T.cmp_range b c; omega
  have hz3 : z = -1 ∨ z = 0 ∨ z = 1 := by have := T.cmp_range a c; omega
  have HKA : Hid (∀ (k : Nat) (hk : k < a.l.length), a.l[k].cmp a = -1 ∧ a.l[k].size ≤ 40) := Lib.hid (fun k hk => by
    have h1 := T.mem_sizes (List.getElem_mem hk)
    have h2 := a.size_eq
    exact ⟨T.cmp_small (by omega), by omega⟩)
  go_wp2_with fail
  have qa0 := fun d os => cell_regrown a0 d os
  have qa1 := fun d os => cell_regrown a1 d os
  have qb0 := fun d os => cell_regrown b0 d os
  have qb1 := fun d os => cell_regrown b1 d os
  have qc0 := fun d os => cell_regrown c0 d os
  have qc1 := fun d os => cell_regrown c1 d os
  have rab := fun d os => Calls.regrown_of (compare_any a b _ _ (grow (redrawn w1 d) os) w.heap.size (HRa1.out.later ((below_regrown w1 d os).mono hW1)) (HRb1.out.later ((below_regrown w1 d os).mono hW1)) (Nat.le_trans hW1 (below_regrown w1 d os).size) (by omega) (by omega))
  rw [hx] at rab
  have rbc := fun d os => Calls.regrown_of (compare_any b c _ _ (grow (redrawn w1 d) os) w.heap.size (HRb1.out.later ((below_regrown w1 d os).mono hW1)) (HRc1.out.later ((below_regrown w1 d os).mono hW1)) (Nat.le_trans hW1 (below_regrown w1 d os).size) (by omega) (by omega))
  rw [hy] at rbc
  have rac := fun d os => Calls.regrown_of (compare_any a c _ _ (grow (redrawn w1 d) os) w.heap.size (HRa1.out.later ((below_regrown w1 d os).mono hW1)) (HRc1.out.later ((below_regrown w1 d os).mono hW1)) (Nat.le_trans hW1 (below_regrown w1 d os).size) (by omega) (by omega))
  rw [hz] at rac
  refine wp_region_quiet_below (by kernel_rfl) (by kernel_rfl) ?_
  repeat (quiet_step (first | with_reducible exact rab _ _ | with_reducible exact rbc _ _ | with_reducible exact rac _ _))
  refine wpQuiet_nil ?_
  intro w' hw'
  obtain ⟨p, rfl⟩ := hw'
  clear qa0 qa1 qb0 qb1 qc0 qc1 rab rbc rac
  have hb4 := below_regrown w1 p.d p.os
  have hb2' : Below W.heap.size W (grow (redrawn w1 p.d) p.os) := hb1.trans (hb4.mono hb1.size)
  generalize grow (redrawn w1 p.d) p.os = w2 at *
  clear hb1 hb4 a0 a1 b0 b1 c0 c1 HRa1 HRb1 HRc1 hW1 hx hy hz
  obtain ⟨a0, a1⟩ := Ba.later hb2' (by omega)
  obtain ⟨b0, b1⟩ := Bb.later hb2' (by omega)
  have HRa1 := Lib.hid (HRa.out.later (hb2'.mono hBW))
  have HRb1 := Lib.hid (HRb.out.later (hb2'.mono hBW))
  have hW1 : w.heap.size ≤ w2.heap.size := Nat.le_trans hBW hb2'.size
  have HX3 := Lib.hid hx3
  have HY3 := Lib.hid hy3
  have HZ3 := Lib.hid hz3
  clear hx3 hy3 hz3
  go_wp2_with fail
  rcases HX3.out with rfl | rfl | rfl <;> rcases HY3.out with rfl | rfl | rfl <;> rcases HZ3.out with rfl | rfl | rfl
  · by_cases hsz : (a.size : Int) < b.size
    · have qa0 := fun d os => cell_regrown a0 d os
      have qa1 := fun d os => cell_regrown a1 d os
      have qb0 := fun d os => cell_regrown b0 d os
      have qb1 := fun d os => cell_regrown b1 d os
      have za := fun d os => Calls.regrown_of (size_any a _ (grow (redrawn w2 d) os) w.heap.size (HRa1.out.later ((below_regrown w2 d os).mono hW1)) (Nat.le_trans hW1 (below_regrown w2 d os).size) (by omega))
      have zb := fun d os => Calls.regrown_of (size_any b _ (grow (redrawn w2 d) os) w.heap.size (HRb1.out.later ((below_regrown w2 d os).mono hW1)) (Nat.le_trans hW1 (below_regrown w2 d os).size) (by omega))
      refine wp_region_quiet_below (by kernel_rfl) (by kernel_rfl) ?_
      repeat (quiet_step (first | with_reducible exact za _ _ | with_reducible exact zb _ _))
      refine wpQuiet_nil ?_
      intro w' hw'
      obtain ⟨p, rfl⟩ := hw'
      clear qa0 qa1 qb0 qb1 za zb hsz
      have hb4 := below_regrown w2 p.d p.os
      have hb3' : Below W.heap.size W (grow (redrawn w2 p.d) p.os) := hb2'.trans (hb4.mono hb2'.size)
      generalize grow (redrawn w2 p.d) p.os = w3 at *
      clear hb4 a0 a1 b0 b1 HRb1 hW1
      obtain ⟨a0, a1⟩ := Ba.later hb3' (by omega)
      go_wp2_with fail
      go_loopw [10] (fun i wr => ∃ k : Nat, k ≤ a.l.length ∧ i = .int .i64 k ∧ Below W.heap.size W wr) (fun i _ => a.l.length - (intOf i).toNat)
      case atStart => exact ⟨0, Nat.zero_le _, rfl, hb3'⟩
      case round =>
        obtain ⟨k, hk, rfl, hbr⟩ := hrel
        clear a0 a1
        obtain ⟨a0, a1⟩ := Ba.later hbr (by omega)
        by_cases hlt : k < a.l.length
        · obtain ⟨oa', ca', he, _, _, hel⟩ := (HRa.out.later (hbr.mono hBW)).slice
          obtain ⟨b', off, oe, ce, hoe, hbl, e0, e1, hre⟩ := hel k _ (List.getElem?_eq_getElem hlt)
          cases he
          subst hoe
          obtain ⟨hck, hsk⟩ := HKA.out k hlt
          have hW1 : w.heap.size ≤ wr.heap.size := Nat.le_trans hBW hbr.size
          have HRa1 := Lib.hid (HRa.out.later (hbr.mono hBW))
          have HRe1 := Lib.hid hre
          have qa0 := fun d os => cell_regrown a0 d os
          have qa1 := fun d os => cell_regrown a1 d os
          have qe0 := fun d os => cell_regrown e0 d os
          have qe1 := fun d os => cell_regrown e1 d os
          have rk := fun d os => Calls.regrown_of (compare_any a.l[k] a _ _ (grow (redrawn wr d) os) w.heap.size (HRe1.out.later ((below_regrown wr d os).mono hW1)) (HRa1.out.later ((below_regrown wr d os).mono hW1)) (Nat.le_trans hW1 (below_regrown wr d os).size) (by omega) (by omega))
          rw [hck] at rk
          have q0 : (0 : Int) ≤ (k : Int) := by omega
          have q1 : (k : Int) < (a.l.length : Int) := by omega
          clear hel hre hck hsk
          go_wp2_with fail
          refine wp_region_quiet_below (by kernel_rfl) (by kernel_rfl) ?_
          repeat (quiet_step (first | with_reducible exact rk _ _))
          refine wpQuiet_nil ?_
          intro w' hw'
          obtain ⟨p, rfl⟩ := hw'
          clear qa0 qa1 qe0 qe1 rk e0 e1 a0 a1
          have hb5 := below_regrown wr p.d p.os
          generalize grow (redrawn wr p.d) p.os = w5 at *
          go_wp2_with fail
          go_roundw
          case rel => exact ⟨k + 1, hlt, by go_num, hbr.trans (hb5.mono hbr.size)⟩
          case measure => simp [intOf]; omega
        · go_wp2_with fail
          refine (alive_any wr).mono ?_
          rintro e w6 ⟨rfl, hb6⟩
          go_wp2_with fail
          go_ret
          exact ⟨rfl, HBB.trans ((hbr.trans (hb6.mono hbr.size)).mono (by omega))⟩
    · have qa0 := fun d os => cell_regrown a0 d os
      have qa1 := fun d os => cell_regrown a1 d os
      have qb0 := fun d os => cell_regrown b0 d os
      have qb1 := fun d os => cell_regrown b1 d os
      have za := fun d os => Calls.regrown_of (size_any a _ (grow (redrawn w2 d) os) w.heap.size (HRa1.out.later ((below_regrown w2 d os).mono hW1)) (Nat.le_trans hW1 (below_regrown w2 d os).size) (by omega))
      have zb := fun d os => Calls.regrown_of (size_any b _ (grow (redrawn w2 d) os) w.heap.size (HRb1.out.later ((below_regrown w2 d os).mono hW1)) (Nat.le_trans hW1 (below_regrown w2 d os).size) (by omega))
      refine wp_region_quiet_below (by kernel_rfl) (by kernel_rfl) ?_
      repeat (quiet_step (first | with_reducible exact za _ _ | with_reducible exact zb _ _))
      refine wpQuiet_nil ?_
      intro w' hw'
      obtain ⟨p, rfl⟩ := hw'
      clear qa0 qa1 qb0 qb1 za zb hsz
      have hb4 := below_regrown w2 p.d p.os
      have hb3' : Below W.heap.size W (grow (redrawn w2 p.d) p.os) := hb2'.trans (hb4.mono hb2'.size)
      generalize grow (redrawn w2 p.d) p.os = w3 at *
      clear hb4 a0 a1 b0 b1 HRb1 hW1
      obtain ⟨a0, a1⟩ := Ba.later hb3' (by omega)
      go_wp2_with fail
      go_loopw [10] (fun i wr => ∃ k : Nat, k ≤ a.l.length ∧ i = .int .i64 k ∧ Below W.heap.size W wr) (fun i _ => a.l.length - (intOf i).toNat)
      case atStart => exact ⟨0, Nat.zero_le _, rfl, hb3'⟩
      case round =>
        obtain ⟨k, hk, rfl, hbr⟩ := hrel
        clear a0 a1
        obtain ⟨a0, a1⟩ := Ba.later hbr (by omega)
        by_cases hlt : k < a.l.length
        · obtain ⟨oa', ca', he, _, _, hel⟩ := (HRa.out.later (hbr.mono hBW)).slice
          obtain ⟨b', off, oe, ce, hoe, hbl, e0, e1, hre⟩ := hel k _ (List.getElem?_eq_getElem hlt)
          cases he
          subst hoe
          obtain ⟨hck, hsk⟩ := HKA.out k hlt
          have hW1 : w.heap.size ≤ wr.heap.size := Nat.le_trans hBW hbr.size
          have HRa1 := Lib.hid (HRa.out.later (hbr.mono hBW))
          have HRe1 := Lib.hid hre
          have qa0 := fun d os => cell_regrown a0 d os
          have qa1 := fun d os => cell_regrown a1 d os
          have qe0 := fun d os => cell_regrown e0 d os
          have qe1 := fun d os => cell_regrown e1 d os
          have rk := fun d os => Calls.regrown_of (compare_any a.l[k] a _ _ (grow (redrawn wr d) os) w.heap.size (HRe1.out.later ((below_regrown wr d os).mono hW1)) (HRa1.out.later ((below_regrown wr d os).mono hW1)) (Nat.le_trans hW1 (below_regrown wr d os).size) (by omega) (by omega))
          rw [hck] at rk
          have q0 : (0 : Int) ≤ (k : Int) := by omega
          have q1 : (k : Int) < (a.l.length : Int) := by omega
          clear hel hre hck hsk
          go_wp2_with fail
          refine wp_region_quiet_below (by kernel_rfl) (by kernel_rfl) ?_
          repeat (quiet_step (first | with_reducible exact rk _ _))
          refine wpQuiet_nil ?_
          intro w' hw'
          obtain ⟨p, rfl⟩ := hw'
          clear qa0 qa1 qe0 qe1 rk e0 e1 a0 a1
          have hb5 := below_regrown wr p.d p.os
          generalize grow (redrawn wr p.d) p.os = w5 at *
          go_wp2_with fail
          go_roundw
          case rel => exact ⟨k + 1, hlt, by go_num, hbr.trans (hb5.mono hbr.size)⟩
          case measure => simp [intOf]; omega
        · go_wp2_with fail
          refine (alive_any wr).mono ?_
          rintro e w6 ⟨rfl, hb6⟩
          go_wp2_with fail
          go_ret
          exact ⟨rfl, HBB.trans ((hbr.trans (hb6.mono hbr.size)).mono (by omega))⟩
  · by_cases hsz : (a.size : Int) < b.size
    · have qa0 := fun d os => cell_regrown a0 d os
      have qa1 := fun d os => cell_regrown a1 d os
      have qb0 := fun d os => cell_regrown b0 d os
      have qb1 := fun d os => cell_regrown b1 d os
      have za := fun d os => Calls.regrown_of (size_any a _ (grow (redrawn w2 d) os) w.heap.size (HRa1.out.later ((below_regrown w2 d os).mono hW1)) (Nat.le_trans hW1 (below_regrown w2 d os).size) (by omega))
      have zb := fun d os => Calls.regrown_of (size_any b _ (grow (redrawn w2 d) os) w.heap.size (HRb1.out.later ((below_regrown w2 d os).mono hW1)) (Nat.le_trans hW1 (below_regrown w2 d os).size) (by omega))
      refine wp_region_quiet_below (by kernel_rfl) (by kernel_rfl) ?_
      repeat (quiet_step (first | with_reducible exact za _ _ | with_reducible exact zb _ _))
      refine wpQuiet_nil ?_
      intro w' hw'
      obtain ⟨p, rfl⟩ := hw'
      clear qa0 qa1 qb0 qb1 za zb hsz
      have hb4 := below_regrown w2 p.d p.os
      have hb3' : Below W.heap.size W (grow (redrawn w2 p.d) p.os) := hb2'.trans (hb4.mono hb2'.size)
      generalize grow (redrawn w2 p.d) p.os = w3 at *
      clear hb4 a0 a1 b0 b1 HRb1 hW1
      obtain ⟨a0, a1⟩ := Ba.later hb3' (by omega)
      go_wp2_with fail
      go_loopw [10] (fun i wr => ∃ k : Nat, k ≤ a.l.length ∧ i = .int .i64 k ∧ Below W.heap.size W wr) (fun i _ => a.l.length - (intOf i).toNat)
      case atStart => exact ⟨0, Nat.zero_le _, rfl, hb3'⟩
      case round =>
        obtain ⟨k, hk, rfl, hbr⟩ := hrel
        clear a0 a1
        obtain ⟨a0, a1⟩ := Ba.later hbr (by omega)
        by_cases hlt : k < a.l.length
        · obtain ⟨oa', ca', he, _, _, hel⟩ := (HRa.out.later (hbr.mono hBW)).slice
          obtain ⟨b', off, oe, ce, hoe, hbl, e0, e1, hre⟩ := hel k _ (List.getElem?_eq_getElem hlt)
          cases he
          subst hoe
          obtain ⟨hck, hsk⟩ := HKA.out k hlt
          have hW1 : w.heap.size ≤ wr.heap.size := Nat.le_trans hBW hbr.size
          have HRa1 := Lib.hid (HRa.out.later (hbr.mono hBW))
          have HRe1 := Lib.hid hre
          have qa0 := fun d os => cell_regrown a0 d os
          have qa1 := fun d os => cell_regrown a1 d os
          have qe0 := fun d os => cell_regrown e0 d os
          have qe1 := fun d os => cell_regrown e1 d os
          have rk := fun d os => Calls.regrown_of (compare_any a.l[k] a _ _ (grow (redrawn wr d) os) w.heap.size (HRe1.out.later ((below_regrown wr d os).mono hW1)) (HRa1.out.later ((below_regrown wr d os).mono hW1)) (Nat.le_trans hW1 (below_regrown wr d os).size) (by omega) (by omega))
          rw [hck] at rk
          have q0 : (0 : Int) ≤ (k : Int) := by omega
          have q1 : (k : Int) < (a.l.length : Int) := by omega
          clear hel hre hck hsk
          go_wp2_with fail
          refine wp_region_quiet_below (by kernel_rfl) (by kernel_rfl) ?_
          repeat (quiet_step (first | with_reducible exact rk _ _))
          refine wpQuiet_nil ?_
          intro w' hw'
          obtain ⟨p, rfl⟩ := hw'
          clear qa0 qa1 qe0 qe1 rk e0 e1 a0 a1
          have hb5 := below_regrown wr p.d p.os
          generalize grow (redrawn wr p.d) p.os = w5 at *
          go_wp2_with fail
          go_roundw
          case rel => exact ⟨k + 1, hlt, by go_num, hbr.trans (hb5.mono hbr.size)⟩
          case measure => simp [intOf]; omega
        · go_wp2_with fail
          refine (alive_any wr).mono ?_
          rintro e w6 ⟨rfl, hb6⟩
          go_wp2_with fail
          go_ret
          exact ⟨rfl, HBB.trans ((hbr.trans (hb6.mono hbr.size)).mono (by omega))⟩
    · have qa0 := fun d os => cell_regrown a0 d os
      have qa1 := fun d os => cell_regrown a1 d os
      have qb0 := fun d os => cell_regrown b0 d os
      have qb1 := fun d os => cell_regrown b1 d os
      have za := fun d os => Calls.regrown_of (size_any a _ (grow (redrawn w2 d) os) w.heap.size (HRa1.out.later ((below_regrown w2 d os).mono hW1)) (Nat.le_trans hW1 (below_regrown w2 d os).size) (by omega))
      have zb := fun d os => Calls.regrown_of (size_any b _ (grow (redrawn w2 d) os) w.heap.size (HRb1.out.later ((below_regrown w2 d os).mono hW1)) (Nat.le_trans hW1 (below_regrown w2 d os).size) (by omega))
      refine wp_region_quiet_below (by kernel_rfl) (by kernel_rfl) ?_
      repeat (quiet_step (first | with_reducible exact za _ _ | with_reducible exact zb _ _))
      refine wpQuiet_nil ?_
      intro w' hw'
      obtain ⟨p, rfl⟩ := hw'
      clear qa0 qa1 qb0 qb1 za zb hsz
      have hb4 := below_regrown w2 p.d p.os
      have hb3' : Below W.heap.size W (grow (redrawn w2 p.d) p.os) := hb2'.trans (hb4.mono hb2'.size)
      generalize grow (redrawn w2 p.d) p.os = w3 at *
      clear hb4 a0 a1 b0 b1 HRb1 hW1
      obtain ⟨a0, a1⟩ := Ba.later hb3' (by omega)
      go_wp2_with fail
      go_loopw [10] (fun i wr => ∃ k : Nat, k ≤ a.l.length ∧ i = .int .i64 k ∧ Below W.heap.size W wr) (fun i _ => a.l.length - (intOf i).toNat)
      case atStart => exact ⟨0, Nat.zero_le _, rfl, hb3'⟩
      case round =>
        obtain ⟨k, hk, rfl, hbr⟩ := hrel
        clear a0 a1
        obtain ⟨a0, a1⟩ := Ba.later hbr (by omega)
        by_cases hlt : k < a.l.length
        · obtain ⟨oa', ca', he, _, _, hel⟩ := (HRa.out.later (hbr.mono hBW)).slice
          obtain ⟨b', off, oe, ce, hoe, hbl, e0, e1, hre⟩ := hel k _ (List.getElem?_eq_getElem hlt)
          cases he
          subst hoe
          obtain ⟨hck, hsk⟩ := HKA.out k hlt
          have hW1 : w.heap.size ≤ wr.heap.size := Nat.le_trans hBW hbr.size
          have HRa1 := Lib.hid (HRa.out.later (hbr.mono hBW))
          have HRe1 := Lib.hid hre
          have qa0 := fun d os => cell_regrown a0 d os
          have qa1 := fun d os => cell_regrown a1 d os
          have qe0 := fun d os => cell_regrown e0 d os
          have qe1 := fun d os => cell_regrown e1 d os
          have rk := fun d os => Calls.regrown_of (compare_any a.l[k] a _ _ (grow (redrawn wr d) os) w.heap.size (HRe1.out.later ((below_regrown wr d os).mono hW1)) (HRa1.out.later ((below_regrown wr d os).mono hW1)) (Nat.le_trans hW1 (below_regrown wr d os).size) (by omega) (by omega))
          rw [hck] at rk
          have q0 : (0 : Int) ≤ (k : Int) := by omega
          have q1 : (k : Int) < (a.l.length : Int) := by omega
          clear hel hre hck hsk
          go_wp2_with fail
          refine wp_region_quiet_below (by kernel_rfl) (by kernel_rfl) ?_
          repeat (quiet_step (first | with_reducible exact rk _ _))
          refine wpQuiet_nil ?_
          intro w' hw'
          obtain ⟨p, rfl⟩ := hw'
          clear qa0 qa1 qe0 qe1 rk e0 e1 a0 a1
          have hb5 := below_regrown wr p.d p.os
          generalize grow (redrawn wr p.d) p.os = w5 at *
          go_wp2_with fail
          go_roundw
          case rel => exact ⟨k + 1, hlt, by go_num, hbr.trans (hb5.mono hbr.size)⟩
          case measure => simp [intOf]; omega
        · go_wp2_with fail
          refine (alive_any wr).mono ?_
          rintro e w6 ⟨rfl, hb6⟩
          go_wp2_with fail
          go_ret
          exact ⟨rfl, HBB.trans ((hbr.trans (hb6.mono hbr.size)).mono (by omega))⟩
  · exfalso
    have := HQ.out
    omega
  · by_cases hsz : (a.size : Int) < b.size
    · have qa0 := fun d os => cell_regrown a0 d os
      have qa1 := fun d os => cell_regrown a1 d os
      have qb0 := fun d os => cell_regrown b0 d os
      have qb1 := fun d os => cell_regrown b1 d os
      have za := fun d os => Calls.regrown_of (size_any a _ (grow (redrawn w2 d) os) w.heap.size (HRa1.out.later ((below_regrown w2 d os).mono hW1)) (Nat.le_trans hW1 (below_regrown w2 d os).size) (by omega))
      have zb := fun d os => Calls.regrown_of (size_any b _ (grow (redrawn w2 d) os) w.heap.size (HRb1.out.later ((below_regrown w2 d os).mono hW1)) (Nat.le_trans hW1 (below_regrown w2 d os).size) (by omega))
      refine wp_region_quiet_below (by kernel_rfl) (by kernel_rfl) ?_
      repeat (quiet_step (first | with_reducible exact za _ _ | with_reducible exact zb _ _))
      refine wpQuiet_nil ?_
      intro w' hw'
      obtain ⟨p, rfl⟩ := hw'
      clear qa0 qa1 qb0 qb1 za zb hsz
      have hb4 := below_regrown w2 p.d p.os
      have hb3' : Below W.heap.size W (grow (redrawn w2 p.d) p.os) := hb2'.trans (hb4.mono hb2'.size)
      generalize grow (redrawn w2 p.d) p.os = w3 at *
      clear hb4 a0 a1 b0 b1 HRb1 hW1
      obtain ⟨a0, a1⟩ := Ba.later hb3' (by omega)
      go_wp2_with fail
      go_loopw [10] (fun i wr => ∃ k : Nat, k ≤ a.l.length ∧ i = .int .i64 k ∧ Below W.heap.size W wr) (fun i _ => a.l.length - (intOf i).toNat)
      case atStart => exact ⟨0, Nat.zero_le _, rfl, hb3'⟩
      case round =>
        obtain ⟨k, hk, rfl, hbr⟩ := hrel
        clear a0 a1
        obtain ⟨a0, a1⟩ := Ba.later hbr (by omega)
        by_cases hlt : k < a.l.length
        · obtain ⟨oa', ca', he, _, _, hel⟩ := (HRa.out.later (hbr.mono hBW)).slice
          obtain ⟨b', off, oe, ce, hoe, hbl, e0, e1, hre⟩ := hel k _ (List.getElem?_eq_getElem hlt)
          cases he
          subst hoe
          obtain ⟨hck, hsk⟩ := HKA.out k hlt
          have hW1 : w.heap.size ≤ wr.heap.size := Nat.le_trans hBW hbr.size
          have HRa1 := Lib.hid (HRa.out.later (hbr.mono hBW))
          have HRe1 := Lib.hid hre
          have qa0 := fun d os => cell_regrown a0 d os
          have qa1 := fun d os => cell_regrown a1 d os
          have qe0 := fun d os => cell_regrown e0 d os
          have qe1 := fun d os => cell_regrown e1 d os
          have rk := fun d os => Calls.regrown_of (compare_any a.l[k] a _ _ (grow (redrawn wr d) os) w.heap.size (HRe1.out.later ((below_regrown wr d os).mono hW1)) (HRa1.out.later ((below_regrown wr d os).mono hW1)) (Nat.le_trans hW1 (below_regrown wr d os).size) (by omega) (by omega))
          rw [hck] at rk
          have q0 : (0 : Int) ≤ (k : Int) := by omega
          have q1 : (k : Int) < (a.l.length : Int) := by omega
          clear hel hre hck hsk
          go_wp2_with fail
          refine wp_region_quiet_below (by kernel_rfl) (by kernel_rfl) ?_
          repeat (quiet_step (first | with_reducible exact rk _ _))
          refine wpQuiet_nil ?_
          intro w' hw'
          obtain ⟨p, rfl⟩ := hw'
          clear qa0 qa1 qe0 qe1 rk e0 e1 a0 a1
          have hb5 := below_regrown wr p.d p.os
          generalize grow (redrawn wr p.d) p.os = w5 at *
          go_wp2_with fail
          go_roundw
          case rel => exact ⟨k + 1, hlt, by go_num, hbr.trans (hb5.mono hbr.size)⟩
          case measure => simp [intOf]; omega
        · go_wp2_with fail
          refine (alive_any wr).mono ?_
          rintro e w6 ⟨rfl, hb6⟩
          go_wp2_with fail
          go_ret
          exact ⟨rfl, HBB.trans ((hbr.trans (hb6.mono hbr.size)).mono (by omega))⟩
    · have qa0 := fun d os => cell_regrown a0 d os
      have qa1 := fun d os => cell_regrown a1 d os
      have qb0 := fun d os => cell_regrown b0 d os
      have qb1 := fun d os => cell_regrown b1 d os
      have za := fun d os => Calls.regrown_of (size_any a _ (grow (redrawn w2 d) os) w.heap.size (HRa1.out.later ((below_regrown w2 d os).mono hW1)) (Nat.le_trans hW1 (below_regrown w2 d os).size) (by omega))
      have zb := fun d os => Calls.regrown_of (size_any b _ (grow (redrawn w2 d) os) w.heap.size (HRb1.out.later ((below_regrown w2 d os).mono hW1)) (Nat.le_trans hW1 (below_regrown w2 d os).size) (by omega))
      refine wp_region_quiet_below (by kernel_rfl) (by kernel_rfl) ?_
      repeat (quiet_step (first | with_reducible exact za _ _ | with_reducible exact zb _ _))
      refine wpQuiet_nil ?_
      intro w' hw'
      obtain ⟨p, rfl⟩ := hw'
      clear qa0 qa1 qb0 qb1 za zb hsz
      have hb4 := below_regrown w2 p.d p.os
      have hb3' : Below W.heap.size W (grow (redrawn w2 p.d) p.os) := hb2'.trans (hb4.mono hb2'.size)
      generalize grow (redrawn w2 p.d) p.os = w3 at *
      clear hb4 a0 a1 b0 b1 HRb1 hW1
      obtain ⟨a0, a1⟩ := Ba.later hb3' (by omega)
      go_wp2_with fail
      go_loopw [10] (fun i wr => ∃ k : Nat, k ≤ a.l.length ∧ i = .int .i64 k ∧ Below W.heap.size W wr) (fun i _ => a.l.length - (intOf i).toNat)
      case atStart => exact ⟨0, Nat.zero_le _, rfl, hb3'⟩
      case round =>
        obtain ⟨k, hk, rfl, hbr⟩ := hrel
        clear a0 a1
        obtain ⟨a0, a1⟩ := Ba.later hbr (by omega)
        by_cases hlt : k < a.l.length
        · obtain ⟨oa', ca', he, _, _, hel⟩ := (HRa.out.later (hbr.mono hBW)).slice
          obtain ⟨b', off, oe, ce, hoe, hbl, e0, e1, hre⟩ := hel k _ (List.getElem?_eq_getElem hlt)
          cases he
          subst hoe
          obtain ⟨hck, hsk⟩ := HKA.out k hlt
          have hW1 : w.heap.size ≤ wr.heap.size := Nat.le_trans hBW hbr.size
          have HRa1 := Lib.hid (HRa.out.later (hbr.mono hBW))
          have HRe1 := Lib.hid hre
          have qa0 := fun d os => cell_regrown a0 d os
          have qa1 := fun d os => cell_regrown a1 d os
          have qe0 := fun d os => cell_regrown e0 d os
          have qe1 := fun d os => cell_regrown e1 d os
          have rk := fun d os => Calls.regrown_of (compare_any a.l[k] a _ _ (grow (redrawn wr d) os) w.heap.size (HRe1.out.later ((below_regrown wr d os).mono hW1)) (HRa1.out.later ((below_regrown wr d os).mono hW1)) (Nat.le_trans hW1 (below_regrown wr d os).size) (by omega) (by omega))
          rw [hck] at rk
          have q0 : (0 : Int) ≤ (k : Int) := by omega
          have q1 : (k : Int) < (a.l.length : Int) := by omega
          clear hel hre hck hsk
          go_wp2_with fail
          refine wp_region_quiet_below (by kernel_rfl) (by kernel_rfl) ?_
          repeat (quiet_step (first | with_reducible exact rk _ _))
          refine wpQuiet_nil ?_
          intro w' hw'
          obtain ⟨p, rfl⟩ := hw'
          clear qa0 qa1 qe0 qe1 rk e0 e1 a0 a1
          have hb5 := below_regrown wr p.d p.os
          generalize grow (redrawn wr p.d) p.os = w5 at *
          go_wp2_with fail
          go_roundw
          case rel => exact ⟨k + 1, hlt, by go_num, hbr.trans (hb5.mono hbr.size)⟩
          case measure => simp [intOf]; omega
        · go_wp2_with fail
          refine (alive_any wr).mono ?_
          rintro e w6 ⟨rfl, hb6⟩
          go_wp2_with fail
          go_ret
          exact ⟨rfl, HBB.trans ((hbr.trans (hb6.mono hbr.size)).mono (by omega))⟩
  · by_cases hsz : (a.size : Int) < b.size
    · have qa0 := fun d os => cell_regrown a0 d os
      have qa1 := fun d os => cell_regrown a1 d os
      have qb0 := fun d os => cell_regrown b0 d os
      have qb1 := fun d os => cell_regrown b1 d os
      have za := fun d os => Calls.regrown_of (size_any a _ (grow (redrawn w2 d) os) w.heap.size (HRa1.out.later ((below_regrown w2 d os).mono hW1)) (Nat.le_trans hW1 (below_regrown w2 d os).size) (by omega))
      have zb := fun d os => Calls.regrown_of (size_any b _ (grow (redrawn w2 d) os) w.heap.size (HRb1.out.later ((below_regrown w2 d os).mono hW1)) (Nat.le_trans hW1 (below_regrown w2 d os).size) (by omega))
      refine wp_region_quiet_below (by kernel_rfl) (by kernel_rfl) ?_
      repeat (quiet_step (first | with_reducible exact za _ _ | with_reducible exact zb _ _))
      refine wpQuiet_nil ?_
      intro w' hw'
      obtain ⟨p, rfl⟩ := hw'
      clear qa0 qa1 qb0 qb1 za zb hsz
      have hb4 := below_regrown w2 p.d p.os
      have hb3' : Below W.heap.size W (grow (redrawn w2 p.d) p.os) := hb2'.trans (hb4.mono hb2'.size)
      generalize grow (redrawn w2 p.d) p.os = w3 at *
      clear hb4 a0 a1 b0 b1 HRb1 hW1
      obtain ⟨a0, a1⟩ := Ba.later hb3' (by omega)
      go_wp2_with fail
      go_loopw [10] (fun i wr => ∃ k : Nat, k ≤ a.l.length ∧ i = .int .i64 k ∧ Below W.heap.size W wr) (fun i _ => a.l.length - (intOf i).toNat)
      case atStart => exact ⟨0, Nat.zero_le _, rfl, hb3'⟩
      case round =>
        obtain ⟨k, hk, rfl, hbr⟩ := hrel
        clear a0 a1
        obtain ⟨a0, a1⟩ := Ba.later hbr (by omega)
        by_cases hlt : k < a.l.length
        · obtain ⟨oa', ca', he, _, _, hel⟩ := (HRa.out.later (hbr.mono hBW)).slice
          obtain ⟨b', off, oe, ce, hoe, hbl, e0, e1, hre⟩ := hel k _ (List.getElem?_eq_getElem hlt)
          cases he
          subst hoe
          obtain ⟨hck, hsk⟩ := HKA.out k hlt
          have hW1 : w.heap.size ≤ wr.heap.size := Nat.le_trans hBW hbr.size
          have HRa1 := Lib.hid (HRa.out.later (hbr.mono hBW))
          have HRe1 := Lib.hid hre
          have qa0 := fun d os => cell_regrown a0 d os
          have qa1 := fun d os => cell_regrown a1 d os
          have qe0 := fun d os => cell_regrown e0 d os
          have qe1 := fun d os => cell_regrown e1 d os
          have rk := fun d os => Calls.regrown_of (compare_any a.l[k] a _ _ (grow (redrawn wr d) os) w.heap.size (HRe1.out.later ((below_regrown wr d os).mono hW1)) (HRa1.out.later ((below_regrown wr d os).mono hW1)) (Nat.le_trans hW1 (below_regrown wr d os).size) (by omega) (by omega))
          rw [hck] at rk
          have q0 : (0 : Int) ≤ (k : Int) := by omega
          have q1 : (k : Int) < (a.l.length : Int) := by omega
          clear hel hre hck hsk
          go_wp2_with fail
          refine wp_region_quiet_below (by kernel_rfl) (by kernel_rfl) ?_
          repeat (quiet_step (first | with_reducible exact rk _ _))
          refine wpQuiet_nil ?_
          intro w' hw'
          obtain ⟨p, rfl⟩ := hw'
          clear qa0 qa1 qe0 qe1 rk e0 e1 a0 a1
          have hb5 := below_regrown wr p.d p.os
          generalize grow (redrawn wr p.d) p.os = w5 at *
          go_wp2_with fail
          go_roundw
          case rel => exact ⟨k + 1, hlt, by go_num, hbr.trans (hb5.mono hbr.size)⟩
          case measure => simp [intOf]; omega
        · go_wp2_with fail
          refine (alive_any wr).mono ?_
          rintro e w6 ⟨rfl, hb6⟩
          go_wp2_with fail
          go_ret
          exact ⟨rfl, HBB.trans ((hbr.trans (hb6.mono hbr.size)).mono (by omega))⟩
    · have qa0 := fun d os => cell_regrown a0 d os
      have qa1 := fun d os => cell_regrown a1 d os
      have qb0 := fun d os => cell_regrown b0 d os
      have qb1 := fun d os => cell_regrown b1 d os
      have za := fun d os => Calls.regrown_of (size_any a _ (grow (redrawn w2 d) os) w.heap.size (HRa1.out.later ((below_regrown w2 d os).mono hW1)) (Nat.le_trans hW1 (below_regrown w2 d os).size) (by omega))
      have zb := fun d os => Calls.regrown_of (size_any b _ (grow (redrawn w2 d) os) w.heap.size (HRb1.out.later ((below_regrown w2 d os).mono hW1)) (Nat.le_trans hW1 (below_regrown w2 d os).size) (by omega))
      refine wp_region_quiet_below (by kernel_rfl) (by kernel_rfl) ?_
      repeat (quiet_step (first | with_reducible exact za _ _ | with_reducible exact zb _ _))
      refine wpQuiet_nil ?_
      intro w' hw'
      obtain ⟨p, rfl⟩ := hw'
      clear qa0 qa1 qb0 qb1 za zb hsz
      have hb4 := below_regrown w2 p.d p.os
      have hb3' : Below W.heap.size W (grow (redrawn w2 p.d) p.os) := hb2'.trans (hb4.mono hb2'.size)
      generalize grow (redrawn w2 p.d) p.os = w3 at *
      clear hb4 a0 a1 b0 b1 HRb1 hW1
      obtain ⟨a0, a1⟩ := Ba.later hb3' (by omega)
      go_wp2_with fail
      go_loopw [10] (fun i wr => ∃ k : Nat, k ≤ a.l.length ∧ i = .int .i64 k ∧ Below W.heap.size W wr) (fun i _ => a.l.length - (intOf i).toNat)
      case atStart => exact ⟨0, Nat.zero_le _, rfl, hb3'⟩
      case round =>
        obtain ⟨k, hk, rfl, hbr⟩ := hrel
        clear a0 a1
        obtain ⟨a0, a1⟩ := Ba.later hbr (by omega)
        by_cases hlt : k < a.l.length
        · obtain ⟨oa', ca', he, _, _, hel⟩ := (HRa.out.later (hbr.mono hBW)).slice
          obtain ⟨b', off, oe, ce, hoe, hbl, e0, e1, hre⟩ := hel k _ (List.getElem?_eq_getElem hlt)
          cases he
          subst hoe
          obtain ⟨hck, hsk⟩ := HKA.out k hlt
          have hW1 : w.heap.size ≤ wr.heap.size := Nat.le_trans hBW hbr.size
          have HRa1 := Lib.hid (HRa.out.later (hbr.mono hBW))
          have HRe1 := Lib.hid hre
          have qa0 := fun d os => cell_regrown a0 d os
          have qa1 := fun d os => cell_regrown a1 d os
          have qe0 := fun d os => cell_regrown e0 d os
          have qe1 := fun d os => cell_regrown e1 d os
          have rk := fun d os => Calls.regrown_of (compare_any a.l[k] a _ _ (grow (redrawn wr d) os) w.heap.size (HRe1.out.later ((below_regrown wr d os).mono hW1)) (HRa1.out.later ((below_regrown wr d os).mono hW1)) (Nat.le_trans hW1 (below_regrown wr d os).size) (by omega) (by omega))
          rw [hck] at rk
          have q0 : (0 : Int) ≤ (k : Int) := by omega
          have q1 : (k : Int) < (a.l.length : Int) := by omega
          clear hel hre hck hsk
          go_wp2_with fail
          refine wp_region_quiet_below (by kernel_rfl) (by kernel_rfl) ?_
          repeat (quiet_step (first | with_reducible exact rk _ _))
          refine wpQuiet_nil ?_
          intro w' hw'
          obtain ⟨p, rfl⟩ := hw'
          clear qa0 qa1 qe0 qe1 rk e0 e1 a0 a1
          have hb5 := below_regrown wr p.d p.os
          generalize grow (redrawn wr p.d) p.os = w5 at *
          go_wp2_with fail
          go_roundw
          case rel => exact ⟨k + 1, hlt, by go_num, hbr.trans (hb5.mono hbr.size)⟩
          case measure => simp [intOf]; omega
        · go_wp2_with fail
          refine (alive_any wr).mono ?_
          rintro e w6 ⟨rfl, hb6⟩
          go_wp2_with fail
          go_ret
          exact ⟨rfl, HBB.trans ((hbr.trans (hb6.mono hbr.size)).mono (by omega))⟩
  · exfalso
    have := HQ.out
    omega
  · by_cases hsz : (a.size : Int) < b.size
    · have qa0 := fun d os => cell_regrown a0 d os
      have qa1 := fun d os => cell_regrown a1 d os
      have qb0 := fun d os => cell_regrown b0 d os
      have qb1 := fun d os => cell_regrown b1 d os
      have za := fun d os => Calls.regrown_of (size_any a _ (grow (redrawn w2 d) os) w.heap.size (HRa1.out.later ((below_regrown w2 d os).mono hW1)) (Nat.le_trans hW1 (below_regrown w2 d os).size) (by omega))
      have zb := fun d os => Calls.regrown_of (size_any b _ (grow (redrawn w2 d) os) w.heap.size (HRb1.out.later ((below_regrown w2 d os).mono hW1)) (Nat.le_trans hW1 (below_regrown w2 d os).size) (by omega))
      refine wp_region_quiet_below (by kernel_rfl) (by kernel_rfl) ?_
      repeat (quiet_step (first | with_reducible exact za _ _ | with_reducible exact zb _ _))
      refine wpQuiet_nil ?_
      intro w' hw'
      obtain ⟨p, rfl⟩ := hw'
      clear qa0 qa1 qb0 qb1 za zb hsz
      have hb4 := below_regrown w2 p.d p.os
      have hb3' : Below W.heap.size W (grow (redrawn w2 p.d) p.os) := hb2'.trans (hb4.mono hb2'.size)
      generalize grow (redrawn w2 p.d) p.os = w3 at *
      clear hb4 a0 a1 b0 b1 HRb1 hW1
      obtain ⟨a0, a1⟩ := Ba.later hb3' (by omega)
      go_wp2_with fail
      go_loopw [10] (fun i wr => ∃ k : Nat, k ≤ a.l.length ∧ i = .int .i64 k ∧ Below W.heap.size W wr) (fun i _ => a.l.length - (intOf i).toNat)
      case atStart => exact ⟨0, Nat.zero_le _, rfl, hb3'⟩
      case round =>
        obtain ⟨k, hk, rfl, hbr⟩ := hrel
        clear a0 a1
        obtain ⟨a0, a1⟩ := Ba.later hbr (by omega)
        by_cases hlt : k < a.l.length
        · obtain ⟨oa', ca', he, _, _, hel⟩ := (HRa.out.later (hbr.mono hBW)).slice
          obtain ⟨b', off, oe, ce, hoe, hbl, e0, e1, hre⟩ := hel k _ (List.getElem?_eq_getElem hlt)
          cases he
          subst hoe
          obtain ⟨hck, hsk⟩ := HKA.out k hlt
          have hW1 : w.heap.size ≤ wr.heap.size := Nat.le_trans hBW hbr.size
          have HRa1 := Lib.hid (HRa.out.later (hbr.mono hBW))
          have HRe1 := Lib.hid hre
          have qa0 := fun d os => cell_regrown a0 d os
          have qa1 := fun d os => cell_regrown a1 d os
          have qe0 := fun d os => cell_regrown e0 d os
          have qe1 := fun d os => cell_regrown e1 d os
          have rk := fun d os => Calls.regrown_of (compare_any a.l[k] a _ _ (grow (redrawn wr d) os) w.heap.size (HRe1.out.later ((below_regrown wr d os).mono hW1)) (HRa1.out.later ((below_regrown wr d os).mono hW1)) (Nat.le_trans hW1 (below_regrown wr d os).size) (by omega) (by omega))
          rw [hck] at rk
          have q0 : (0 : Int) ≤ (k : Int) := by omega
          have q1 : (k : Int) < (a.l.length : Int) := by omega
          clear hel hre hck hsk
          go_wp2_with fail
          refine wp_region_quiet_below (by kernel_rfl) (by kernel_rfl) ?_
          repeat (quiet_step (first | with_reducible exact rk _ _))
          refine wpQuiet_nil ?_
          intro w' hw'
          obtain ⟨p, rfl⟩ := hw'
          clear qa0 qa1 qe0 qe1 rk e0 e1 a0 a1
          have hb5 := below_regrown wr p.d p.os
          generalize grow (redrawn wr p.d) p.os = w5 at *
          go_wp2_with fail
          go_roundw
          case rel => exact ⟨k + 1, hlt, by go_num, hbr.trans (hb5.mono hbr.size)⟩
          case measure => simp [intOf]; omega
        · go_wp2_with fail
          refine (alive_any wr).mono ?_
          rintro e w6 ⟨rfl, hb6⟩
          go_wp2_with fail
          go_ret
          exact ⟨rfl, HBB.trans ((hbr.trans (hb6.mono hbr.size)).mono (by omega))⟩
    · have qa0 := fun d os => cell_regrown a0 d os
      have qa1 := fun d os => cell_regrown a1 d os
      have qb0 := fun d os => cell_regrown b0 d os
      have qb1 := fun d os => cell_regrown b1 d os
      have za := fun d os => Calls.regrown_of (size_any a _ (grow (redrawn w2 d) os) w.heap.size (HRa1.out.later ((below_regrown w2 d os).mono hW1)) (Nat.le_trans hW1 (below_regrown w2 d os).size) (by omega))
      have zb := fun d os => Calls.regrown_of (size_any b _ (grow (redrawn w2 d) os) w.heap.size (HRb1.out.later ((below_regrown w2 d os).mono hW1)) (Nat.le_trans hW1 (below_regrown w2 d os).size) (by omega))
      refine wp_region_quiet_below (by kernel_rfl) (by kernel_rfl) ?_
      repeat (quiet_step (first | with_reducible exact za _ _ | with_reducible exact zb _ _))
      refine wpQuiet_nil ?_
      intro w' hw'
      obtain ⟨p, rfl⟩ := hw'
      clear qa0 qa1 qb0 qb1 za zb hsz
      have hb4 := below_regrown w2 p.d p.os
      have hb3' : Below W.heap.size W (grow (redrawn w2 p.d) p.os) := hb2'.trans (hb4.mono hb2'.size)
      generalize grow (redrawn w2 p.d) p.os = w3 at *
      clear hb4 a0 a1 b0 b1 HRb1 hW1
      obtain ⟨a0, a1⟩ := Ba.later hb3' (by omega)
      go_wp2_with fail
      go_loopw [10] (fun i wr => ∃ k : Nat, k ≤ a.l.length ∧ i = .int .i64 k ∧ Below W.heap.size W wr) (fun i _ => a.l.length - (intOf i).toNat)
      case atStart => exact ⟨0, Nat.zero_le _, rfl, hb3'⟩
      case round =>
        obtain ⟨k, hk, rfl, hbr⟩ := hrel
        clear a0 a1
        obtain ⟨a0, a1⟩ := Ba.later hbr (by omega)
        by_cases hlt : k < a.l.length
        · obtain ⟨oa', ca', he, _, _, hel⟩ := (HRa.out.later (hbr.mono hBW)).slice
          obtain ⟨b', off, oe, ce, hoe, hbl, e0, e1, hre⟩ := hel k _ (List.getElem?_eq_getElem hlt)
          cases he
          subst hoe
          obtain ⟨hck, hsk⟩ := HKA.out k hlt
          have hW1 : w.heap.size ≤ wr.heap.size := Nat.le_trans hBW hbr.size
          have HRa1 := Lib.hid (HRa.out.later (hbr.mono hBW))
          have HRe1 := Lib.hid hre
          have qa0 := fun d os => cell_regrown a0 d os
          have qa1 := fun d os => cell_regrown a1 d os
          have qe0 := fun d os => cell_regrown e0 d os
          have qe1 := fun d os => cell_regrown e1 d os
          have rk := fun d os => Calls.regrown_of (compare_any a.l[k] a _ _ (grow (redrawn wr d) os) w.heap.size (HRe1.out.later ((below_regrown wr d os).mono hW1)) (HRa1.out.later ((below_regrown wr d os).mono hW1)) (Nat.le_trans hW1 (below_regrown wr d os).size) (by omega) (by omega))
          rw [hck] at rk
          have q0 : (0 : Int) ≤ (k : Int) := by omega
          have q1 : (k : Int) < (a.l.length : Int) := by omega
          clear hel hre hck hsk
          go_wp2_with fail
          refine wp_region_quiet_below (by kernel_rfl) (by kernel_rfl) ?_
          repeat (quiet_step (first | with_reducible exact rk _ _))
          refine wpQuiet_nil ?_
          intro w' hw'
          obtain ⟨p, rfl⟩ := hw'
          clear qa0 qa1 qe0 qe1 rk e0 e1 a0 a1
          have hb5 := below_regrown wr p.d p.os
          generalize grow (redrawn wr p.d) p.os = w5 at *
          go_wp2_with fail
          go_roundw
          case rel => exact ⟨k + 1, hlt, by go_num, hbr.trans (hb5.mono hbr.size)⟩
          case measure => simp [intOf]; omega
        · go_wp2_with fail
          refine (alive_any wr).mono ?_
          rintro e w6 ⟨rfl, hb6⟩
          go_wp2_with fail
          go_ret
          exact ⟨rfl, HBB.trans ((hbr.trans (hb6.mono hbr.size)).mono (by omega))⟩
  · by_cases hsz : (a.size : Int) < b.size
    · have qa0 := fun d os => cell_regrown a0 d os
      have qa1 := fun d os => cell_regrown a1 d os
      have qb0 := fun d os => cell_regrown b0 d os
      have qb1 := fun d os => cell_regrown b1 d os
      have za := fun d os => Calls.regrown_of (size_any a _ (grow (redrawn w2 d) os) w.heap.size (HRa1.out.later ((below_regrown w2 d os).mono hW1)) (Nat.le_trans hW1 (below_regrown w2 d os).size) (by omega))
      have zb := fun d os => Calls.regrown_of (size_any b _ (grow (redrawn w2 d) os) w.heap.size (HRb1.out.later ((below_regrown w2 d os).mono hW1)) (Nat.le_trans hW1 (below_regrown w2 d os).size) (by omega))
      refine wp_region_quiet_below (by kernel_rfl) (by kernel_rfl) ?_
      repeat (quiet_step (first | with_reducible exact za _ _ | with_reducible exact zb _ _))
      refine wpQuiet_nil ?_
      intro w' hw'
      obtain ⟨p, rfl⟩ := hw'
      clear qa0 qa1 qb0 qb1 za zb hsz
      have hb4 := below_regrown w2 p.d p.os
      have hb3' : Below W.heap.size W (grow (redrawn w2 p.d) p.os) := hb2'.trans (hb4.mono hb2'.size)
      generalize grow (redrawn w2 p.d) p.os = w3 at *
      clear hb4 a0 a1 b0 b1 HRb1 hW1
      obtain ⟨a0, a1⟩ := Ba.later hb3' (by omega)
      go_wp2_with fail
      go_loopw [10] (fun i wr => ∃ k : Nat, k ≤ a.l.length ∧ i = .int .i64 k ∧ Below W.heap.size W wr) (fun i _ => a.l.length - (intOf i).toNat)
      case atStart => exact ⟨0, Nat.zero_le _, rfl, hb3'⟩
      case round =>
        obtain ⟨k, hk, rfl, hbr⟩ := hrel
        clear a0 a1
        obtain ⟨a0, a1⟩ := Ba.later hbr (by omega)
        by_cases hlt : k < a.l.length
        · obtain ⟨oa', ca', he, _, _, hel⟩ := (HRa.out.later (hbr.mono hBW)).slice
          obtain ⟨b', off, oe, ce, hoe, hbl, e0, e1, hre⟩ := hel k _ (List.getElem?_eq_getElem hlt)
          cases he
          subst hoe
          obtain ⟨hck, hsk⟩ := HKA.out k hlt
          have hW1 : w.heap.size ≤ wr.heap.size := Nat.le_trans hBW hbr.size
          have HRa1 := Lib.hid (HRa.out.later (hbr.mono hBW))
          have HRe1 := Lib.hid hre
          have qa0 := fun d os => cell_regrown a0 d os
          have qa1 := fun d os => cell_regrown a1 d os
          have qe0 := fun d os => cell_regrown e0 d os
          have qe1 := fun d os => cell_regrown e1 d os
          have rk := fun d os => Calls.regrown_of (compare_any a.l[k] a _ _ (grow (redrawn wr d) os) w.heap.size (HRe1.out.later ((below_regrown wr d os).mono hW1)) (HRa1.out.later ((below_regrown wr d os).mono hW1)) (Nat.le_trans hW1 (below_regrown wr d os).size) (by omega) (by omega))
          rw [hck] at rk
          have q0 : (0 : Int) ≤ (k : Int) := by omega
          have q1 : (k : Int) < (a.l.length : Int) := by omega
          clear hel hre hck hsk
          go_wp2_with fail
          refine wp_region_quiet_below (by kernel_rfl) (by kernel_rfl) ?_
          repeat (quiet_step (first | with_reducible exact rk _ _))
          refine wpQuiet_nil ?_
          intro w' hw'
          obtain ⟨p, rfl⟩ := hw'
          clear qa0 qa1 qe0 qe1 rk e0 e1 a0 a1
          have hb5 := below_regrown wr p.d p.os
          generalize grow (redrawn wr p.d) p.os = w5 at *
          go_wp2_with fail
          go_roundw
          case rel => exact ⟨k + 1, hlt, by go_num, hbr.trans (hb5.mono hbr.size)⟩
          case measure => simp [intOf]; omega
        · go_wp2_with fail
          refine (alive_any wr).mono ?_
          rintro e w6 ⟨rfl, hb6⟩
          go_wp2_with fail
          go_ret
          exact ⟨rfl, HBB.trans ((hbr.trans (hb6.mono hbr.size)).mono (by omega))⟩
    · have qa0 := fun d os => cell_regrown a0 d os
      have qa1 := fun d os => cell_regrown a1 d os
      have qb0 := fun d os => cell_regrown b0 d os
      have qb1 := fun d os => cell_regrown b1 d os
      have za := fun d os => Calls.regrown_of (size_any a _ (grow (redrawn w2 d) os) w.heap.size (HRa1.out.later ((below_regrown w2 d os).mono hW1)) (Nat.le_trans hW1 (below_regrown w2 d os).size) (by omega))
      have zb := fun d os => Calls.regrown_of (size_any b _ (grow (redrawn w2 d) os) w.heap.size (HRb1.out.later ((below_regrown w2 d os).mono hW1)) (Nat.le_trans hW1 (below_regrown w2 d os).size) (by omega))
      refine wp_region_quiet_below (by kernel_rfl) (by kernel_rfl) ?_
      repeat (quiet_step (first | with_reducible exact za _ _ | with_reducible exact zb _ _))
      refine wpQuiet_nil ?_
      intro w' hw'
      obtain ⟨p, rfl⟩ := hw'
      clear qa0 qa1 qb0 qb1 za zb hsz
      have hb4 := below_regrown w2 p.d p.os
      have hb3' : Below W.heap.size W (grow (redrawn w2 p.d) p.os) := hb2'.trans (hb4.mono hb2'.size)
      generalize grow (redrawn w2 p.d) p.os = w3 at *
      clear hb4 a0 a1 b0 b1 HRb1 hW1
      obtain ⟨a0, a1⟩ := Ba.later hb3' (by omega)
      go_wp2_with fail
      go_loopw [10] (fun i wr => ∃ k : Nat, k ≤ a.l.length ∧ i = .int .i64 k ∧ Below W.heap.size W wr) (fun i _ => a.l.length - (intOf i).toNat)
      case atStart => exact ⟨0, Nat.zero_le _, rfl, hb3'⟩
      case round =>
        obtain ⟨k, hk, rfl, hbr⟩ := hrel
        clear a0 a1
        obtain ⟨a0, a1⟩ := Ba.later hbr (by omega)
        by_cases hlt : k < a.l.length
        · obtain ⟨oa', ca', he, _, _, hel⟩ := (HRa.out.later (hbr.mono hBW)).slice
          obtain ⟨b', off, oe, ce, hoe, hbl, e0, e1, hre⟩ := hel k _ (List.getElem?_eq_getElem hlt)
          cases he
          subst hoe
          obtain ⟨hck, hsk⟩ := HKA.out k hlt
          have hW1 : w.heap.size ≤ wr.heap.size := Nat.le_trans hBW hbr.size
          have HRa1 := Lib.hid (HRa.out.later (hbr.mono hBW))
          have HRe1 := Lib.hid hre
          have qa0 := fun d os => cell_regrown a0 d os
          have qa1 := fun d os => cell_regrown a1 d os
          have qe0 := fun d os => cell_regrown e0 d os
          have qe1 := fun d os => cell_regrown e1 d os
          have rk := fun d os => Calls.regrown_of (compare_any a.l[k] a _ _ (grow (redrawn wr d) os) w.heap.size (HRe1.out.later ((below_regrown wr d os).mono hW1)) (HRa1.out.later ((below_regrown wr d os).mono hW1)) (Nat.le_trans hW1 (below_regrown wr d os).size) (by omega) (by omega))
          rw [hck] at rk
          have q0 : (0 : Int) ≤ (k : Int) := by omega
          have q1 : (k : Int) < (a.l.length : Int) := by omega
          clear hel hre hck hsk
          go_wp2_with fail
          refine wp_region_quiet_below (by kernel_rfl) (by kernel_rfl) ?_
          repeat (quiet_step (first | with_reducible exact rk _ _))
          refine wpQuiet_nil ?_
          intro w' hw'
          obtain ⟨p, rfl⟩ := hw'
          clear qa0 qa1 qe0 qe1 rk e0 e1 a0 a1
          have hb5 := below_regrown wr p.d p.os
          generalize grow (redrawn wr p.d) p.os = w5 at *
          go_wp2_with fail
          go_roundw
          case rel => exact ⟨k + 1, hlt, by go_num, hbr.trans (hb5.mono hbr.size)⟩
          case measure => simp [intOf]; omega
        · go_wp2_with fail
          refine (alive_any wr).mono ?_
          rintro e w6 ⟨rfl, hb6⟩
          go_wp2_with fail
          go_ret
          exact ⟨rfl, HBB.trans ((hbr.trans (hb6.mono hbr.size)).mono (by omega))⟩
  · by_cases hsz : (a.size : Int) < b.size
    · have qa0 := fun d os => cell_regrown a0 d os
      have qa1 := fun d os => cell_regrown a1 d os
      have qb0 := fun d os => cell_regrown b0 d os
      have qb1 := fun d os => cell_regrown b1 d os
      have za := fun d os => Calls.regrown_of (size_any a _ (grow (redrawn w2 d) os) w.heap.size (HRa1.out.later ((below_regrown w2 d os).mono hW1)) (Nat.le_trans hW1 (below_regrown w2 d os).size) (by omega))
      have zb := fun d os => Calls.regrown_of (size_any b _ (grow (redrawn w2 d) os) w.heap.size (HRb1.out.later ((below_regrown w2 d os).mono hW1)) (Nat.le_trans hW1 (below_regrown w2 d os).size) (by omega))
      refine wp_region_quiet_below (by kernel_rfl) (by kernel_rfl) ?_
      repeat (quiet_step (first | with_reducible exact za _ _ | with_reducible exact zb _ _))
      refine wpQuiet_nil ?_
      intro w' hw'
      obtain ⟨p, rfl⟩ := hw'
      clear qa0 qa1 qb0 qb1 za zb hsz
      have hb4 := below_regrown w2 p.d p.os
      have hb3' : Below W.heap.size W (grow (redrawn w2 p.d) p.os) := hb2'.trans (hb4.mono hb2'.size)
      generalize grow (redrawn w2 p.d) p.os = w3 at *
      clear hb4 a0 a1 b0 b1 HRb1 hW1
      obtain ⟨a0, a1⟩ := Ba.later hb3' (by omega)
      go_wp2_with fail
      go_loopw [10] (fun i wr => ∃ k : Nat, k ≤ a.l.length ∧ i = .int .i64 k ∧ Below W.heap.size W wr) (fun i _ => a.l.length - (intOf i).toNat)
      case atStart => exact ⟨0, Nat.zero_le _, rfl, hb3'⟩
      case round =>
        obtain ⟨k, hk, rfl, hbr⟩ := hrel
        clear a0 a1
        obtain ⟨a0, a1⟩ := Ba.later hbr (by omega)
        by_cases hlt : k < a.l.length
        · obtain ⟨oa', ca', he, _, _, hel⟩ := (HRa.out.later (hbr.mono hBW)).slice
          obtain ⟨b', off, oe, ce, hoe, hbl, e0, e1, hre⟩ := hel k _ (List.getElem?_eq_getElem hlt)
          cases he
          subst hoe
          obtain ⟨hck, hsk⟩ := HKA.out k hlt
          have hW1 : w.heap.size ≤ wr.heap.size := Nat.le_trans hBW hbr.size
          have HRa1 := Lib.hid (HRa.out.later (hbr.mono hBW))
          have HRe1 := Lib.hid hre
          have qa0 := fun d os => cell_regrown a0 d os
          have qa1 := fun d os => cell_regrown a1 d os
          have qe0 := fun d os => cell_regrown e0 d os
          have qe1 := fun d os => cell_regrown e1 d os
          have rk := fun d os => Calls.regrown_of (compare_any a.l[k] a _ _ (grow (redrawn wr d) os) w.heap.size (HRe1.out.later ((below_regrown wr d os).mono hW1)) (HRa1.out.later ((below_regrown wr d os).mono hW1)) (Nat.le_trans hW1 (below_regrown wr d os).size) (by omega) (by omega))
          rw [hck] at rk
          have q0 : (0 : Int) ≤ (k : Int) := by omega
          have q1 : (k : Int) < (a.l.length : Int) := by omega
          clear hel hre hck hsk
          go_wp2_with fail
          refine wp_region_quiet_below (by kernel_rfl) (by kernel_rfl) ?_
          repeat (quiet_step (first | with_reducible exact rk _ _))
          refine wpQuiet_nil ?_
          intro w' hw'
          obtain ⟨p, rfl⟩ := hw'
          clear qa0 qa1 qe0 qe1 rk e0 e1 a0 a1
          have hb5 := below_regrown wr p.d p.os
          generalize grow (redrawn wr p.d) p.os = w5 at *
          go_wp2_with fail
          go_roundw
          case rel => exact ⟨k + 1, hlt, by go_num, hbr.trans (hb5.mono hbr.size)⟩
          case measure => simp [intOf]; omega
        · go_wp2_with fail
          refine (alive_any wr).mono ?_
          rintro e w6 ⟨rfl, hb6⟩
          go_wp2_with fail
          go_ret
          exact ⟨rfl, HBB.trans ((hbr.trans (hb6.mono hbr.size)).mono (by omega))⟩
    · have qa0 := fun d os => cell_regrown a0 d os
      have qa1 := fun d os => cell_regrown a1 d os
      have qb0 := fun d os => cell_regrown b0 d os
      have qb1 := fun d os => cell_regrown b1 d os
      have za := fun d os => Calls.regrown_of (size_any a _ (grow (redrawn w2 d) os) w.heap.size (HRa1.out.later ((below_regrown w2 d os).mono hW1)) (Nat.le_trans hW1 (below_regrown w2 d os).size) (by omega))
      have zb := fun d os => Calls.regrown_of (size_any b _ (grow (redrawn w2 d) os) w.heap.size (HRb1.out.later ((below_regrown w2 d os).mono hW1)) (Nat.le_trans hW1 (below_regrown w2 d os).size) (by omega))
      refine wp_region_quiet_below (by kernel_rfl) (by kernel_rfl) ?_
      repeat (quiet_step (first | with_reducible exact za _ _ | with_reducible exact zb _ _))
      refine wpQuiet_nil ?_
      intro w' hw'
      obtain ⟨p, rfl⟩ := hw'
      clear qa0 qa1 qb0 qb1 za zb hsz
      have hb4 := below_regrown w2 p.d p.os
      have hb3' : Below W.heap.size W (grow (redrawn w2 p.d) p.os) := hb2'.trans (hb4.mono hb2'.size)
      generalize grow (redrawn w2 p.d) p.os = w3 at *
      clear hb4 a0 a1 b0 b1 HRb1 hW1
      obtain ⟨a0, a1⟩ := Ba.later hb3' (by omega)
      go_wp2_with fail
      go_loopw [10] (fun i wr => ∃ k : Nat, k ≤ a.l.length ∧ i = .int .i64 k ∧ Below W.heap.size W wr) (fun i _ => a.l.length - (intOf i).toNat)
      case atStart => exact ⟨0, Nat.zero_le _, rfl, hb3'⟩
      case round =>
        obtain ⟨k, hk, rfl, hbr⟩ := hrel
        clear a0 a1
        obtain ⟨a0, a1⟩ := Ba.later hbr (by omega)
        by_cases hlt : k < a.l.length
        · obtain ⟨oa', ca', he, _, _, hel⟩ := (HRa.out.later (hbr.mono hBW)).slice
          obtain ⟨b', off, oe, ce, hoe, hbl, e0, e1, hre⟩ := hel k _ (List.getElem?_eq_getElem hlt)
          cases he
          subst hoe
          obtain ⟨hck, hsk⟩ := HKA.out k hlt
          have hW1 : w.heap.size ≤ wr.heap.size := Nat.le_trans hBW hbr.size
          have HRa1 := Lib.hid (HRa.out.later (hbr.mono hBW))
          have HRe1 := Lib.hid hre
          have qa0 := fun d os => cell_regrown a0 d os
          have qa1 := fun d os => cell_regrown a1 d os
          have qe0 := fun d os => cell_regrown e0 d os
          have qe1 := fun d os => cell_regrown e1 d os
          have rk := fun d os => Calls.regrown_of (compare_any a.l[k] a _ _ (grow (redrawn wr d) os) w.heap.size (HRe1.out.later ((below_regrown wr d os).mono hW1)) (HRa1.out.later ((below_regrown wr d os).mono hW1)) (Nat.le_trans hW1 (below_regrown wr d os).size) (by omega) (by omega))
          rw [hck] at rk
          have q0 : (0 : Int) ≤ (k : Int) := by omega
          have q1 : (k : Int) < (a.l.length : Int) := by omega
          clear hel hre hck hsk
          go_wp2_with fail
          refine wp_region_quiet_below (by kernel_rfl) (by kernel_rfl) ?_
          repeat (quiet_step (first | with_reducible exact rk _ _))
          refine wpQuiet_nil ?_
          intro w' hw'
          obtain ⟨p, rfl⟩ := hw'
          clear qa0 qa1 qe0 qe1 rk e0 e1 a0 a1
          have hb5 := below_regrown wr p.d p.os
          generalize grow (redrawn wr p.d) p.os = w5 at *
          go_wp2_with fail
          go_roundw
          case rel => exact ⟨k + 1, hlt, by go_num, hbr.trans (hb5.mono hbr.size)⟩
          case measure => simp [intOf]; omega
        · go_wp2_with fail
          refine (alive_any wr).mono ?_
          rintro e w6 ⟨rfl, hb6⟩
          go_wp2_with fail
          go_ret
          exact ⟨rfl, HBB.trans ((hbr.trans (hb6.mono hbr.size)).mono (by omega))⟩
  · have hsz : ¬ (a.size : Int) < b.size := by have := HQ.out; omega
    have qa0 := fun d os => cell_regrown a0 d os
    have qa1 := fun d os => cell_regrown a1 d os
    have qb0 := fun d os => cell_regrown b0 d os
    have qb1 := fun d os => cell_regrown b1 d os
    have za := fun d os => Calls.regrown_of (size_any a _ (grow (redrawn w2 d) os) w.heap.size (HRa1.out.later ((below_regrown w2 d os).mono hW1)) (Nat.le_trans hW1 (below_regrown w2 d os).size) (by omega))
    have zb := fun d os => Calls.regrown_of (size_any b _ (grow (redrawn w2 d) os) w.heap.size (HRb1.out.later ((below_regrown w2 d os).mono hW1)) (Nat.le_trans hW1 (below_regrown w2 d os).size) (by omega))
    refine wp_region_quiet_below (by kernel_rfl) (by kernel_rfl) ?_
    repeat (quiet_step (first | with_reducible exact za _ _ | with_reducible exact zb _ _))
    refine wpQuiet_nil ?_
    intro w' hw'
    obtain ⟨p, rfl⟩ := hw'
    clear qa0 qa1 qb0 qb1 za zb hsz
    have hb4 := below_regrown w2 p.d p.os
    have hb3' : Below W.heap.size W (grow (redrawn w2 p.d) p.os) := hb2'.trans (hb4.mono hb2'.size)
    generalize grow (redrawn w2 p.d) p.os = w3 at *
    clear hb4 a0 a1 b0 b1 HRb1 hW1
    obtain ⟨a0, a1⟩ := Ba.later hb3' (by omega)
    go_wp2_with fail
    go_loopw [10] (fun i wr => ∃ k : Nat, k ≤ a.l.length ∧ i = .int .i64 k ∧ Below W.heap.size W wr) (fun i _ => a.l.length - (intOf i).toNat)
    case atStart => exact ⟨0, Nat.zero_le _, rfl, hb3'⟩
    case round =>
      obtain ⟨k, hk, rfl, hbr⟩ := hrel
      clear a0 a1
      obtain ⟨a0, a1⟩ := Ba.later hbr (by omega)
      by_cases hlt : k < a.l.length
      · obtain ⟨oa', ca', he, _, _, hel⟩ := (HRa.out.later (hbr.mono hBW)).slice
        obtain ⟨b', off, oe, ce, hoe, hbl, e0, e1, hre⟩ := hel k _ (List.getElem?_eq_getElem hlt)
        cases he
        subst hoe
        obtain ⟨hck, hsk⟩ := HKA.out k hlt
        have hW1 : w.heap.size ≤ wr.heap.size := Nat.le_trans hBW hbr.size
        have HRa1 := Lib.hid (HRa.out.later (hbr.mono hBW))
        have HRe1 := Lib.hid hre
        have qa0 := fun d os => cell_regrown a0 d os
        have qa1 := fun d os => cell_regrown a1 d os
        have qe0 := fun d os => cell_regrown e0 d os
        have qe1 := fun d os => cell_regrown e1 d os
        have rk := fun d os => Calls.regrown_of (compare_any a.l[k] a _ _ (grow (redrawn wr d) os) w.heap.size (HRe1.out.later ((below_regrown wr d os).mono hW1)) (HRa1.out.later ((below_regrown wr d os).mono hW1)) (Nat.le_trans hW1 (below_regrown wr d os).size) (by omega) (by omega))
        rw [hck] at rk
        have q0 : (0 : Int) ≤ (k : Int) := by omega
        have q1 : (k : Int) < (a.l.length : Int) := by omega
        clear hel hre hck hsk
        go_wp2_with fail
        refine wp_region_quiet_below (by kernel_rfl) (by kernel_rfl) ?_
        repeat (quiet_step (first | with_reducible exact rk _ _))
        refine wpQuiet_nil ?_
        intro w' hw'
        obtain ⟨p, rfl⟩ := hw'
        clear qa0 qa1 qe0 qe1 rk e0 e1 a0 a1
        have hb5 := below_regrown wr p.d p.os
        generalize grow (redrawn wr p.d) p.os = w5 at *
        go_wp2_with fail
        go_roundw
        case rel => exact ⟨k + 1, hlt, by go_num, hbr.trans (hb5.mono hbr.size)⟩
        case measure => simp [intOf]; omega
      · go_wp2_with fail
        refine (alive_any wr).mono ?_
        rintro e w6 ⟨rfl, hb6⟩
        go_wp2_with fail
        go_ret
        exact ⟨rfl, HBB.trans ((hbr.trans (hb6.mono hbr.size)).mono (by omega))⟩
  · have hsz : ¬ (a.size : Int) < b.size := by have := HQ.out; omega
    have qa0 := fun d os => cell_regrown a0 d os
    have qa1 := fun d os => cell_regrown a1 d os
    have qb0 := fun d os => cell_regrown b0 d os
    have qb1 := fun d os => cell_regrown b1 d os
    have za := fun d os => Calls.regrown_of (size_any a _ (grow (redrawn w2 d) os) w.heap.size (HRa1.out.later ((below_regrown w2 d os).mono hW1)) (Nat.le_trans hW1 (below_regrown w2 d os).size) (by omega))
    have zb := fun d os => Calls.regrown_of (size_any b _ (grow (redrawn w2 d) os) w.heap.size (HRb1.out.later ((below_regrown w2 d os).mono hW1)) (Nat.le_trans hW1 (below_regrown w2 d os).size) (by omega))
    refine wp_region_quiet_below (by kernel_rfl) (by kernel_rfl) ?_
    repeat (quiet_step (first | with_reducible exact za _ _ | with_reducible exact zb _ _))
    refine wpQuiet_nil ?_
    intro w' hw'
    obtain ⟨p, rfl⟩ := hw'
    clear qa0 qa1 qb0 qb1 za zb hsz
    have hb4 := below_regrown w2 p.d p.os
    have hb3' : Below W.heap.size W (grow (redrawn w2 p.d) p.os) := hb2'.trans (hb4.mono hb2'.size)
    generalize grow (redrawn w2 p.d) p.os = w3 at *
    clear hb4 a0 a1 b0 b1 HRb1 hW1
    obtain ⟨a0, a1⟩ := Ba.later hb3' (by omega)
    go_wp2_with fail
    go_loopw [10] (fun i wr => ∃ k : Nat, k ≤ a.l.length ∧ i = .int .i64 k ∧ Below W.heap.size W wr) (fun i _ => a.l.length - (intOf i).toNat)
    case atStart => exact ⟨0, Nat.zero_le _, rfl, hb3'⟩
    case round =>
      obtain ⟨k, hk, rfl, hbr⟩ := hrel
      clear a0 a1
      obtain ⟨a0, a1⟩ := Ba.later hbr (by omega)
      by_cases hlt : k < a.l.length
      · obtain ⟨oa', ca', he, _, _, hel⟩ := (HRa.out.later (hbr.mono hBW)).slice
        obtain ⟨b', off, oe, ce, hoe, hbl, e0, e1, hre⟩ := hel k _ (List.getElem?_eq_getElem hlt)
        cases he
        subst hoe
        obtain ⟨hck, hsk⟩ := HKA.out k hlt
        have hW1 : w.heap.size ≤ wr.heap.size := Nat.le_trans hBW hbr.size
        have HRa1 := Lib.hid (HRa.out.later (hbr.mono hBW))
        have HRe1 := Lib.hid hre
        have qa0 := fun d os => cell_regrown a0 d os
        have qa1 := fun d os => cell_regrown a1 d os
        have qe0 := fun d os => cell_regrown e0 d os
        have qe1 := fun d os => cell_regrown e1 d os
        have rk := fun d os => Calls.regrown_of (compare_any a.l[k] a _ _ (grow (redrawn wr d) os) w.heap.size (HRe1.out.later ((below_regrown wr d os).mono hW1)) (HRa1.out.later ((below_regrown wr d os).mono hW1)) (Nat.le_trans hW1 (below_regrown wr d os).size) (by omega) (by omega))
        rw [hck] at rk
        have q0 : (0 : Int) ≤ (k : Int) := by omega
        have q1 : (k : Int) < (a.l.length : Int) := by omega
        clear hel hre hck hsk
        go_wp2_with fail
        refine wp_region_quiet_below (by kernel_rfl) (by kernel_rfl) ?_
        repeat (quiet_step (first | with_reducible exact rk _ _))
        refine wpQuiet_nil ?_
        intro w' hw'
        obtain ⟨p, rfl⟩ := hw'
        clear qa0 qa1 qe0 qe1 rk e0 e1 a0 a1
        have hb5 := below_regrown wr p.d p.os
        generalize grow (redrawn wr p.d) p.os = w5 at *
        go_wp2_with fail
        go_roundw
        case rel => exact ⟨k + 1, hlt, by go_num, hbr.trans (hb5.mono hbr.size)⟩
        case measure => simp [intOf]; omega
      · go_wp2_with fail
        refine (alive_any wr).mono ?_
        rintro e w6 ⟨rfl, hb6⟩
        go_wp2_with fail
        go_ret
        exact ⟨rfl, HBB.trans ((hbr.trans (hb6.mono hbr.size)).mono (by omega))⟩
  · exfalso
    have := HQ.out
    omega
  · exfalso
    have := HQ.out
    omega
  · have hsz : ¬ (a.size : Int) < b.size := by have := HQ.out; omega
    have qa0 := fun d os => cell_regrown a0 d os
    have qa1 := fun d os => cell_regrown a1 d os
    have qb0 := fun d os => cell_regrown b0 d os
    have qb1 := fun d os => cell_regrown b1 d os
    have za := fun d os => Calls.regrown_of (size_any a _ (grow (redrawn w2 d) os) w.heap.size (HRa1.out.later ((below_regrown w2 d os).mono hW1)) (Nat.le_trans hW1 (below_regrown w2 d os).size) (by omega))
    have zb := fun d os => Calls.regrown_of (size_any b _ (grow (redrawn w2 d) os) w.heap.size (HRb1.out.later ((below_regrown w2 d os).mono hW1)) (Nat.le_trans hW1 (below_regrown w2 d os).size) (by omega))
    refine wp_region_quiet_below (by kernel_rfl) (by kernel_rfl) ?_
    repeat (quiet_step (first | with_reducible exact za _ _ | with_reducible exact zb _ _))
    refine wpQuiet_nil ?_
    intro w' hw'
    obtain ⟨p, rfl⟩ := hw'
    clear qa0 qa1 qb0 qb1 za zb hsz
    have hb4 := below_regrown w2 p.d p.os
    have hb3' : Below W.heap.size W (grow (redrawn w2 p.d) p.os) := hb2'.trans (hb4.mono hb2'.size)
    generalize grow (redrawn w2 p.d) p.os = w3 at *
    clear hb4 a0 a1 b0 b1 HRb1 hW1
    obtain ⟨a0, a1⟩ := Ba.later hb3' (by omega)
    go_wp2_with fail
    go_loopw [10] (fun i wr => ∃ k : Nat, k ≤ a.l.length ∧ i = .int .i64 k ∧ Below W.heap.size W wr) (fun i _ => a.l.length - (intOf i).toNat)
    case atStart => exact ⟨0, Nat.zero_le _, rfl, hb3'⟩
    case round =>
      obtain ⟨k, hk, rfl, hbr⟩ := hrel
      clear a0 a1
      obtain ⟨a0, a1⟩ := Ba.later hbr (by omega)
      by_cases hlt : k < a.l.length
      · obtain ⟨oa', ca', he, _, _, hel⟩ := (HRa.out.later (hbr.mono hBW)).slice
        obtain ⟨b', off, oe, ce, hoe, hbl, e0, e1, hre⟩ := hel k _ (List.getElem?_eq_getElem hlt)
        cases he
        subst hoe
        obtain ⟨hck, hsk⟩ := HKA.out k hlt
        have hW1 : w.heap.size ≤ wr.heap.size := Nat.le_trans hBW hbr.size
        have HRa1 := Lib.hid (HRa.out.later (hbr.mono hBW))
        have HRe1 := Lib.hid hre
        have qa0 := fun d os => cell_regrown a0 d os
        have qa1 := fun d os => cell_regrown a1 d os
        have qe0 := fun d os => cell_regrown e0 d os
        have qe1 := fun d os => cell_regrown e1 d os
        have rk := fun d os => Calls.regrown_of (compare_any a.l[k] a _ _ (grow (redrawn wr d) os) w.heap.size (HRe1.out.later ((below_regrown wr d os).mono hW1)) (HRa1.out.later ((below_regrown wr d os).mono hW1)) (Nat.le_trans hW1 (below_regrown wr d os).size) (by omega) (by omega))
        rw [hck] at rk
        have q0 : (0 : Int) ≤ (k : Int) := by omega
        have q1 : (k : Int) < (a.l.length : Int) := by omega
        clear hel hre hck hsk
        go_wp2_with fail
        refine wp_region_quiet_below (by kernel_rfl) (by kernel_rfl) ?_
        repeat (quiet_step (first | with_reducible exact rk _ _))
        refine wpQuiet_nil ?_
        intro w' hw'
        obtain ⟨p, rfl⟩ := hw'
        clear qa0 qa1 qe0 qe1 rk e0 e1 a0 a1
        have hb5 := below_regrown wr p.d p.os
        generalize grow (redrawn wr p.d) p.os = w5 at *
        go_wp2_with fail
        go_roundw
        case rel => exact ⟨k + 1, hlt, by go_num, hbr.trans (hb5.mono hbr.size)⟩
        case measure => simp [intOf]; omega
      · go_wp2_with fail
        refine (alive_any wr).mono ?_
        rintro e w6 ⟨rfl, hb6⟩
        go_wp2_with fail
        go_ret
        exact ⟨rfl, HBB.trans ((hbr.trans (hb6.mono hbr.size)).mono (by omega))⟩
  · exfalso
    have := HQ.out
    omega
  · exfalso
    have := HQ.out
    omega
  · have hsz : ¬ (a.size : Int) < b.size := by have := HQ.out; omega
    have qa0 := fun d os => cell_regrown a0 d os
    have qa1 := fun d os => cell_regrown a1 d os
    have qb0 := fun d os => cell_regrown b0 d os
    have qb1 := fun d os => cell_regrown b1 d os
    have za := fun d os => Calls.regrown_of (size_any a _ (grow (redrawn w2 d) os) w.heap.size (HRa1.out.later ((below_regrown w2 d os).mono hW1)) (Nat.le_trans hW1 (below_regrown w2 d os).size) (by omega))
    have zb := fun d os => Calls.regrown_of (size_any b _ (grow (redrawn w2 d) os) w.heap.size (HRb1.out.later ((below_regrown w2 d os).mono hW1)) (Nat.le_trans hW1 (below_regrown w2 d os).size) (by omega))
    refine wp_region_quiet_below (by kernel_rfl) (by kernel_rfl) ?_
    repeat (quiet_step (first | with_reducible exact za _ _ | with_reducible exact zb _ _))
    refine wpQuiet_nil ?_
    intro w' hw'
    obtain ⟨p, rfl⟩ := hw'
    clear qa0 qa1 qb0 qb1 za zb hsz
    have hb4 := below_regrown w2 p.d p.os
    have hb3' : Below W.heap.size W (grow (redrawn w2 p.d) p.os) := hb2'.trans (hb4.mono hb2'.size)
    generalize grow (redrawn w2 p.d) p.os = w3 at *
    clear hb4 a0 a1 b0 b1 HRb1 hW1
    obtain ⟨a0, a1⟩ := Ba.later hb3' (by omega)
    go_wp2_with fail
    go_loopw [10] (fun i wr => ∃ k : Nat, k ≤ a.l.length ∧ i = .int .i64 k ∧ Below W.heap.size W wr) (fun i _ => a.l.length - (intOf i).toNat)
    case atStart => exact ⟨0, Nat.zero_le _, rfl, hb3'⟩
    case round =>
      obtain ⟨k, hk, rfl, hbr⟩ := hrel
      clear a0 a1
      obtain ⟨a0, a1⟩ := Ba.later hbr (by omega)
      by_cases hlt : k < a.l.length
      · obtain ⟨oa', ca', he, _, _, hel⟩ := (HRa.out.later (hbr.mono hBW)).slice
        obtain ⟨b', off, oe, ce, hoe, hbl, e0, e1, hre⟩ := hel k _ (List.getElem?_eq_getElem hlt)
        cases he
        subst hoe
        obtain ⟨hck, hsk⟩ := HKA.out k hlt
        have hW1 : w.heap.size ≤ wr.heap.size := Nat.le_trans hBW hbr.size
        have HRa1 := Lib.hid (HRa.out.later (hbr.mono hBW))
        have HRe1 := Lib.hid hre
        have qa0 := fun d os => cell_regrown a0 d os
        have qa1 := fun d os => cell_regrown a1 d os
        have qe0 := fun d os => cell_regrown e0 d os
        have qe1 := fun d os => cell_regrown e1 d os
        have rk := fun d os => Calls.regrown_of (compare_any a.l[k] a _ _ (grow (redrawn wr d) os) w.heap.size (HRe1.out.later ((below_regrown wr d os).mono hW1)) (HRa1.out.later ((below_regrown wr d os).mono hW1)) (Nat.le_trans hW1 (below_regrown wr d os).size) (by omega) (by omega))
        rw [hck] at rk
        have q0 : (0 : Int) ≤ (k : Int) := by omega
        have q1 : (k : Int) < (a.l.length : Int) := by omega
        clear hel hre hck hsk
        go_wp2_with fail
        refine wp_region_quiet_below (by kernel_rfl) (by kernel_rfl) ?_
        repeat (quiet_step (first | with_reducible exact rk _ _))
        refine wpQuiet_nil ?_
        intro w' hw'
        obtain ⟨p, rfl⟩ := hw'
        clear qa0 qa1 qe0 qe1 rk e0 e1 a0 a1
        have hb5 := below_regrown wr p.d p.os
        generalize grow (redrawn wr p.d) p.os = w5 at *
        go_wp2_with fail
        go_roundw
        case rel => exact ⟨k + 1, hlt, by go_num, hbr.trans (hb5.mono hbr.size)⟩
        case measure => simp [intOf]; omega
      · go_wp2_with fail
        refine (alive_any wr).mono ?_
        rintro e w6 ⟨rfl, hb6⟩
        go_wp2_with fail
        go_ret
        exact ⟨rfl, HBB.trans ((hbr.trans (hb6.mono hbr.size)).mono (by omega))⟩
  · have hsz : ¬ (a.size : Int) < b.size := by have := HQ.out; omega
    have qa0 := fun d os => cell_regrown a0 d os
    have qa1 := fun d os => cell_regrown a1 d os
    have qb0 := fun d os => cell_regrown b0 d os
    have qb1 := fun d os => cell_regrown b1 d os
    have za := fun d os => Calls.regrown_of (size_any a _ (grow (redrawn w2 d) os) w.heap.size (HRa1.out.later ((below_regrown w2 d os).mono hW1)) (Nat.le_trans hW1 (below_regrown w2 d os).size) (by omega))
    have zb := fun d os => Calls.regrown_of (size_any b _ (grow (redrawn w2 d) os) w.heap.size (HRb1.out.later ((below_regrown w2 d os).mono hW1)) (Nat.le_trans hW1 (below_regrown w2 d os).size) (by omega))
    refine wp_region_quiet_below (by kernel_rfl) (by kernel_rfl) ?_
    repeat (quiet_step (first | with_reducible exact za _ _ | with_reducible exact zb _ _))
    refine wpQuiet_nil ?_
    intro w' hw'
    obtain ⟨p, rfl⟩ := hw'
    clear qa0 qa1 qb0 qb1 za zb hsz
    have hb4 := below_regrown w2 p.d p.os
    have hb3' : Below W.heap.size W (grow (redrawn w2 p.d) p.os) := hb2'.trans (hb4.mono hb2'.size)
    generalize grow (redrawn w2 p.d) p.os = w3 at *
    clear hb4 a0 a1 b0 b1 HRb1 hW1
    obtain ⟨a0, a1⟩ := Ba.later hb3' (by omega)
    go_wp2_with fail
    go_loopw [10] (fun i wr => ∃ k : Nat, k ≤ a.l.length ∧ i = .int .i64 k ∧ Below W.heap.size W wr) (fun i _ => a.l.length - (intOf i).toNat)
    case atStart => exact ⟨0, Nat.zero_le _, rfl, hb3'⟩
    case round =>
      obtain ⟨k, hk, rfl, hbr⟩ := hrel
      clear a0 a1
      obtain ⟨a0, a1⟩ := Ba.later hbr (by omega)
      by_cases hlt : k < a.l.length
      · obtain ⟨oa', ca', he, _, _, hel⟩ := (HRa.out.later (hbr.mono hBW)).slice
        obtain ⟨b', off, oe, ce, hoe, hbl, e0, e1, hre⟩ := hel k _ (List.getElem?_eq_getElem hlt)
        cases he
        subst hoe
        obtain ⟨hck, hsk⟩ := HKA.out k hlt
        have hW1 : w.heap.size ≤ wr.heap.size := Nat.le_trans hBW hbr.size
        have HRa1 := Lib.hid (HRa.out.later (hbr.mono hBW))
        have HRe1 := Lib.hid hre
        have qa0 := fun d os => cell_regrown a0 d os
        have qa1 := fun d os => cell_regrown a1 d os
        have qe0 := fun d os => cell_regrown e0 d os
        have qe1 := fun d os => cell_regrown e1 d os
        have rk := fun d os => Calls.regrown_of (compare_any a.l[k] a _ _ (grow (redrawn wr d) os) w.heap.size (HRe1.out.later ((below_regrown wr d os).mono hW1)) (HRa1.out.later ((below_regrown wr d os).mono hW1)) (Nat.le_trans hW1 (below_regrown wr d os).size) (by omega) (by omega))
        rw [hck] at rk
        have q0 : (0 : Int) ≤ (k : Int) := by omega
        have q1 : (k : Int) < (a.l.length : Int) := by omega
        clear hel hre hck hsk
        go_wp2_with fail
        refine wp_region_quiet_below (by kernel_rfl) (by kernel_rfl) ?_
        repeat (quiet_step (first | with_reducible exact rk _ _))
        refine wpQuiet_nil ?_
        intro w' hw'
        obtain ⟨p, rfl⟩ := hw'
        clear qa0 qa1 qe0 qe1 rk e0 e1 a0 a1
        have hb5 := below_regrown wr p.d p.os
        generalize grow (redrawn wr p.d) p.os = w5 at *
        go_wp2_with fail
        go_roundw
        case rel => exact ⟨k + 1, hlt, by go_num, hbr.trans (hb5.mono hbr.size)⟩
        case measure => simp [intOf]; omega
      · go_wp2_with fail
        refine (alive_any wr).mono ?_
        rintro e w6 ⟨rfl, hb6⟩
        go_wp2_with fail
        go_ret
        exact ⟨rfl, HBB.trans ((hbr.trans (hb6.mono hbr.size)).mono (by omega))⟩
  · have hsz : ¬ (a.size : Int) < b.size := by have := HQ.out; omega
    have qa0 := fun d os => cell_regrown a0 d os
    have qa1 := fun d os => cell_regrown a1 d os
    have qb0 := fun d os => cell_regrown b0 d os
    have qb1 := fun d os => cell_regrown b1 d os
    have za := fun d os => Calls.regrown_of (size_any a _ (grow (redrawn w2 d) os) w.heap.size (HRa1.out.later ((below_regrown w2 d os).mono hW1)) (Nat.le_trans hW1 (below_regrown w2 d os).size) (by omega))
    have zb := fun d os => Calls.regrown_of (size_any b _ (grow (redrawn w2 d) os) w.heap.size (HRb1.out.later ((below_regrown w2 d os).mono hW1)) (Nat.le_trans hW1 (below_regrown w2 d os).size) (by omega))
    refine wp_region_quiet_below (by kernel_rfl) (by kernel_rfl) ?_
    repeat (quiet_step (first | with_reducible exact za _ _ | with_reducible exact zb _ _))
    refine wpQuiet_nil ?_
    intro w' hw'
    obtain ⟨p, rfl⟩ := hw'
    clear qa0 qa1 qb0 qb1 za zb hsz
    have hb4 := below_regrown w2 p.d p.os
    have hb3' : Below W.heap.size W (grow (redrawn w2 p.d) p.os) := hb2'.trans (hb4.mono hb2'.size)
    generalize grow (redrawn w2 p.d) p.os = w3 at *
    clear hb4 a0 a1 b0 b1 HRb1 hW1
    obtain ⟨a0, a1⟩ := Ba.later hb3' (by omega)
    go_wp2_with fail
    go_loopw [10] (fun i wr => ∃ k : Nat, k ≤ a.l.length ∧ i = .int .i64 k ∧ Below W.heap.size W wr) (fun i _ => a.l.length - (intOf i).toNat)
    case atStart => exact ⟨0, Nat.zero_le _, rfl, hb3'⟩
    case round =>
      obtain ⟨k, hk, rfl, hbr⟩ := hrel
      clear a0 a1
      obtain ⟨a0, a1⟩ := Ba.later hbr (by omega)
      by_cases hlt : k < a.l.length
      · obtain ⟨oa', ca', he, _, _, hel⟩ := (HRa.out.later (hbr.mono hBW)).slice
        obtain ⟨b', off, oe, ce, hoe, hbl, e0, e1, hre⟩ := hel k _ (List.getElem?_eq_getElem hlt)
        cases he
        subst hoe
        obtain ⟨hck, hsk⟩ := HKA.out k hlt
        have hW1 : w.heap.size ≤ wr.heap.size := Nat.le_trans hBW hbr.size
        have HRa1 := Lib.hid (HRa.out.later (hbr.mono hBW))
        have HRe1 := Lib.hid hre
        have qa0 := fun d os => cell_regrown a0 d os
        have qa1 := fun d os => cell_regrown a1 d os
        have qe0 := fun d os => cell_regrown e0 d os
        have qe1 := fun d os => cell_regrown e1 d os
        have rk := fun d os => Calls.regrown_of (compare_any a.l[k] a _ _ (grow (redrawn wr d) os) w.heap.size (HRe1.out.later ((below_regrown wr d os).mono hW1)) (HRa1.out.later ((below_regrown wr d os).mono hW1)) (Nat.le_trans hW1 (below_regrown wr d os).size) (by omega) (by omega))
        rw [hck] at rk
        have q0 : (0 : Int) ≤ (k : Int) := by omega
        have q1 : (k : Int) < (a.l.length : Int) := by omega
        clear hel hre hck hsk
        go_wp2_with fail
        refine wp_region_quiet_below (by kernel_rfl) (by kernel_rfl) ?_
        repeat (quiet_step (first | with_reducible exact rk _ _))
        refine wpQuiet_nil ?_
        intro w' hw'
        obtain ⟨p, rfl⟩ := hw'
        clear qa0 qa1 qe0 qe1 rk e0 e1 a0 a1
        have hb5 := below_regrown wr p.d p.os
        generalize grow (redrawn wr p.d) p.os = w5 at *
        go_wp2_with fail
        go_roundw
        case rel => exact ⟨k + 1, hlt, by go_num, hbr.trans (hb5.mono hbr.size)⟩
        case measure => simp [intOf]; omega
      · go_wp2_with fail
        refine (alive_any wr).mono ?_
        rintro e w6 ⟨rfl, hb6⟩
        go_wp2_with fail
        go_ret
        exact ⟨rfl, HBB.trans ((hbr.trans (hb6.mono hbr.size)).mono (by omega))⟩
  · have hsz : ¬ (a.size : Int) < b.size := by have := HQ.out; omega
    have qa0 := fun d os => cell_regrown a0 d os
    have qa1 := fun d os => cell_regrown a1 d os
    have qb0 := fun d os => cell_regrown b0 d os
    have qb1 := fun d os => cell_regrown b1 d os
    have za := fun d os => Calls.regrown_of (size_any a _ (grow (redrawn w2 d) os) w.heap.size (HRa1.out.later ((below_regrown w2 d os).mono hW1)) (Nat.le_trans hW1 (below_regrown w2 d os).size) (by omega))
    have zb := fun d os => Calls.regrown_of (size_any b _ (grow (redrawn w2 d) os) w.heap.size (HRb1.out.later ((below_regrown w2 d os).mono hW1)) (Nat.le_trans hW1 (below_regrown w2 d os).size) (by omega))
    refine wp_region_quiet_below (by kernel_rfl) (by kernel_rfl) ?_
    repeat (quiet_step (first | with_reducible exact za _ _ | with_reducible exact zb _ _))
    refine wpQuiet_nil ?_
    intro w' hw'
    obtain ⟨p, rfl⟩ := hw'
    clear qa0 qa1 qb0 qb1 za zb hsz
    have hb4 := below_regrown w2 p.d p.os
    have hb3' : Below W.heap.size W (grow (redrawn w2 p.d) p.os) := hb2'.trans (hb4.mono hb2'.size)
    generalize grow (redrawn w2 p.d) p.os = w3 at *
    clear hb4 a0 a1 b0 b1 HRb1 hW1
    obtain ⟨a0, a1⟩ := Ba.later hb3' (by omega)
    go_wp2_with fail
    go_loopw [10] (fun i wr => ∃ k : Nat, k ≤ a.l.length ∧ i = .int .i64 k ∧ Below W.heap.size W wr) (fun i _ => a.l.length - (intOf i).toNat)
    case atStart => exact ⟨0, Nat.zero_le _, rfl, hb3'⟩
    case round =>
      obtain ⟨k, hk, rfl, hbr⟩ := hrel
      clear a0 a1
      obtain ⟨a0, a1⟩ := Ba.later hbr (by omega)
      by_cases hlt : k < a.l.length
      · obtain ⟨oa', ca', he, _, _, hel⟩ := (HRa.out.later (hbr.mono hBW)).slice
        obtain ⟨b', off, oe, ce, hoe, hbl, e0, e1, hre⟩ := hel k _ (List.getElem?_eq_getElem hlt)
        cases he
        subst hoe
        obtain ⟨hck, hsk⟩ := HKA.out k hlt
        have hW1 : w.heap.size ≤ wr.heap.size := Nat.le_trans hBW hbr.size
        have HRa1 := Lib.hid (HRa.out.later (hbr.mono hBW))
        have HRe1 := Lib.hid hre
        have qa0 := fun d os => cell_regrown a0 d os
        have qa1 := fun d os => cell_regrown a1 d os
        have qe0 := fun d os => cell_regrown e0 d os
        have qe1 := fun d os => cell_regrown e1 d os
        have rk := fun d os => Calls.regrown_of (compare_any a.l[k] a _ _ (grow (redrawn wr d) os) w.heap.size (HRe1.out.later ((below_regrown wr d os).mono hW1)) (HRa1.out.later ((below_regrown wr d os).mono hW1)) (Nat.le_trans hW1 (below_regrown wr d os).size) (by omega) (by omega))
        rw [hck] at rk
        have q0 : (0 : Int) ≤ (k : Int) := by omega
        have q1 : (k : Int) < (a.l.length : Int) := by omega
        clear hel hre hck hsk
        go_wp2_with fail
        refine wp_region_quiet_below (by kernel_rfl) (by kernel_rfl) ?_
        repeat (quiet_step (first | with_reducible exact rk _ _))
        refine wpQuiet_nil ?_
        intro w' hw'
        obtain ⟨p, rfl⟩ := hw'
        clear qa0 qa1 qe0 qe1 rk e0 e1 a0 a1
        have hb5 := below_regrown wr p.d p.os
        generalize grow (redrawn wr p.d) p.os = w5 at *
        go_wp2_with fail
        go_roundw
        case rel => exact ⟨k + 1, hlt, by go_num, hbr.trans (hb5.mono hbr.size)⟩
        case measure => simp [intOf]; omega
      · go_wp2_with fail
        refine (alive_any wr).mono ?_
        rintro e w6 ⟨rfl, hb6⟩
        go_wp2_with fail
        go_ret
        exact ⟨rfl, HBB.trans ((hbr.trans (hb6.mono hbr.size)).mono (by omega))⟩
  · have hsz : ¬ (a.size : Int) < b.size := by have := HQ.out; omega
    have qa0 := fun d os => cell_regrown a0 d os
    have qa1 := fun d os => cell_regrown a1 d os
    have qb0 := fun d os => cell_regrown b0 d os
    have qb1 := fun d os => cell_regrown b1 d os
    have za := fun d os => Calls.regrown_of (size_any a _ (grow (redrawn w2 d) os) w.heap.size (HRa1.out.later ((below_regrown w2 d os).mono hW1)) (Nat.le_trans hW1 (below_regrown w2 d os).size) (by omega))
    have zb := fun d os => Calls.regrown_of (size_any b _ (grow (redrawn w2 d) os) w.heap.size (HRb1.out.later ((below_regrown w2 d os).mono hW1)) (Nat.le_trans hW1 (below_regrown w2 d os).size) (by omega))
    refine wp_region_quiet_below (by kernel_rfl) (by kernel_rfl) ?_
    repeat (quiet_step (first | with_reducible exact za _ _ | with_reducible exact zb _ _))
    refine wpQuiet_nil ?_
    intro w' hw'
    obtain ⟨p, rfl⟩ := hw'
    clear qa0 qa1 qb0 qb1 za zb hsz
    have hb4 := below_regrown w2 p.d p.os
    have hb3' : Below W.heap.size W (grow (redrawn w2 p.d) p.os) := hb2'.trans (hb4.mono hb2'.size)
    generalize grow (redrawn w2 p.d) p.os = w3 at *
    clear hb4 a0 a1 b0 b1 HRb1 hW1
    obtain ⟨a0, a1⟩ := Ba.later hb3' (by omega)
    go_wp2_with fail
    go_loopw [10] (fun i wr => ∃ k : Nat, k ≤ a.l.length ∧ i = .int .i64 k ∧ Below W.heap.size W wr) (fun i _ => a.l.length - (intOf i).toNat)
    case atStart => exact ⟨0, Nat.zero_le _, rfl, hb3'⟩
    case round =>
      obtain ⟨k, hk, rfl, hbr⟩ := hrel
      clear a0 a1
      obtain ⟨a0, a1⟩ := Ba.later hbr (by omega)
      by_cases hlt : k < a.l.length
      · obtain ⟨oa', ca', he, _, _, hel⟩ := (HRa.out.later (hbr.mono hBW)).slice
        obtain ⟨b', off, oe, ce, hoe, hbl, e0, e1, hre⟩ := hel k _ (List.getElem?_eq_getElem hlt)
        cases he
        subst hoe
        obtain ⟨hck, hsk⟩ := HKA.out k hlt
        have hW1 : w.heap.size ≤ wr.heap.size := Nat.le_trans hBW hbr.size
        have HRa1 := Lib.hid (HRa.out.later (hbr.mono hBW))
        have HRe1 := Lib.hid hre
        have qa0 := fun d os => cell_regrown a0 d os
        have qa1 := fun d os => cell_regrown a1 d os
        have qe0 := fun d os => cell_regrown e0 d os
        have qe1 := fun d os => cell_regrown e1 d os
        have rk := fun d os => Calls.regrown_of (compare_any a.l[k] a _ _ (grow (redrawn wr d) os) w.heap.size (HRe1.out.later ((below_regrown wr d os).mono hW1)) (HRa1.out.later ((below_regrown wr d os).mono hW1)) (Nat.le_trans hW1 (below_regrown wr d os).size) (by omega) (by omega))
        rw [hck] at rk
        have q0 : (0 : Int) ≤ (k : Int) := by omega
        have q1 : (k : Int) < (a.l.length : Int) := by omega
        clear hel hre hck hsk
        go_wp2_with fail
        refine wp_region_quiet_below (by kernel_rfl) (by kernel_rfl) ?_
        repeat (quiet_step (first | with_reducible exact rk _ _))
        refine wpQuiet_nil ?_
        intro w' hw'
        obtain ⟨p, rfl⟩ := hw'
        clear qa0 qa1 qe0 qe1 rk e0 e1 a0 a1
        have hb5 := below_regrown wr p.d p.os
        generalize grow (redrawn wr p.d) p.os = w5 at *
        go_wp2_with fail
        go_roundw
        case rel => exact ⟨k + 1, hlt, by go_num, hbr.trans (hb5.mono hbr.size)⟩
        case measure => simp [intOf]; omega
      · go_wp2_with fail
        refine (alive_any wr).mono ?_
        rintro e w6 ⟨rfl, hb6⟩
        go_wp2_with fail
        go_ret
        exact ⟨rfl, HBB.trans ((hbr.trans (hb6.mono hbr.size)).mono (by omega))⟩
  · exfalso
    have := HQ.out
    omega
  · have hsz : ¬ (a.size : Int) < b.size := by have := HQ.out; omega
    have qa0 := fun d os => cell_regrown a0 d os
    have qa1 := fun d os => cell_regrown a1 d os
    have qb0 := fun d os => cell_regrown b0 d os
    have qb1 := fun d os => cell_regrown b1 d os
    have za := fun d os => Calls.regrown_of (size_any a _ (grow (redrawn w2 d) os) w.heap.size (HRa1.out.later ((below_regrown w2 d os).mono hW1)) (Nat.le_trans hW1 (below_regrown w2 d os).size) (by omega))
    have zb := fun d os => Calls.regrown_of (size_any b _ (grow (redrawn w2 d) os) w.heap.size (HRb1.out.later ((below_regrown w2 d os).mono hW1)) (Nat.le_trans hW1 (below_regrown w2 d os).size) (by omega))
    refine wp_region_quiet_below (by kernel_rfl) (by kernel_rfl) ?_
    repeat (quiet_step (first | with_reducible exact za _ _ | with_reducible exact zb _ _))
    refine wpQuiet_nil ?_
    intro w' hw'
    obtain ⟨p, rfl⟩ := hw'
    clear qa0 qa1 qb0 qb1 za zb hsz
    have hb4 := below_regrown w2 p.d p.os
    have hb3' : Below W.heap.size W (grow (redrawn w2 p.d) p.os) := hb2'.trans (hb4.mono hb2'.size)
    generalize grow (redrawn w2 p.d) p.os = w3 at *
    clear hb4 a0 a1 b0 b1 HRb1 hW1
    obtain ⟨a0, a1⟩ := Ba.later hb3' (by omega)
    go_wp2_with fail
    go_loopw [10] (fun i wr => ∃ k : Nat, k ≤ a.l.length ∧ i = .int .i64 k ∧ Below W.heap.size W wr) (fun i _ => a.l.length - (intOf i).toNat)
    case atStart => exact ⟨0, Nat.zero_le _, rfl, hb3'⟩
    case round =>
      obtain ⟨k, hk, rfl, hbr⟩ := hrel
      clear a0 a1
      obtain ⟨a0, a1⟩ := Ba.later hbr (by omega)
      by_cases hlt : k < a.l.length
      · obtain ⟨oa', ca', he, _, _, hel⟩ := (HRa.out.later (hbr.mono hBW)).slice
        obtain ⟨b', off, oe, ce, hoe, hbl, e0, e1, hre⟩ := hel k _ (List.getElem?_eq_getElem hlt)
        cases he
        subst hoe
        obtain ⟨hck, hsk⟩ := HKA.out k hlt
        have hW1 : w.heap.size ≤ wr.heap.size := Nat.le_trans hBW hbr.size
        have HRa1 := Lib.hid (HRa.out.later (hbr.mono hBW))
        have HRe1 := Lib.hid hre
        have qa0 := fun d os => cell_regrown a0 d os
        have qa1 := fun d os => cell_regrown a1 d os
        have qe0 := fun d os => cell_regrown e0 d os
        have qe1 := fun d os => cell_regrown e1 d os
        have rk := fun d os => Calls.regrown_of (compare_any a.l[k] a _ _ (grow (redrawn wr d) os) w.heap.size (HRe1.out.later ((below_regrown wr d os).mono hW1)) (HRa1.out.later ((below_regrown wr d os).mono hW1)) (Nat.le_trans hW1 (below_regrown wr d os).size) (by omega) (by omega))
        rw [hck] at rk
        have q0 : (0 : Int) ≤ (k : Int) := by omega
        have q1 : (k : Int) < (a.l.length : Int) := by omega
        clear hel hre hck hsk
        go_wp2_with fail
        refine wp_region_quiet_below (by kernel_rfl) (by kernel_rfl) ?_
        repeat (quiet_step (first | with_reducible exact rk _ _))
        refine wpQuiet_nil ?_
        intro w' hw'
        obtain ⟨p, rfl⟩ := hw'
        clear qa0 qa1 qe0 qe1 rk e0 e1 a0 a1
        have hb5 := below_regrown wr p.d p.os
        generalize grow (redrawn wr p.d) p.os = w5 at *
        go_wp2_with fail
        go_roundw
        case rel => exact ⟨k + 1, hlt, by go_num, hbr.trans (hb5.mono hbr.size)⟩
        case measure => simp [intOf]; omega
      · go_wp2_with fail
        refine (alive_any wr).mono ?_
        rintro e w6 ⟨rfl, hb6⟩
        go_wp2_with fail
        go_ret
        exact ⟨rfl, HBB.trans ((hbr.trans (hb6.mono hbr.size)).mono (by omega))⟩
  · have hsz : ¬ (a.size : Int) < b.size := by have := HQ.out; omega
    have qa0 := fun d os => cell_regrown a0 d os
    have qa1 := fun d os => cell_regrown a1 d os
    have qb0 := fun d os => cell_regrown b0 d os
    have qb1 := fun d os => cell_regrown b1 d os
    have za := fun d os => Calls.regrown_of (size_any a _ (grow (redrawn w2 d) os) w.heap.size (HRa1.out.later ((below_regrown w2 d os).mono hW1)) (Nat.le_trans hW1 (below_regrown w2 d os).size) (by omega))
    have zb := fun d os => Calls.regrown_of (size_any b _ (grow (redrawn w2 d) os) w.heap.size (HRb1.out.later ((below_regrown w2 d os).mono hW1)) (Nat.le_trans hW1 (below_regrown w2 d os).size) (by omega))
    refine wp_region_quiet_below (by kernel_rfl) (by kernel_rfl) ?_
    repeat (quiet_step (first | with_reducible exact za _ _ | with_reducible exact zb _ _))
    refine wpQuiet_nil ?_
    intro w' hw'
    obtain ⟨p, rfl⟩ := hw'
    clear qa0 qa1 qb0 qb1 za zb hsz
    have hb4 := below_regrown w2 p.d p.os
    have hb3' : Below W.heap.size W (grow (redrawn w2 p.d) p.os) := hb2'.trans (hb4.mono hb2'.size)
    generalize grow (redrawn w2 p.d) p.os = w3 at *
    clear hb4 a0 a1 b0 b1 HRb1 hW1
    obtain ⟨a0, a1⟩ := Ba.later hb3' (by omega)
    go_wp2_with fail
    go_loopw [10] (fun i wr => ∃ k : Nat, k ≤ a.l.length ∧ i = .int .i64 k ∧ Below W.heap.size W wr) (fun i _ => a.l.length - (intOf i).toNat)
    case atStart => exact ⟨0, Nat.zero_le _, rfl, hb3'⟩
    case round =>
      obtain ⟨k, hk, rfl, hbr⟩ := hrel
      clear a0 a1
      obtain ⟨a0, a1⟩ := Ba.later hbr (by omega)
      by_cases hlt : k < a.l.length
      · obtain ⟨oa', ca', he, _, _, hel⟩ := (HRa.out.later (hbr.mono hBW)).slice
        obtain ⟨b', off, oe, ce, hoe, hbl, e0, e1, hre⟩ := hel k _ (List.getElem?_eq_getElem hlt)
        cases he
        subst hoe
        obtain ⟨hck, hsk⟩ := HKA.out k hlt
        have hW1 : w.heap.size ≤ wr.heap.size := Nat.le_trans hBW hbr.size
        have HRa1 := Lib.hid (HRa.out.later (hbr.mono hBW))
        have HRe1 := Lib.hid hre
        have qa0 := fun d os => cell_regrown a0 d os
        have qa1 := fun d os => cell_regrown a1 d os
        have qe0 := fun d os => cell_regrown e0 d os
        have qe1 := fun d os => cell_regrown e1 d os
        have rk := fun d os => Calls.regrown_of (compare_any a.l[k] a _ _ (grow (redrawn wr d) os) w.heap.size (HRe1.out.later ((below_regrown wr d os).mono hW1)) (HRa1.out.later ((below_regrown wr d os).mono hW1)) (Nat.le_trans hW1 (below_regrown wr d os).size) (by omega) (by omega))
        rw [hck] at rk
        have q0 : (0 : Int) ≤ (k : Int) := by omega
        have q1 : (k : Int) < (a.l.length : Int) := by omega
        clear hel hre hck hsk
        go_wp2_with fail
        refine wp_region_quiet_below (by kernel_rfl) (by kernel_rfl) ?_
        repeat (quiet_step (first | with_reducible exact rk _ _))
        refine wpQuiet_nil ?_
        intro w' hw'
        obtain ⟨p, rfl⟩ := hw'
        clear qa0 qa1 qe0 qe1 rk e0 e1 a0 a1
        have hb5 := below_regrown wr p.d p.os
        generalize grow (redrawn wr p.d) p.os = w5 at *
        go_wp2_with fail
        go_roundw
        case rel => exact ⟨k + 1, hlt, by go_num, hbr.trans (hb5.mono hbr.size)⟩
        case measure => simp [intOf]; omega
      · go_wp2_with fail
        refine (alive_any wr).mono ?_
        rintro e w6 ⟨rfl, hb6⟩
        go_wp2_with fail
        go_ret
        exact ⟨rfl, HBB.trans ((hbr.trans (hb6.mono hbr.size)).mono (by omega))⟩
  · exfalso
    have := HQ.out
    omega
  · have hsz : ¬ (a.size : Int) < b.size := by have := HQ.out; omega
    have qa0 := fun d os => cell_regrown a0 d os
    have qa1 := fun d os => cell_regrown a1 d os
    have qb0 := fun d os => cell_regrown b0 d os
    have qb1 := fun d os => cell_regrown b1 d os
    have za := fun d os => Calls.regrown_of (size_any a _ (grow (redrawn w2 d) os) w.heap.size (HRa1.out.later ((below_regrown w2 d os).mono hW1)) (Nat.le_trans hW1 (below_regrown w2 d os).size) (by omega))
    have zb := fun d os => Calls.regrown_of (size_any b _ (grow (redrawn w2 d) os) w.heap.size (HRb1.out.later ((below_regrown w2 d os).mono hW1)) (Nat.le_trans hW1 (below_regrown w2 d os).size) (by omega))
    refine wp_region_quiet_below (by kernel_rfl) (by kernel_rfl) ?_
    repeat (quiet_step (first | with_reducible exact za _ _ | with_reducible exact zb _ _))
    refine wpQuiet_nil ?_
    intro w' hw'
    obtain ⟨p, rfl⟩ := hw'
    clear qa0 qa1 qb0 qb1 za zb hsz
    have hb4 := below_regrown w2 p.d p.os
    have hb3' : Below W.heap.size W (grow (redrawn w2 p.d) p.os) := hb2'.trans (hb4.mono hb2'.size)
    generalize grow (redrawn w2 p.d) p.os = w3 at *
    clear hb4 a0 a1 b0 b1 HRb1 hW1
    obtain ⟨a0, a1⟩ := Ba.later hb3' (by omega)
    go_wp2_with fail
    go_loopw [10] (fun i wr => ∃ k : Nat, k ≤ a.l.length ∧ i = .int .i64 k ∧ Below W.heap.size W wr) (fun i _ => a.l.length - (intOf i).toNat)
    case atStart => exact ⟨0, Nat.zero_le _, rfl, hb3'⟩
    case round =>
      obtain ⟨k, hk, rfl, hbr⟩ := hrel
      clear a0 a1
      obtain ⟨a0, a1⟩ := Ba.later hbr (by omega)
      by_cases hlt : k < a.l.length
      · obtain ⟨oa', ca', he, _, _, hel⟩ := (HRa.out.later (hbr.mono hBW)).slice
        obtain ⟨b', off, oe, ce, hoe, hbl, e0, e1, hre⟩ := hel k _ (List.getElem?_eq_getElem hlt)
        cases he
        subst hoe
        obtain ⟨hck, hsk⟩ := HKA.out k hlt
        have hW1 : w.heap.size ≤ wr.heap.size := Nat.le_trans hBW hbr.size
        have HRa1 := Lib.hid (HRa.out.later (hbr.mono hBW))
        have HRe1 := Lib.hid hre
        have qa0 := fun d os => cell_regrown a0 d os
        have qa1 := fun d os => cell_regrown a1 d os
        have qe0 := fun d os => cell_regrown e0 d os
        have qe1 := fun d os => cell_regrown e1 d os
        have rk := fun d os => Calls.regrown_of (compare_any a.l[k] a _ _ (grow (redrawn wr d) os) w.heap.size (HRe1.out.later ((below_regrown wr d os).mono hW1)) (HRa1.out.later ((below_regrown wr d os).mono hW1)) (Nat.le_trans hW1 (below_regrown wr d os).size) (by omega) (by omega))
        rw [hck] at rk
        have q0 : (0 : Int) ≤ (k : Int) := by omega
        have q1 : (k : Int) < (a.l.length : Int) := by omega
        clear hel hre hck hsk
        go_wp2_with fail
        refine wp_region_quiet_below (by kernel_rfl) (by kernel_rfl) ?_
        repeat (quiet_step (first | with_reducible exact rk _ _))
        refine wpQuiet_nil ?_
        intro w' hw'
        obtain ⟨p, rfl⟩ := hw'
        clear qa0 qa1 qe0 qe1 rk e0 e1 a0 a1
        have hb5 := below_regrown wr p.d p.os
        generalize grow (redrawn wr p.d) p.os = w5 at *
        go_wp2_with fail
        go_roundw
        case rel => exact ⟨k + 1, hlt, by go_num, hbr.trans (hb5.mono hbr.size)⟩
        case measure => simp [intOf]; omega
      · go_wp2_with fail
        refine (alive_any wr).mono ?_
        rintro e w6 ⟨rfl, hb6⟩
        go_wp2_with fail
        go_ret
        exact ⟨rfl, HBB.trans ((hbr.trans (hb6.mono hbr.size)).mono (by omega))⟩
  · have hsz : ¬ (a.size : Int) < b.size := by have := HQ.out; omega
    have qa0 := fun d os => cell_regrown a0 d os
    have qa1 := fun d os => cell_regrown a1 d os
    have qb0 := fun d os => cell_regrown b0 d os
    have qb1 := fun d os => cell_regrown b1 d os
    have za := fun d os => Calls.regrown_of (size_any a _ (grow (redrawn w2 d) os) w.heap.size (HRa1.out.later ((below_regrown w2 d os).mono hW1)) (Nat.le_trans hW1 (below_regrown w2 d os).size) (by omega))
    have zb := fun d os => Calls.regrown_of (size_any b _ (grow (redrawn w2 d) os) w.heap.size (HRb1.out.later ((below_regrown w2 d os).mono hW1)) (Nat.le_trans hW1 (below_regrown w2 d os).size) (by omega))
    refine wp_region_quiet_below (by kernel_rfl) (by kernel_rfl) ?_
    repeat (quiet_step (first | with_reducible exact za _ _ | with_reducible exact zb _ _))
    refine wpQuiet_nil ?_
    intro w' hw'
    obtain ⟨p, rfl⟩ := hw'
    clear qa0 qa1 qb0 qb1 za zb hsz
    have hb4 := below_regrown w2 p.d p.os
    have hb3' : Below W.heap.size W (grow (redrawn w2 p.d) p.os) := hb2'.trans (hb4.mono hb2'.size)
    generalize grow (redrawn w2 p.d) p.os = w3 at *
    clear hb4 a0 a1 b0 b1 HRb1 hW1
    obtain ⟨a0, a1⟩ := Ba.later hb3' (by omega)
    go_wp2_with fail
    go_loopw [10] (fun i wr => ∃ k : Nat, k ≤ a.l.length ∧ i = .int .i64 k ∧ Below W.heap.size W wr) (fun i _ => a.l.length - (intOf i).toNat)
    case atStart => exact ⟨0, Nat.zero_le _, rfl, hb3'⟩
    case round =>
      obtain ⟨k, hk, rfl, hbr⟩ := hrel
      clear a0 a1
      obtain ⟨a0, a1⟩ := Ba.later hbr (by omega)
      by_cases hlt : k < a.l.length
      · obtain ⟨oa', ca', he, _, _, hel⟩ := (HRa.out.later (hbr.mono hBW)).slice
        obtain ⟨b', off, oe, ce, hoe, hbl, e0, e1, hre⟩ := hel k _ (List.getElem?_eq_getElem hlt)
        cases he
        subst hoe
        obtain ⟨hck, hsk⟩ := HKA.out k hlt
        have hW1 : w.heap.size ≤ wr.heap.size := Nat.le_trans hBW hbr.size
        have HRa1 := Lib.hid (HRa.out.later (hbr.mono hBW))
        have HRe1 := Lib.hid hre
        have qa0 := fun d os => cell_regrown a0 d os
        have qa1 := fun d os => cell_regrown a1 d os
        have qe0 := fun d os => cell_regrown e0 d os
        have qe1 := fun d os => cell_regrown e1 d os
        have rk := fun d os => Calls.regrown_of (compare_any a.l[k] a _ _ (grow (redrawn wr d) os) w.heap.size (HRe1.out.later ((below_regrown wr d os).mono hW1)) (HRa1.out.later ((below_regrown wr d os).mono hW1)) (Nat.le_trans hW1 (below_regrown wr d os).size) (by omega) (by omega))
        rw [hck] at rk
        have q0 : (0 : Int) ≤ (k : Int) := by omega
        have q1 : (k : Int) < (a.l.length : Int) := by omega
        clear hel hre hck hsk
        go_wp2_with fail
        refine wp_region_quiet_below (by kernel_rfl) (by kernel_rfl) ?_
        repeat (quiet_step (first | with_reducible exact rk _ _))
        refine wpQuiet_nil ?_
        intro w' hw'
        obtain ⟨p, rfl⟩ := hw'
        clear qa0 qa1 qe0 qe1 rk e0 e1 a0 a1
        have hb5 := below_regrown wr p.d p.os
        generalize grow (redrawn wr p.d) p.os = w5 at *
        go_wp2_with fail
        go_roundw
        case rel => exact ⟨k + 1, hlt, by go_num, hbr.trans (hb5.mono hbr.size)⟩
        case measure => simp [intOf]; omega
      · go_wp2_with fail
        refine (alive_any wr).mono ?_
        rintro e w6 ⟨rfl, hb6⟩
        go_wp2_with fail
        go_ret
        exact ⟨rfl, HBB.trans ((hbr.trans (hb6.mono hbr.size)).mono (by omega))⟩

end Go.Proofs.Ytdfhfljmcakilaa
