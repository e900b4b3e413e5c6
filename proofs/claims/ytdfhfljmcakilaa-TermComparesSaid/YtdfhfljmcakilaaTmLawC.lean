/-
  The walk of TermCompares. Nothing is assumed.
-/
import Derived.Test.YtdfhfljmcakilaaTmRCmp
import Derived.Test.YtdfhfljmcakilaaTmLaw0
import Derived.Lib.QuietBelow
import Derived.BigQuiet
namespace Go.Proofs.Ytdfhfljmcakilaa
open Go.RowKit
open Go.Sort (grow)

set_option maxRecDepth 100000 in
set_option maxHeartbeats 6400000 in
theorem lawCompares_any (a b : T) (sa sb : Value) (w : World) (hra : Rep w w.heap.size sa a.l) (hrb : Rep w w.heap.size sb b.l) :
    Calls Try.prog 4 #[.agg #[.int .i64 a.r, sa], .agg #[.int .i64 b.r, sb]] w fun e w' => e = .returned (.bool true) ∧ Below w.heap.size w w' := by
  have HRa := Lib.hid hra
  obtain ⟨oa, ca, rfl, _, _⟩ := hra.form
  clear hra
  have HRb := Lib.hid hrb
  obtain ⟨ob, cb, rfl, _, _⟩ := hrb.form
  clear hrb
  have HB1 : Below w.heap.size w ((w.alloc (.cells #[.int .i64 a.r, .slice oa a.l.length ca] 24)).alloc (.cells #[.int .i64 b.r, .slice ob b.l.length cb] 24)) := below2 _ _ _
  have HBB : Below w.heap.size w (((w.alloc (.cells #[.int .i64 a.r, .slice oa a.l.length ca] 24)).alloc (.cells #[.int .i64 b.r, .slice ob b.l.length cb] 24)).alloc (.cells #[.int .i64 a.r, .slice oa a.l.length ca, .int .i64 b.r, .slice ob b.l.length cb] 24)) := HB1.alloc (by simp <;> omega) _
  have Ba : Box (((w.alloc (.cells #[.int .i64 a.r, .slice oa a.l.length ca] 24)).alloc (.cells #[.int .i64 b.r, .slice ob b.l.length cb] 24)).alloc (.cells #[.int .i64 a.r, .slice oa a.l.length ca, .int .i64 b.r, .slice ob b.l.length cb] 24)) (w.heap.size) a (.slice oa a.l.length ca) := by
    have h := Box.new (w := w) (n := w.heap.size) a (.slice oa a.l.length ca) 24 (by simp)
    exact h.later (B := w.heap.size + 1) (((Below.refl _ _).alloc (by simp <;> omega) _).alloc (by simp <;> omega) _) (by omega)
  have Bb : Box (((w.alloc (.cells #[.int .i64 a.r, .slice oa a.l.length ca] 24)).alloc (.cells #[.int .i64 b.r, .slice ob b.l.length cb] 24)).alloc (.cells #[.int .i64 a.r, .slice oa a.l.length ca, .int .i64 b.r, .slice ob b.l.length cb] 24)) (w.heap.size + 1) b (.slice ob b.l.length cb) := by
    have h := Box.new (w := (w.alloc (.cells #[.int .i64 a.r, .slice oa a.l.length ca] 24))) (n := w.heap.size + 1) b (.slice ob b.l.length cb) 24 (by simp)
    exact h.later (B := w.heap.size + 2) ((Below.refl _ _).alloc (by simp <;> omega) _) (by omega)
  have hzz : (((w.alloc (.cells #[.int .i64 a.r, .slice oa a.l.length ca] 24)).alloc (.cells #[.int .i64 b.r, .slice ob b.l.length cb] 24)).alloc (.cells #[.int .i64 a.r, .slice oa a.l.length ca, .int .i64 b.r, .slice ob b.l.length cb] 24)).heap.size = w.heap.size + 3 := by simp
  have hR1 := Rep.new2 (w := ((w.alloc (.cells #[.int .i64 a.r, .slice oa a.l.length ca] 24)).alloc (.cells #[.int .i64 b.r, .slice ob b.l.length cb] 24))) (B := w.heap.size) (t := 24) (C := w.heap.size + 3) (HRa.out.later HB1) (HRb.out.later HB1) (by simp <;> omega) (n := w.heap.size + 2) (by simp) (by omega)
  have HSM := Lib.hid (small_any [a, b] _ _ _ hR1 (by simp))
  rw [small_two] at HSM
  clear hR1 HB1
  have HRa := Lib.hid (HRa.out.later HBB)
  have HRb := Lib.hid (HRb.out.later HBB)
  go_enter Try.func4, Try.ntmps4
  go_wp2_with fail
  generalize (((w.alloc (.cells #[.int .i64 a.r, .slice oa a.l.length ca] 24)).alloc (.cells #[.int .i64 b.r, .slice ob b.l.length cb] 24)).alloc (.cells #[.int .i64 a.r, .slice oa a.l.length ca, .int .i64 b.r, .slice ob b.l.length cb] 24)) = W at *
  refine HSM.out.mono ?_
  rintro e w1 ⟨rfl, hb1⟩
  have hBW : w.heap.size ≤ W.heap.size := by omega
  clear HSM
  by_cases hs : a.size ≤ 40 ∧ b.size ≤ 40
  case neg =>
    have hq : (decide (a.size ≤ 40) && decide (b.size ≤ 40)) = false := by
      rw [Bool.eq_false_iff]
      intro h
      simp at h
      exact hs (by omega)
    rw [hq]
    go_wp2_with fail
    refine (alive_any w1).mono ?_
    rintro e w2 ⟨rfl, hb2⟩
    go_wp2_with fail
    go_ret
    exact ⟨rfl, HBB.trans ((hb1.trans (hb2.mono hb1.size)).mono (by omega))⟩
  have hq : (decide (a.size ≤ 40) && decide (b.size ≤ 40)) = true := by
    simp
    omega
  rw [hq]
  clear hq
  obtain ⟨hsa, hsb⟩ := hs
  obtain ⟨a0, a1⟩ := Ba.later hb1 (by omega)
  have HRa1 := Lib.hid (HRa.out.later (hb1.mono hBW))
  obtain ⟨b0, b1⟩ := Bb.later hb1 (by omega)
  have HRb1 := Lib.hid (HRb.out.later (hb1.mono hBW))
  have hW1 : w.heap.size ≤ w1.heap.size := Nat.le_trans hBW hb1.size
  go_wp2_with fail
  refine (rcompare_any a b _ _ _ w.heap.size HRa1.out HRb1.out hW1 (by omega) (by omega)).mono ?_
  rintro e w2 ⟨rfl, hb2⟩
  have hb2' : Below W.heap.size W w2 := hb1.trans (hb2.mono hb1.size)
  clear a0 a1 b0 b1 HRa1 HRb1 hW1
  obtain ⟨a0, a1⟩ := Ba.later hb2' (by omega)
  obtain ⟨b0, b1⟩ := Bb.later hb2' (by omega)
  have HRa1 := Lib.hid (HRa.out.later (hb2'.mono hBW))
  have HRb1 := Lib.hid (HRb.out.later (hb2'.mono hBW))
  have hW1 : w.heap.size ≤ w2.heap.size := Nat.le_trans hBW hb2'.size
  have hx : a.cmp b = -1 ∨ a.cmp b = 0 ∨ a.cmp b = 1 := by have := T.cmp_range a b; omega
  have hy := T.cmp_swap a b
  clear hb1 hb2
  rcases hx with hx | hx | hx
  · have hy : b.cmp a = 1 := by omega
    rw [hx]
    go_wp2_with fail
    refine (compare_any a b _ _ _ w.heap.size HRa1.out HRb1.out hW1 (by omega) (by omega)).mono ?_
    rintro e w3 ⟨rfl, hb3⟩
    rw [hx]
    have hb3' : Below W.heap.size W w3 := hb2'.trans (hb3.mono hb2'.size)
    clear a0 a1 HRa1 b0 b1 HRb1 hW1 hb3
    obtain ⟨a0, a1⟩ := Ba.later hb3' (by omega)
    have HRa1 := Lib.hid (HRa.out.later (hb3'.mono hBW))
    obtain ⟨b0, b1⟩ := Bb.later hb3' (by omega)
    have HRb1 := Lib.hid (HRb.out.later (hb3'.mono hBW))
    have hW1 : w.heap.size ≤ w3.heap.size := Nat.le_trans hBW hb3'.size
    go_wp2_with fail
    refine (compare_any b a _ _ _ w.heap.size HRb1.out HRa1.out hW1 (by omega) (by omega)).mono ?_
    rintro e w4 ⟨rfl, hb4⟩
    rw [hy]
    have hb4' : Below W.heap.size W w4 := hb3'.trans (hb4.mono hb3'.size)
    clear a0 a1 HRa1 b0 b1 HRb1 hW1 hb4
    obtain ⟨a0, a1⟩ := Ba.later hb4' (by omega)
    have HRa1 := Lib.hid (HRa.out.later (hb4'.mono hBW))
    obtain ⟨b0, b1⟩ := Bb.later hb4' (by omega)
    have HRb1 := Lib.hid (HRb.out.later (hb4'.mono hBW))
    have hW1 : w.heap.size ≤ w4.heap.size := Nat.le_trans hBW hb4'.size
    go_wp2_with fail
    refine (alive_any w4).mono ?_
    rintro e w5 ⟨rfl, hb5⟩
    go_wp2_with fail
    go_ret
    exact ⟨rfl, HBB.trans ((hb4'.trans (hb5.mono hb4'.size)).mono (by omega))⟩
  · have hy : b.cmp a = 0 := by omega
    rw [hx]
    go_wp2_with fail
    refine (compare_any a b _ _ _ w.heap.size HRa1.out HRb1.out hW1 (by omega) (by omega)).mono ?_
    rintro e w3 ⟨rfl, hb3⟩
    rw [hx]
    have hb3' : Below W.heap.size W w3 := hb2'.trans (hb3.mono hb2'.size)
    clear a0 a1 HRa1 b0 b1 HRb1 hW1 hb3
    obtain ⟨a0, a1⟩ := Ba.later hb3' (by omega)
    have HRa1 := Lib.hid (HRa.out.later (hb3'.mono hBW))
    obtain ⟨b0, b1⟩ := Bb.later hb3' (by omega)
    have HRb1 := Lib.hid (HRb.out.later (hb3'.mono hBW))
    have hW1 : w.heap.size ≤ w3.heap.size := Nat.le_trans hBW hb3'.size
    go_wp2_with fail
    refine (compare_any b a _ _ _ w.heap.size HRb1.out HRa1.out hW1 (by omega) (by omega)).mono ?_
    rintro e w4 ⟨rfl, hb4⟩
    rw [hy]
    have hb4' : Below W.heap.size W w4 := hb3'.trans (hb4.mono hb3'.size)
    clear a0 a1 HRa1 b0 b1 HRb1 hW1 hb4
    obtain ⟨a0, a1⟩ := Ba.later hb4' (by omega)
    have HRa1 := Lib.hid (HRa.out.later (hb4'.mono hBW))
    obtain ⟨b0, b1⟩ := Bb.later hb4' (by omega)
    have HRb1 := Lib.hid (HRb.out.later (hb4'.mono hBW))
    have hW1 : w.heap.size ≤ w4.heap.size := Nat.le_trans hBW hb4'.size
    go_wp2_with fail
    refine (alive_any w4).mono ?_
    rintro e w5 ⟨rfl, hb5⟩
    go_wp2_with fail
    go_ret
    exact ⟨rfl, HBB.trans ((hb4'.trans (hb5.mono hb4'.size)).mono (by omega))⟩
  · have hy : b.cmp a = -1 := by omega
    rw [hx]
    go_wp2_with fail
    refine (compare_any a b _ _ _ w.heap.size HRa1.out HRb1.out hW1 (by omega) (by omega)).mono ?_
    rintro e w3 ⟨rfl, hb3⟩
    rw [hx]
    have hb3' : Below W.heap.size W w3 := hb2'.trans (hb3.mono hb2'.size)
    clear a0 a1 HRa1 b0 b1 HRb1 hW1 hb3
    obtain ⟨a0, a1⟩ := Ba.later hb3' (by omega)
    have HRa1 := Lib.hid (HRa.out.later (hb3'.mono hBW))
    obtain ⟨b0, b1⟩ := Bb.later hb3' (by omega)
    have HRb1 := Lib.hid (HRb.out.later (hb3'.mono hBW))
    have hW1 : w.heap.size ≤ w3.heap.size := Nat.le_trans hBW hb3'.size
    go_wp2_with fail
    refine (compare_any b a _ _ _ w.heap.size HRb1.out HRa1.out hW1 (by omega) (by omega)).mono ?_
    rintro e w4 ⟨rfl, hb4⟩
    rw [hy]
    have hb4' : Below W.heap.size W w4 := hb3'.trans (hb4.mono hb3'.size)
    clear a0 a1 HRa1 b0 b1 HRb1 hW1 hb4
    obtain ⟨a0, a1⟩ := Ba.later hb4' (by omega)
    have HRa1 := Lib.hid (HRa.out.later (hb4'.mono hBW))
    obtain ⟨b0, b1⟩ := Bb.later hb4' (by omega)
    have HRb1 := Lib.hid (HRb.out.later (hb4'.mono hBW))
    have hW1 : w.heap.size ≤ w4.heap.size := Nat.le_trans hBW hb4'.size
    go_wp2_with fail
    refine (alive_any w4).mono ?_
    rintro e w5 ⟨rfl, hb5⟩
    go_wp2_with fail
    go_ret
    exact ⟨rfl, HBB.trans ((hb4'.trans (hb5.mono hb4'.size)).mono (by omega))⟩

end Go.Proofs.Ytdfhfljmcakilaa
