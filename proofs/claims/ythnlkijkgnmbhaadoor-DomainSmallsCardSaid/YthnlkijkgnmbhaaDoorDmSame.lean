/-
  Same of the reference, of two domains with the same axes. Nothing is assumed.
-/
import Derived.Test.YthnlkijkgnmbhaaDoorDmAtA
namespace Go.Proofs.YthnlkijkgnmbhaaDoor
open Go.RowKit
open Go.Sort (grow)

set_option maxRecDepth 100000 in
set_option maxHeartbeats 1600000 in
theorem same_any (l : List (List V)) (x y : Value) (w : World) (B : Nat) (hx : LAx w B x l) (hy : LAx w B y l) (hB : B ≤ w.heap.size) :
    Calls Tryd.prog 16 #[.agg #[x], .agg #[y]] w fun e w' => e = .returned (.bool true) ∧ Below w.heap.size w w' := by
  have HX := Lib.hid hx
  have HY := Lib.hid hy
  obtain ⟨oa, ca, rfl, _, hlm⟩ := hx.form
  obtain ⟨oy, cy, rfl, _, _⟩ := hy.form
  clear hx hy
  obtain ⟨w0, hw0⟩ : ∃ w0, w0 = (w.alloc (.cells #[.slice oa l.length ca] 24)).alloc (.cells #[.slice oy l.length cy] 24) := ⟨_, rfl⟩
  have HB0 := Lib.hid (show Below w.heap.size w w0 from by rw [hw0]; exact (below1 w _).trans ((below1 _ _).mono (by simp)))
  have hs0 : w0.heap.size = w.heap.size + 2 := by rw [hw0]; simp
  have hd : w0.cell? ⟨w.heap.size, 0, none⟩ = some (.slice oa l.length ca) := by
    rw [hw0]
    exact ((below1 _ _).cell (p := ⟨w.heap.size, 0, none⟩) (by simp)).trans (cell_at _ _ _ _ _ rfl)
  have he : w0.cell? ⟨w.heap.size + 1, 0, none⟩ = some (.slice oy l.length cy) := by
    rw [hw0]
    have h := cell_at (w.alloc (.cells #[.slice oa l.length ca] 24)) #[.slice oy l.length cy] 24 0 _ rfl
    rw [World.size_alloc] at h
    exact h
  have HD := Lib.hid (And.intro hd he)
  go_enter Tryd.func16, Tryd.ntmps16
  go_wp2_with fail
  rw [← hw0]
  clear hw0
  go_wp2_with fail
  go_loopw [5] (fun i wr => ∃ k : Nat, k ≤ l.length ∧ i = .int .i64 k ∧ Below w0.heap.size w0 wr) (fun i _ => l.length - (intOf i).toNat)
  case atStart => exact ⟨0, Nat.zero_le _, rfl, Below.refl _ _⟩
  case round =>
    obtain ⟨k, hk, rfl, hbel⟩ := hrel
    have HBW := Lib.hid (HB0.out.trans (hbel.mono (by omega)))
    have hd1 := (hbel.cell (p := ⟨w.heap.size, 0, none⟩) (by simp; omega)).trans HD.out.1
    have he1 := (hbel.cell (p := ⟨w.heap.size + 1, 0, none⟩) (by simp; omega)).trans HD.out.2
    clear hd he
    by_cases hlt : k < l.length
    · obtain ⟨b, off, oe, ce, rfl, hb, hc, hr⟩ := HX.out.at_ (List.getElem?_eq_getElem hlt)
      obtain ⟨b2, off2, oe2, ce2, rfl, hb2, hc2, hr2⟩ := HY.out.at_ (List.getElem?_eq_getElem hlt)
      rw [← HBW.out.cell (p := ⟨b, _, none⟩) (Nat.lt_of_lt_of_le hb hB)] at hc
      rw [← HBW.out.cell (p := ⟨b2, _, none⟩) (Nat.lt_of_lt_of_le hb2 hB)] at hc2
      have hki : (k : Int) < (l.length : Int) := by omega
      have hki0 : (0 : Int) ≤ (k : Int) := by omega
      obtain ⟨a, hak⟩ : ∃ a, l[k] = a := ⟨_, rfl⟩
      rw [hak] at hc hr hc2 hr2
      have hsr := HBW.out.size
      have q0 := fun d os => cell_regrown hd1 d os
      have q1 := fun d os => cell_regrown he1 d os
      have p0 := fun d os => cell_regrown hc d os
      have p1 := fun d os => cell_regrown hc2 d os
      have re := fun d os => Calls.regrown_of (equalAll_any a a (.slice oe a.length ce) (.slice oe2 a.length ce2) (grow (redrawn wr d) os) B ((hr.later (HBW.out.mono hB)).later ((below_regrown wr d os).mono (Nat.le_trans hB hsr))) ((hr2.later (HBW.out.mono hB)).later ((below_regrown wr d os).mono (Nat.le_trans hB hsr))) (Nat.le_trans (Nat.le_trans hB hsr) (below_regrown wr d os).size))
      rw [V.eqs_self] at re
      clear hr hr2 hc hc2 hak
      go_wp2_with fail
      refine wp_region_quiet_below (by kernel_rfl) (by kernel_rfl) ?_
      repeat (quiet_step (first | with_reducible exact re _ _))
      refine wpQuiet_nil ?_
      intro w' hw'
      obtain ⟨p, rfl⟩ := hw'
      have HB5 := Lib.hid (hbel.trans ((below_regrown wr p.d p.os).mono hbel.size))
      generalize grow (redrawn wr p.d) p.os = w5 at *
      clear q0 q1 p0 p1 re hd1 he1
      go_wp2_with fail
      go_roundw
      case rel => exact ⟨k + 1, hlt, by go_num, HB5.out⟩
      case measure => simp [intOf]; omega
    · go_wp2_with fail
      go_ret
      exact ⟨rfl, HBW.out⟩

end Go.Proofs.YthnlkijkgnmbhaaDoor
