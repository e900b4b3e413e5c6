/-
  The walk of DomainIndexes. Nothing is assumed.
-/
import Derived.Test.YthfdlaphglpnpaaDoorDmRix
namespace Go.Proofs.YthfdlaphglpnpaaDoor
open Go.RowKit

set_option maxRecDepth 100000 in
set_option maxHeartbeats 1600000 in
theorem lawIndexes_any (l : List (List V)) (x y : Value) (tu : List V) (w : World) (hx : LAx w w.heap.size x l) (hy : Rep w w.heap.size y tu) (hN : Names w) :
    Calls Tryd.prog 6 #[.agg #[x], y] w fun e w' => e = .returned (.bool true) ∧ Below w.heap.size w w' := by
  have HX := Lib.hid hx
  have HY := Lib.hid hy
  obtain ⟨oa, ca, rfl, _, hlm⟩ := hx.form
  obtain ⟨oy, cy, rfl, _, hym, _⟩ := hy.slice
  clear hx hy
  obtain ⟨w0, hw0⟩ : ∃ w0, w0 = w.alloc (.cells #[.slice oa l.length ca] 24) := ⟨_, rfl⟩
  have hb0 : Below w.heap.size w w0 := by rw [hw0]; exact below1 _ _
  have hd : w0.cell? ⟨w.heap.size, 0, none⟩ = some (.slice oa l.length ca) := by rw [hw0]; exact cell_at _ _ _ _ _ rfl
  have hs0 : w.heap.size + 1 ≤ w0.heap.size := by rw [hw0]; simp
  have HSM := Lib.hid (smallD_any l _ w0 w.heap.size (HX.out.later hb0) (by omega))
  have HN0 := Lib.hid (show ∀ w', Below w.heap.size w w' → Names w' from fun w' h => hN.later h)
  rw [hw0] at HSM hd
  go_enter Tryd.func6, Tryd.ntmps6
  go_wp2_with fail
  refine HSM.out.mono ?_
  rw [← hw0] at hd ⊢
  rintro e w1 ⟨rfl, hb1⟩
  have HB1 := Lib.hid (hb0.trans (hb1.mono (by omega)))
  have hd1 := (hb1.cell (p := ⟨w.heap.size, 0, none⟩) (by simp; omega)).trans hd
  have hs1 := hb1.size
  clear hb1 hb0 hd hw0 hN
  have fin : ∀ w9, Below w.heap.size w w9 → Calls Tryd.prog 14 #[] w9 fun e w' => e = .returned (.bool true) ∧ Below w.heap.size w w' := fun w9 h => (alive_any w9 (HN0.out _ h)).mono fun e w' ⟨h1, h2⟩ => ⟨h1, h.trans (h2.mono h.size)⟩
  have FIN := Lib.hid fin
  clear fin
  by_cases hsm : smD l = true
  · have HSM2 := Lib.hid hsm
    have HFW := Lib.hid (few_any tu _ w1 w.heap.size (HY.out.later HB1.out) (by omega))
    go_wp2_with fail
    refine HFW.out.mono ?_
    rintro e w2 ⟨rfl, hb2⟩
    have hd2 := (hb2.cell (p := ⟨w.heap.size, 0, none⟩) (by simp; omega)).trans hd1
    have HB2 := Lib.hid (HB1.out.trans (hb2.mono (by omega)))
    have hs2 := hb2.size
    clear hb2 hd1
    by_cases hfw : fewL tu = true
    · have HFW2 := Lib.hid hfw
      have HA := Lib.hid (index_any l tu _ _ w2 w.heap.size (HX.out.later HB2.out) (HY.out.later HB2.out) (by omega))
      go_wp2_with fail
      refine HA.out.mono ?_
      rintro e w3 ⟨rfl, hb3⟩
      have hd3 := (hb3.cell (p := ⟨w.heap.size, 0, none⟩) (by simp; omega)).trans hd2
      have HB3 := Lib.hid (HB2.out.trans (hb3.mono (by omega)))
      have hs3 := hb3.size
      clear hb3 hd2
      have HR := Lib.hid (rindex_any l tu _ _ w3 w.heap.size (HX.out.later HB3.out) (HY.out.later HB3.out) (by omega))
      go_wp2_with fail
      refine HR.out.mono ?_
      rintro e w4 ⟨rfl, hb4⟩
      have HB4 := Lib.hid (HB3.out.trans (hb4.mono (by omega)))
      clear hb4 hd3
      have HAL := Lib.hid (FIN.out w4 HB4.out)
      go_wp2_with fail
      refine HAL.out.mono ?_
      rintro e w5 ⟨rfl, hb5⟩
      have HB5 := Lib.hid hb5
      clear hb5
      go_wp2_with fail
      go_ret
      exact ⟨rfl, HB5.out⟩
    · have HFW2 := Lib.hid hfw
      have HAL := Lib.hid (FIN.out w2 HB2.out)
      go_wp2_with fail
      refine HAL.out.mono ?_
      rintro e w5 ⟨rfl, hb5⟩
      have HB5 := Lib.hid hb5
      clear hb5
      go_wp2_with fail
      go_ret
      exact ⟨rfl, HB5.out⟩
  · have HSM2 := Lib.hid hsm
    have HAL := Lib.hid (FIN.out w1 HB1.out)
    go_wp2_with fail
    refine HAL.out.mono ?_
    rintro e w5 ⟨rfl, hb5⟩
    have HB5 := Lib.hid hb5
    clear hb5
    go_wp2_with fail
    go_ret
    exact ⟨rfl, HB5.out⟩

end Go.Proofs.YthfdlaphglpnpaaDoor
