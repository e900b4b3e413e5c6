/-
  The walk of DomainRestricts. Nothing is assumed.
-/
import Derived.Test.YthnlkijkgnmbhaaDoorDmRsv
import Derived.Test.YthnlkijkgnmbhaaDoorDmAlive
namespace Go.Proofs.YthnlkijkgnmbhaaDoor
open Go.RowKit

set_option maxRecDepth 100000 in
set_option maxHeartbeats 3200000 in
theorem lawRestricts_any (l : List (List V)) (x : Value) (N : Int) (y : Value) (ks : List Bool) (w : World) (hx : LAx w w.heap.size x l) (hy : LBools w w.heap.size y ks) (hN : Names w) :
    Calls Tryd.prog 5 #[.agg #[x], .int .i64 N, y] w fun e w' => e = .returned (.bool true) ∧ Below w.heap.size w w' := by
  have HX := Lib.hid hx
  obtain ⟨oa, ca, rfl, _, hlm⟩ := hx.form
  clear hx
  have HY := Lib.hid hy
  obtain ⟨oy, cy, rfl, _, _⟩ := hy
  obtain ⟨w0, hw0⟩ : ∃ w0, w0 = w.alloc (.cells #[.slice oa l.length ca] 24) := ⟨_, rfl⟩
  have hb0 : Below w.heap.size w w0 := by rw [hw0]; exact below1 _ _
  have hd : w0.cell? ⟨w.heap.size, 0, none⟩ = some (.slice oa l.length ca) := by rw [hw0]; exact cell_at _ _ _ _ _ rfl
  have hs0 : w.heap.size + 1 ≤ w0.heap.size := by rw [hw0]; simp
  have HSM := Lib.hid (smallD_any l _ w0 w.heap.size (HX.out.later hb0) (by omega))
  have HN0 := Lib.hid (show ∀ w', Below w.heap.size w w' → Names w' from fun w' h => hN.later h)
  rw [hw0] at HSM hd
  go_enter Tryd.func5, Tryd.ntmps5
  go_wp2_with fail
  refine HSM.out.mono ?_
  rw [← hw0] at hd ⊢
  rintro e w1 ⟨rfl, hb1⟩
  have HB1 := Lib.hid (hb0.trans (hb1.mono (by omega)))
  have hd1 := (hb1.cell (p := ⟨w.heap.size, 0, none⟩) (by simp; omega)).trans hd
  have hs1 := hb1.size
  clear hb1 hb0 hd hw0 hN
  have fin : ∀ w9, Below w.heap.size w w9 → Calls Tryd.prog 8 #[] w9 fun e w' => e = .returned (.bool true) ∧ Below w.heap.size w w' := fun w9 h => (alive_any w9 (HN0.out _ h)).mono fun e w' ⟨h1, h2⟩ => ⟨h1, h.trans (h2.mono h.size)⟩
  have FIN := Lib.hid fin
  clear fin
  by_cases hsm : smD l = true
  · have HF := Lib.hid (smD_fits hsm)
    have HSM2 := Lib.hid hsm
    by_cases h100 : 100 < (ks.length : Int)
    · have HAL := Lib.hid (FIN.out w1 HB1.out)
      go_wp2_with fail
      refine HAL.out.mono ?_
      rintro e w99 ⟨rfl, hb99⟩
      have HB99 := Lib.hid hb99
      clear hb99
      go_wp2_with fail
      go_ret
      exact ⟨rfl, HB99.out⟩
    · have H100 := Lib.hid h100
      have HLE := Lib.hid (show l.length ≤ 1000 ∧ (∀ a, a ∈ l → a.length ≤ 1000) ∧ (∀ a, a ∈ l → ∀ v, v ∈ a → v.fits = true) from ⟨by have := HF.out.1; omega, fun a ha => by have := (HF.out.2 a ha).1; omega, fun a ha v hv => (HF.out.2 a ha).2 v hv⟩)
      have HC2 := Lib.hid (restrict_any l _ N _ ks w1 w.heap.size (HX.out.later HB1.out) (Lst.later (fun _ _ _ _ _ h _ => h) HY.out HB1.out) (by omega) HLE.out.1 HLE.out.2.1 HLE.out.2.2)
      go_wp2_with fail
      refine HC2.out.mono ?_
      rintro e w2 ⟨⟨sa, rfl, ha⟩, hb2⟩
      obtain ⟨oa2, ca2, hsa, _, _⟩ := ha.form
      subst hsa
      obtain ⟨n2, hn2⟩ : ∃ n2, (rstL l N ks).length = n2 := ⟨_, rfl⟩
      have HA := Lib.hid ha
      have HB2 := Lib.hid (HB1.out.trans (hb2.mono (by omega)))
      have hs2 := hb2.size
      have hd2 := (hb2.cell (p := ⟨w.heap.size, 0, none⟩) (by simp; omega)).trans hd1
      have hda : ∀ ob, (w2.alloc ob).cell? ⟨w.heap.size, 0, none⟩ = some (.slice oa l.length ca) := fun ob => ((below1 w2 ob).cell (p := ⟨w.heap.size, 0, none⟩) (by simp; omega)).trans hd2
      have HBA := Lib.hid (HB2.out.trans ((below1 w2 (.cells #[.slice oa2 (rstL l N ks).length ca2] 24)).mono (by omega)))
      have HC3 := Lib.hid (rrest_any l _ N _ ks (w2.alloc (.cells #[.slice oa2 (rstL l N ks).length ca2] 24)) w.heap.size (HX.out.later HBA.out) (Lst.later (fun _ _ _ _ _ h _ => h) HY.out HBA.out) (by simp; omega) HLE.out.1 HLE.out.2.1)
      rw [hn2] at HC3 HBA ⊢
      have HN2 := Lib.hid hn2
      clear hb2 ha hd1 hn2
      go_wp2_with fail
      refine HC3.out.mono ?_
      rintro e w3 ⟨⟨sb, rfl, hb⟩, hb3⟩
      obtain ⟨ob2, cb2, hsb, _, _⟩ := hb.form
      subst hsb
      have hb3' : Below (w2.heap.size + 1) (w2.alloc (.cells #[.slice oa2 n2 ca2] 24)) w3 := hb3.mono (by simp)
      have hs3 := hb3.size
      rw [World.size_alloc] at hs3
      have h7 : ∀ ob, (w3.alloc ob).cell? ⟨w2.heap.size, 0, none⟩ = some (.slice oa2 n2 ca2) := fun ob => ((below1 w3 ob).cell (p := ⟨w2.heap.size, 0, none⟩) (by simp; omega)).trans (dbox hb3')
      have HB3 := Lib.hid (HBA.out.trans (hb3.mono (by simp; omega)))
      rw [HN2.out] at hb ⊢
      have h9 : (w3.alloc (.cells #[.slice ob2 n2 cb2] 24)).cell? ⟨w3.heap.size, 0, none⟩ = some (.slice ob2 n2 cb2) := cell_at _ _ _ _ _ rfl
      have hal : Below w3.heap.size w3 (w3.alloc (.cells #[.slice ob2 n2 cb2] 24)) := below1 _ _
      have HA3 := Lib.hid (show LAx w3 w3.heap.size (.slice oa2 n2 ca2) (rstL l N ks) from by
        have h := HA.out
        rw [HN2.out] at h
        exact ((h.later (below1 w2 (.cells #[.slice oa2 n2 ca2] 24))).later (hb3.mono (by simp))).mono (by omega))
      have HC4 := Lib.hid (same_any (rstL l N ks) (.slice oa2 n2 ca2) (.slice ob2 n2 cb2) (w3.alloc (.cells #[.slice ob2 n2 cb2] 24)) w3.heap.size (HA3.out.later hal) (hb.later hal) (by simp))
      have HB4 := Lib.hid (HB3.out.trans (hal.mono (by omega)))
      clear hb hb3 hb3' hal hd2 hda
      go_wp2_with fail
      refine HC4.out.mono ?_
      rintro e w4 ⟨rfl, hb4⟩
      have HB5 := Lib.hid (HB4.out.trans (hb4.mono (by simp; omega)))
      clear hb4
      have HAL := Lib.hid (FIN.out w4 HB5.out)
      go_wp2_with fail
      refine HAL.out.mono ?_
      rintro e w99 ⟨rfl, hb99⟩
      have HB99 := Lib.hid hb99
      clear hb99
      go_wp2_with fail
      go_ret
      exact ⟨rfl, HB99.out⟩
  · have HSM2 := Lib.hid hsm
    clear hsm
    have HAL := Lib.hid (FIN.out w1 HB1.out)
    go_wp2_with fail
    refine HAL.out.mono ?_
    rintro e w99 ⟨rfl, hb99⟩
    have HB99 := Lib.hid hb99
    clear hb99
    go_wp2_with fail
    go_ret
    exact ⟨rfl, HB99.out⟩

end Go.Proofs.YthnlkijkgnmbhaaDoor
