/-
  The walk of DomainSmalls. Nothing is assumed.
-/
import Derived.Test.YthnlkijkgnmbhaaDoorDmPvl
import Derived.Test.YthnlkijkgnmbhaaDoorDmFst
import Derived.Test.YthnlkijkgnmbhaaDoorDmSame
import Derived.Test.YthnlkijkgnmbhaaDoorDmAlive
namespace Go.Proofs.YthnlkijkgnmbhaaDoor
open Go.RowKit

theorem fst_all {t : Int} (h : isTy t = true) : FstC t (fstOf t) 65 := by
  obtain ⟨h1, h8⟩ := isTy_yes h
  rcases ty_cases h1 h8 with rfl | rfl | rfl | rfl | rfl | rfl | rfl | rfl
  · exact fun i w hi => fstBool_any i w (by omega)
  · exact fun i w hi => fstInt_any i w (by omega)
  · exact fstText_any
  · exact fun i w hi => fstBits_any i w (by omega)
  · exact fstInts_any
  · exact fstTexts_any
  · exact fstTable_any
  · exact fstPat_any

theorem LInts.up {w : World} {B C : Nat} {x : Value} {l : List Int} (h : LInts w B x l) (hBC : B ≤ C) : LInts w C x l := by
  obtain ⟨oa, ca, e, hl, hel⟩ := h
  refine ⟨oa, ca, e, hl, fun i a ha => ?_⟩
  obtain ⟨b, off, c, h1, h2, h3, h4⟩ := hel i a ha
  exact ⟨b, off, c, h1, Nat.lt_of_lt_of_le h2 hBC, h3, h4⟩

set_option maxRecDepth 100000 in
set_option maxHeartbeats 3200000 in
theorem lawSmalls_any (x : Value) (ts : List Int) (n : Int) (w : World) (hX : LInts w w.heap.size x ts) (hN : Names w) :
    Calls Tryd.prog 4 #[x, .int .i64 n] w fun e w' => e = .returned (.bool true) ∧ Below w.heap.size w w' := by
  have HX := Lib.hid hX
  obtain ⟨oy, cy, rfl, _, _⟩ := hX
  have FIN := Lib.hid (show ∀ w9, Below w.heap.size w w9 → Calls Tryd.prog 8 #[] w9 fun e w' => e = .returned (.bool true) ∧ Below w.heap.size w w' from fun w9 h => (alive_any w9 (hN.later h)).mono fun e w' ⟨h1, h2⟩ => ⟨h1, h.trans (h2.mono h.size)⟩)
  by_cases h20 : 20 < (ts.length : Int)
  · have HAL := Lib.hid (FIN.out w (Below.refl _ _))
    go_enter Tryd.func4, Tryd.ntmps4
    go_wp2_with fail
    refine HAL.out.mono ?_
    rintro e w99 ⟨rfl, hb99⟩
    have HB99 := Lib.hid hb99
    clear hb99
    go_wp2_with fail
    go_ret
    exact ⟨rfl, HB99.out⟩
  have H20 := Lib.hid h20
  have HC1 := Lib.hid (smallOf_any ts _ n w w.heap.size HX.out (Nat.le_refl _) hN (fun t _ h => fst_all h))
  obtain ⟨E, hE⟩ : ∃ E, smE ts n = E := ⟨_, rfl⟩
  obtain ⟨L, hL⟩ : ∃ L, smLs ts n = L := ⟨_, rfl⟩
  obtain ⟨N, hNl⟩ : ∃ N, L.length = N := ⟨_, rfl⟩
  have HEL := Lib.hid (And.intro hE (And.intro hL hNl))
  rw [hE, hL] at HC1
  clear hE hL hNl hN
  go_enter Tryd.func4, Tryd.ntmps4
  go_wp2_with fail
  refine HC1.out.mono ?_
  clear HC1
  rintro e w2 ⟨⟨sa, rfl, ha⟩, hb2⟩
  obtain ⟨oa2, ca2, hsa, _, _⟩ := ha.form
  rw [HEL.out.2.2] at hsa
  subst hsa
  have HA := Lib.hid ha
  have HB2 := Lib.hid hb2
  have hs2 := hb2.size
  have HBA := Lib.hid (HB2.out.trans ((below1 w2 (.cells #[.slice oa2 N ca2] 24)).mono hs2))
  have HC3 := Lib.hid (rsmall_any ts _ n (w2.alloc (.cells #[.slice oa2 N ca2] 24)) w.heap.size (LInts.later HX.out HBA.out) (by simp; omega))
  rw [HEL.out.1, HEL.out.2.1] at HC3
  clear hb2 ha
  go_wp2_with fail
  refine HC3.out.mono ?_
  clear HC3
  rintro e w3 ⟨⟨sb, rfl, hb⟩, hb3⟩
  obtain ⟨ob2, cb2, hsb, _, _⟩ := hb.form
  rw [HEL.out.2.2] at hsb
  subst hsb
  have hb3' : Below (w2.heap.size + 1) (w2.alloc (.cells #[.slice oa2 N ca2] 24)) w3 := hb3.mono (by simp)
  have hs3 := hb3.size
  rw [World.size_alloc] at hs3
  have h7 : (w3.alloc (.cells #[.slice ob2 N cb2] 24)).cell? ⟨w2.heap.size, 0, none⟩ = some (.slice oa2 N ca2) := ((below1 w3 _).cell (p := ⟨w2.heap.size, 0, none⟩) (by simp; omega)).trans (dbox hb3')
  have HB3 := Lib.hid (HBA.out.trans (hb3.mono (by simp; omega)))
  have h9 : (w3.alloc (.cells #[.slice ob2 N cb2] 24)).cell? ⟨w3.heap.size, 0, none⟩ = some (.slice ob2 N cb2) := cell_at _ _ _ _ _ rfl
  have hal : Below w3.heap.size w3 (w3.alloc (.cells #[.slice ob2 N cb2] 24)) := below1 _ _
  have HA3 := Lib.hid (show LAx w3 w3.heap.size (.slice oa2 N ca2) L from ((HA.out.later (below1 w2 (.cells #[.slice oa2 N ca2] 24))).later (hb3.mono (by simp))).mono (by omega))
  have HB4 := Lib.hid (HB3.out.trans (hal.mono (by omega)))
  have HC4 := Lib.hid (same_any L (.slice oa2 N ca2) (.slice ob2 N cb2) (w3.alloc (.cells #[.slice ob2 N cb2] 24)) w3.heap.size (HA3.out.later hal) (hb.later hal) (by simp))
  have HAW := Lib.hid (HA3.out.later hal)
  clear hb hb3 hb3' hal
  go_wp2_with fail
  refine HC4.out.mono ?_
  clear HC4
  rintro e w4 ⟨rfl, hb4⟩
  have hs4 := hb4.size
  rw [World.size_alloc] at hs4
  have h74 := (hb4.cell (p := ⟨w2.heap.size, 0, none⟩) (by simp; omega)).trans h7
  have HB5 := Lib.hid (HB4.out.trans (hb4.mono (by simp; omega)))
  have HA5 := Lib.hid (HAW.out.later (hb4.mono (by simp)))
  clear hb4 h7 h9
  by_cases hz : E = 0
  · have HCK := Lib.hid (show chkD L ts = 0 from by rw [← HEL.out.2.1]; exact chkD_small (by rw [HEL.out.1]; exact hz))
    have HLN := Lib.hid (show ∀ a, a ∈ L → a.length ≤ 1000 from by rw [← HEL.out.2.1]; exact smLs_len ts n)
    have HC5 := Lib.hid (dcheck_any L ts (.slice oa2 N ca2) _ w4 w3.heap.size HA5.out (LInts.up (LInts.later HX.out HB5.out) (by omega)) (by omega) HLN.out)
    rw [HCK.out] at HC5
    subst hz
    go_wp2_with fail
    refine HC5.out.mono ?_
    clear HC5
    rintro e w5 ⟨rfl, hb5⟩
    have HB6 := Lib.hid (HB5.out.trans (hb5.mono (by omega)))
    clear hb5
    have HAL := Lib.hid (FIN.out w5 HB6.out)
    go_wp2_with fail
    refine HAL.out.mono ?_
    rintro e w99 ⟨rfl, hb99⟩
    have HB99 := Lib.hid hb99
    clear hb99
    go_wp2_with fail
    go_ret
    exact ⟨rfl, HB99.out⟩
  · have hzb : (E != 0) = true := by simpa using hz
    have hzc : (E == 0) = false := by simpa using hz
    have HAL := Lib.hid (FIN.out w4 HB5.out)
    clear hz
    go_wp2_with fail
    refine HAL.out.mono ?_
    rintro e w99 ⟨rfl, hb99⟩
    have HB99 := Lib.hid hb99
    clear hb99
    go_wp2_with fail
    go_ret
    exact ⟨rfl, HB99.out⟩

end Go.Proofs.YthnlkijkgnmbhaaDoor
