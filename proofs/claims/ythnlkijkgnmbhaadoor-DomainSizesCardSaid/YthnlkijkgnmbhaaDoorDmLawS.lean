/-
  The walk of DomainSizes. Nothing is assumed.
-/
import Derived.Test.YthnlkijkgnmbhaaDoorDmRal
import Derived.Test.YthnlkijkgnmbhaaDoorDmSame
namespace Go.Proofs.YthnlkijkgnmbhaaDoor
open Go.RowKit
open Go.Sort (grow)

theorem allL_len (l : List (List V)) : (allL l).length ≤ 4096 := by
  unfold allL largeD
  split
  · simp
  · rename_i h
    rw [allT_len]
    simpa using h

set_option maxRecDepth 100000 in
set_option maxHeartbeats 3200000 in
theorem lawSizes_any (l : List (List V)) (x : Value) (w : World) (hx : LAx w w.heap.size x l) (hN : Names w) :
    Calls Tryd.prog 3 #[.agg #[x]] w fun e w' => e = .returned (.bool true) ∧ Below w.heap.size w w' := by
  have HX := Lib.hid hx
  obtain ⟨oa, ca, rfl, _, hlm⟩ := hx.form
  clear hx
  obtain ⟨w0, hw0⟩ : ∃ w0, w0 = w.alloc (.cells #[.slice oa l.length ca] 24) := ⟨_, rfl⟩
  have hb0 : Below w.heap.size w w0 := by rw [hw0]; exact below1 _ _
  have hd : w0.cell? ⟨w.heap.size, 0, none⟩ = some (.slice oa l.length ca) := by rw [hw0]; exact cell_at _ _ _ _ _ rfl
  have hs0 : w.heap.size + 1 ≤ w0.heap.size := by rw [hw0]; simp
  have HSM := Lib.hid (smallD_any l _ w0 w.heap.size (HX.out.later hb0) (by omega))
  have HN0 := Lib.hid (show ∀ w', Below w.heap.size w w' → Names w' from fun w' h => hN.later h)
  rw [hw0] at HSM hd
  go_enter Tryd.func3, Tryd.ntmps3
  go_wp2_with fail
  refine HSM.out.mono ?_
  rw [← hw0] at hd ⊢
  rintro e w1 ⟨rfl, hb1⟩
  have HB1 := Lib.hid (hb0.trans (hb1.mono (by omega)))
  have hd1 := (hb1.cell (p := ⟨w.heap.size, 0, none⟩) (by simp; omega)).trans hd
  have hs1 := hb1.size
  clear hb1 hb0 hd hw0 hN
  have fin : ∀ w9, Below w.heap.size w w9 → Calls Tryd.prog 8 #[] w9 fun e w' => e = .returned (.bool true) ∧ Below w.heap.size w w' := fun w9 h => (alive_any w9 (HN0.out _ h)).mono fun e w' ⟨h1, h2⟩ => ⟨h1, h.trans (h2.mono h.size)⟩
  have FIN := Lib.hid fin
  clear fin
  by_cases hsm : smD l = true
  · have HF := Lib.hid (smD_fits hsm)
    have HSM2 := Lib.hid hsm
    have HLE := Lib.hid (show l.length ≤ 1000 ∧ (∀ a, a ∈ l → a.length ≤ 1000) ∧ (∀ a, a ∈ l → ∀ v, v ∈ a → v.fits = true) from ⟨by have := HF.out.1; omega, fun a ha => by have := (HF.out.2 a ha).1; omega, fun a ha v hv => (HF.out.2 a ha).2 v hv⟩)
    have HC := Lib.hid (size_any l _ w1 w.heap.size (HX.out.later HB1.out) (by omega))
    go_wp2_with fail
    refine HC.out.mono ?_
    clear HC
    rintro e w2 ⟨rfl, hb2⟩
    have hd2 := (hb2.cell (p := ⟨w.heap.size, 0, none⟩) (by simp; omega)).trans hd1
    have hs2 := hb2.size
    have HB2 := Lib.hid (HB1.out.trans (hb2.mono (by omega)))
    have HC := Lib.hid (rsize_any l _ w2 w.heap.size (HX.out.later HB2.out) (by omega))
    clear hb2 hd1
    go_wp2_with fail
    refine HC.out.mono ?_
    clear HC
    rintro e w3 ⟨rfl, hb3⟩
    have hd3 := (hb3.cell (p := ⟨w.heap.size, 0, none⟩) (by simp; omega)).trans hd2
    have hs3 := hb3.size
    have HB3 := Lib.hid (HB2.out.trans (hb3.mono (by omega)))
    have HC := Lib.hid (all_any l _ w3 w.heap.size (HX.out.later HB3.out) (by omega) HLE.out.1 HLE.out.2.1 HLE.out.2.2)
    clear hb3 hd2
    go_wp2_with fail
    refine HC.out.mono ?_
    clear HC
    rintro e w4 ⟨⟨sa, rfl, ha⟩, hb4⟩
    obtain ⟨oa2, ca2, hsa, _, _⟩ := ha.form
    obtain ⟨N, hNl⟩ : ∃ N, (allL l).length = N := ⟨_, rfl⟩
    rw [hNl] at hsa
    subst hsa
    have HNL := Lib.hid hNl
    have hN4 : (N : Int) ≤ 4096 := by rw [← hNl]; have := allL_len l; omega
    have hd4 := (hb4.cell (p := ⟨w.heap.size, 0, none⟩) (by simp; omega)).trans hd3
    have hs4 := hb4.size
    have HB4 := Lib.hid (HB3.out.trans (hb4.mono (by omega)))
    have HA4 := Lib.hid ha
    have HC := Lib.hid (rall_any l _ w4 w.heap.size (HX.out.later HB4.out) (by omega) HLE.out.1)
    clear hb4 hd3 ha hNl
    go_wp2_with fail
    refine HC.out.mono ?_
    clear HC
    rintro e w5 ⟨⟨sb, rfl, hbb⟩, hb5⟩
    obtain ⟨ob2, cb2, hsb, _, _⟩ := hbb.form
    rw [HNL.out] at hsb
    subst hsb
    have hs5 := hb5.size
    have HB5 := Lib.hid (HB4.out.trans (hb5.mono (by omega)))
    have HA5 := Lib.hid ((HA4.out.later hb5).mono hs5)
    have HBB := Lib.hid hbb
    clear hb5 hd4 hbb
    go_wp2_with fail
    go_loopw [11] (fun i wr => ∃ k : Nat, k ≤ N ∧ i = .int .i64 k ∧ Hid (Below w5.heap.size w5 wr)) (fun i _ => N - (intOf i).toNat)
    case atStart => exact ⟨0, Nat.zero_le _, rfl, Lib.hid (Below.refl _ _)⟩
    case round =>
      obtain ⟨k, hk, rfl, HBL⟩ := hrel
      by_cases hlt : k < N
      · have hkl : k < (allL l).length := by rw [HNL.out]; exact hlt
        obtain ⟨b, off, oe, ce, rfl, hb, hc, hr⟩ := HA5.out.at_ (List.getElem?_eq_getElem hkl)
        obtain ⟨b2, off2, oe2, ce2, rfl, hb2, hc2, hr2⟩ := HBB.out.at_ (List.getElem?_eq_getElem hkl)
        rw [← HBL.out.cell (p := ⟨b, _, none⟩) hb] at hc
        rw [← HBL.out.cell (p := ⟨b2, _, none⟩) hb2] at hc2
        have hki : (k : Int) < (N : Int) := by omega
        have hki0 : (0 : Int) ≤ (k : Int) := by omega
        obtain ⟨a, hak⟩ : ∃ a, (allL l)[k] = a := ⟨_, rfl⟩
        rw [hak] at hc hr hc2 hr2
        have hsr := HBL.out.size
        have p0 := fun d os => cell_regrown hc d os
        have p1 := fun d os => cell_regrown hc2 d os
        have re := fun d os => Calls.regrown_of (equalAll_any a a (.slice oe a.length ce) (.slice oe2 a.length ce2) (grow (redrawn wr d) os) w5.heap.size ((hr.later HBL.out).later ((below_regrown wr d os).mono hsr)) ((hr2.later HBL.out).later ((below_regrown wr d os).mono hsr)) (Nat.le_trans hsr (below_regrown wr d os).size))
        rw [V.eqs_self] at re
        have HKN := Lib.hid (show k + 1 ≤ N from hlt)
        clear hr hr2 hc hc2 hak hkl hb hb2
        go_wp2_with fail
        refine wp_region_quiet_below (by kernel_rfl) (by kernel_rfl) ?_
        repeat (quiet_step (first | with_reducible exact re _ _))
        refine wpQuiet_nil ?_
        intro w' hw'
        obtain ⟨p, rfl⟩ := hw'
        have HB6 := Lib.hid (HBL.out.trans ((below_regrown wr p.d p.os).mono HBL.out.size))
        generalize grow (redrawn wr p.d) p.os = w6 at *
        clear p0 p1 re
        go_wp2_with fail
        go_roundw
        case rel => exact ⟨k + 1, HKN.out, by go_num, HB6⟩
        case measure => simp [intOf]; omega
      · have HAL := Lib.hid (FIN.out wr (HB5.out.trans (HBL.out.mono (by omega))))
        go_wp2_with fail
        refine HAL.out.mono ?_
        rintro e w99 ⟨rfl, hb99⟩
        have HB99 := Lib.hid hb99
        clear hb99
        go_wp2_with fail
        go_ret
        exact ⟨rfl, HB99.out⟩
  · have hsm' : smD l = false := by simpa using hsm
    clear hsm
    have HAL := Lib.hid (FIN.out w1 HB1.out)
    go_wp2_with fail
    refine HAL.out.mono ?_
    rintro e w99 ⟨rfl, hb99⟩
    have HB99 := Lib.hid hb99
    clear hb99
    go_wp2_with fail
    go_ret
    exact ⟨rfl, HB99.out⟩

end Go.Proofs.YthnlkijkgnmbhaaDoor
