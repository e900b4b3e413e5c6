/-
  The walk of DomainSteps. Nothing is assumed.
-/
import Derived.Test.YthnlkijkgnmbhaaDoorDmAll
import Derived.Test.YthnlkijkgnmbhaaDoorDmSame
import Derived.Test.YthnlkijkgnmbhaaDoorDmPurA
import Derived.Test.YthnlkijkgnmbhaaDoorDmWq
namespace Go.Proofs.YthnlkijkgnmbhaaDoor
open Go.RowKit
open Go.Sort (grow)

theorem at_tupP {l : List (List V)} (hp : prodL l ≤ 4096) {k : Nat} (hk : k < prodL l) : atE l (k : Int) = 0 ∧ atL l (k : Int) = tupL l k := by
  have h : atE l (k : Int) = 0 ∧ atL l (k : Int) = (digs l (k : Int).toNat).1 := by
    rcases szE_cases l with ⟨h1, h2⟩ | ⟨h1, h2⟩
    · exact atE_in h1 (by rw [h2]; omega)
    · exfalso
      unfold szE at h1
      rw [szD_eq, if_pos (show prodL l ≤ 1152921504606846976 by omega)] at h1
      cases h1
  refine ⟨h.1, ?_⟩
  rw [h.2, Int.toNat_natCast]
  rfl

set_option maxRecDepth 100000 in
set_option maxHeartbeats 3200000 in
theorem lawSteps_any (l : List (List V)) (x : Value) (y : Value) (ts : List Int) (w : World) (hx : LAx w w.heap.size x l) (hy : LInts w w.heap.size y ts) (hN : Names w) :
    Calls Tryd.prog 6 #[.agg #[x], y] w fun e w' => e = .returned (.bool true) ∧ Below w.heap.size w w' := by
  have HX := Lib.hid hx
  obtain ⟨oa, ca, rfl, _, hlm⟩ := hx.form
  clear hx
  have HY := Lib.hid hy
  obtain ⟨oy, cy, rfl, _, _⟩ := hy
  obtain ⟨w0, hw0⟩ : ∃ w0, w0 = w.alloc (.cells #[.slice oa l.length ca] 24) := ⟨_, rfl⟩
  have hb0 : Below w.heap.size w w0 := by rw [hw0]; exact below1 _ _
  have hd : w0.cell? ⟨w.heap.size, 0, none⟩ = some (.slice oa l.length ca) := by rw [hw0]; exact cell_at _ _ _ _ _ rfl
  have hs0 : w.heap.size + 1 ≤ w0.heap.size := by rw [hw0]; simp
  have HSM := Lib.hid (smallD_any l _ w0 w.heap.size (HX.out.later hb0) (by omega))
  have HN0 := Lib.hid (show ∀ w', Below w.heap.size w w' → Names w' from fun w' h => hN.later h)
  rw [hw0] at HSM hd
  go_enter Tryd.func6, Tryd.ntmps6
  go_wp2_with fail
  refine HSM.out.mono ?_
  rw [← hw0] at hd ⊢
  rintro e w1 ⟨rfl, hb1⟩
  have HB1 := Lib.hid (hb0.trans (hb1.mono (by omega)))
  have hd1 := (hb1.cell (p := ⟨w.heap.size, 0, none⟩) (by simp; omega)).trans hd
  have hs1 := hb1.size
  clear hb1 hb0 hd hw0 hN
  have fin : ∀ w9, Below w.heap.size w w9 → Calls Tryd.prog 8 #[] w9 fun e w' => e = .returned (.bool true) ∧ Below w.heap.size w w' := fun w9 h => (alive_any w9 (HN0.out _ h)).mono fun e w' ⟨h1, h2⟩ => ⟨h1, h.trans (h2.mono h.size)⟩
  have FIN := Lib.hid fin
  clear fin
  by_cases hsm : smD l = true
  · have HF := Lib.hid (smD_fits hsm)
    have HSM2 := Lib.hid hsm
    have HLE := Lib.hid (show l.length ≤ 1000 ∧ (∀ a, a ∈ l → a.length ≤ 1000) ∧ (∀ a, a ∈ l → ∀ v, v ∈ a → v.fits = true) from ⟨by have := HF.out.1; omega, fun a ha => by have := (HF.out.2 a ha).1; omega, fun a ha v hv => (HF.out.2 a ha).2 v hv⟩)
    by_cases h20 : 20 < (ts.length : Int)
    · have HAL := Lib.hid (FIN.out w1 HB1.out)
      go_wp2_with fail
      refine HAL.out.mono ?_
      rintro e w99 ⟨rfl, hb99⟩
      have HB99 := Lib.hid hb99
      clear hb99
      go_wp2_with fail
      go_ret
      exact ⟨rfl, HB99.out⟩
    · have HC3 := Lib.hid (dcheck_any l ts _ _ w1 w.heap.size (HX.out.later HB1.out) (LInts.later HY.out HB1.out) (by omega) HLE.out.2.1)
      go_wp2_with fail
      refine HC3.out.mono ?_
      clear HC3
      rintro e w3 ⟨rfl, hb3⟩
      have hd3 := (hb3.cell (p := ⟨w.heap.size, 0, none⟩) (by simp; omega)).trans hd1
      have HB3 := Lib.hid (HB1.out.trans (hb3.mono (by omega)))
      have hs3 := hb3.size
      clear hb3 hd1
      by_cases hck : chkD l ts = 0
      · have fck := neqf hck
        have HOK := Lib.hid (chkD_ok hck)
        clear hck
        obtain ⟨P, hP⟩ : ∃ P, prodL l = P := ⟨_, rfl⟩
        have hP4 : (P : Int) ≤ 4096 := by rw [← hP]; have := HOK.out.2; omega
        have HFA := Lib.hid (show szE l = 0 ∧ szN l = P ∧ allE l = 0 ∧ allL l = allT l P ∧ (allL l).length = P from by
          have h4 := HOK.out.2
          have h1 : szE l = 0 ∧ szN l = prodL l := by
            unfold szE szN
            rw [szD_eq, if_pos (show prodL l ≤ 1152921504606846976 by omega)]
            exact ⟨rfl, rfl⟩
          have h5 : largeD l ≠ true := by unfold largeD; simp; omega
          have h6 : allL l = allT l P := by rw [← hP]; exact if_neg h5
          exact ⟨h1.1, by rw [h1.2, hP], if_neg h5, h6, by rw [h6, allT_len]⟩)
        have HPP := Lib.hid hP
        clear hP
        have HC := Lib.hid (size_any l _ w3 w.heap.size (HX.out.later HB3.out) (by omega))
        rw [HFA.out.1, HFA.out.2.1] at HC
        go_wp2_with fail
        refine HC.out.mono ?_
        clear HC
        rintro e w4 ⟨rfl, hb4⟩
        have hd4 := (hb4.cell (p := ⟨w.heap.size, 0, none⟩) (by simp; omega)).trans hd3
        have HB4 := Lib.hid (HB3.out.trans (hb4.mono (by omega)))
        have hs4 := hb4.size
        clear hb4 hd3
        have HC := Lib.hid (all_any l _ w4 w.heap.size (HX.out.later HB4.out) (by omega) HLE.out.1 HLE.out.2.1 HLE.out.2.2)
        rw [HFA.out.2.2.1] at HC
        go_wp2_with fail
        refine HC.out.mono ?_
        clear HC
        rintro e w5 ⟨⟨sa, rfl, ha⟩, hb5⟩
        obtain ⟨oa2, ca2, hsa, _, _⟩ := ha.form
        rw [HFA.out.2.2.2.2] at hsa
        subst hsa
        have hd5 := (hb5.cell (p := ⟨w.heap.size, 0, none⟩) (by simp; omega)).trans hd4
        have HB5 := Lib.hid (HB4.out.trans (hb5.mono (by omega)))
        have hs5 := hb5.size
        rw [HFA.out.2.2.2.1] at ha
        have HA5 := Lib.hid ha
        have HD5 := Lib.hid hd5
        clear hb5 hd4 ha
        go_wp2_with fail
        clear hd5
        go_loopw [9] (fun i wr => ∃ k : Nat, k ≤ P ∧ i = .int .i64 k ∧ Hid (Below w5.heap.size w5 wr)) (fun i _ => P - (intOf i).toNat)
        case atStart => exact ⟨0, Nat.zero_le _, rfl, Lib.hid (Below.refl _ _)⟩
        case round =>
          obtain ⟨k, hk, rfl, HBL⟩ := hrel
          have HBW := Lib.hid (HB5.out.trans (HBL.out.mono (by omega)))
          have hsr := HBL.out.size
          by_cases hlt : k < P
          · by_cases h60 : (k : Int) < 60
            · have hd6 := (HBL.out.cell (p := ⟨w.heap.size, 0, none⟩) (by simp; omega)).trans HD5.out
              have HAT := Lib.hid (at_any l _ (k : Int) wr w.heap.size (HX.out.later HBW.out) (by omega) HLE.out.1 HLE.out.2.2)
              obtain ⟨hat1, hat2⟩ := at_tupP HOK.out.2 (k := k) (by rw [HPP.out]; exact hlt)
              rw [hat1, hat2] at HAT
              clear hat1 hat2
              go_wp2_with fail
              refine HAT.out.mono ?_
              clear HAT
              rintro e w6 ⟨⟨st, rfl, hrt⟩, hb6⟩
              obtain ⟨ot, ct, hst, _, _, _⟩ := hrt.slice
              obtain ⟨T, hT⟩ : ∃ T, (tupL l k).length = T := ⟨_, rfl⟩
              rw [hT] at hst
              subst hst
              have HRT := Lib.hid hrt
              have hs6 := hb6.size
              have HB6 := Lib.hid (HBL.out.trans (hb6.mono hsr))
              have HKN := Lib.hid (show k + 1 ≤ P from hlt)
              have hkl : k < (allT l P).length := by rw [allT_len]; exact hlt
              obtain ⟨b, off, oe, ce, hoa, hb, hc, hr⟩ := HA5.out.at_ (List.getElem?_eq_getElem hkl)
              have hak : (allT l P)[k] = tupL l k := by simp [allT]
              rw [hak, hT] at hc
              rw [hak] at hr
              rw [hT] at hr
              subst hoa
              rw [← HB6.out.cell (p := ⟨b, _, none⟩) hb] at hc
              have hki : (k : Int) < (P : Int) := by omega
              have hki0 : (0 : Int) ≤ (k : Int) := by omega
              have hs56 : w5.heap.size ≤ w6.heap.size := Nat.le_trans hsr hs6
              have re := fun d os => Calls.regrown_of (equalAll_any (tupL l k) (tupL l k) (.slice ot T ct) (.slice oe T ce) (grow (redrawn w6 d) os) w6.heap.size (HRT.out.later (below_regrown w6 d os)) (((hr.later HB6.out).mono hs56).later (below_regrown w6 d os)) (below_regrown w6 d os).size)
              rw [V.eqs_self] at re
              by_cases hk0 : 0 < (k : Int)
              case neg =>
                have p0 := fun d os => cell_regrown hc d os
                have hk0n : ¬ 0 < k := by omega
                clear hr hc hak hkl hb hT hb6 hrt hd6 hs6
                go_wp2_with fail
                refine wp_region_quiet_below (by kernel_rfl) (by kernel_rfl) (WQ.out ?_)
                repeat (refine WQ.step (fun K hK => ?_); go_simp; first | (refine hK _ ?_; clear hK K) | (apply Exists.intro; refine ⟨fun _ => ?_, hK _ ?_⟩; (with_reducible exact re _ _); clear hK K))
                refine WQ.nil ?_
                intro w' hw'
                obtain ⟨p, rfl⟩ := hw'
                have HB7 := Lib.hid (HB6.out.trans ((below_regrown w6 p.d p.os).mono hs56))
                generalize grow (redrawn w6 p.d) p.os = w7 at *
                clear p0 re
                go_wp2_with fail
                go_roundw
                case rel => exact ⟨k + 1, HKN.out, by go_num, HB7⟩
                case measure => simp [intOf]; omega
              case pos =>
                obtain ⟨j, hjk⟩ : ∃ j, k = j + 1 := ⟨k - 1, by omega⟩
                have HJK := Lib.hid hjk
                have hk0n : 0 < k := by omega
                have hjk1 : (k : Int) - 1 = (j : Int) := by omega
                have hjl : j < (allT l P).length := by rw [allT_len]; omega
                obtain ⟨b', off', oe', ce', hoa', hb', hc', hr'⟩ := HA5.out.at_ (List.getElem?_eq_getElem hjl)
                cases hoa'
                have haj : (allT l P)[j] = tupL l j := by simp [allT]
                rw [haj] at hc' hr'
                obtain ⟨T2, hT2⟩ : ∃ T2, (tupL l j).length = T2 := ⟨_, rfl⟩
                rw [hT2] at hc' hr'
                rw [← HB6.out.cell (p := ⟨b, _, none⟩) hb] at hc'
                have p0 := fun d os => cell_regrown hc d os
                have p1 := fun d os => cell_regrown hc' d os
                have re2 := fun d os => Calls.regrown_of (equalAll_any (tupL l j) (tupL l k) (.slice oe' T2 ce') (.slice oe T ce) (grow (redrawn w6 d) os) w6.heap.size (((hr'.later HB6.out).mono hs56).later (below_regrown w6 d os)) (((hr.later HB6.out).mono hs56).later (below_regrown w6 d os)) (below_regrown w6 d os).size)
                rw [show V.eqs (tupL l j) (tupL l k) = false from by rw [hjk]; exact tup_next HOK.out.1 (by rw [HPP.out]; omega)] at re2
                have hwj : IntKind.i64.wrap (j : Int) = (j : Int) := IntWalk.i64_in _ (by omega)
                have hj0 : (0 : Int) ≤ (j : Int) := by omega
                have hj1 : (j : Int) < (P : Int) := by omega
                clear hr hc hak hkl hb hT hb6 hrt hd6 hs6 hr' hc' haj hjl hb' hT2 hjk
                go_wp2_with fail
                refine wp_region_quiet_below (by kernel_rfl) (by kernel_rfl) ?_
                repeat (quiet_step (first | with_reducible exact re _ _ | with_reducible exact re2 _ _))
                refine wpQuiet_nil ?_
                intro w' hw'
                obtain ⟨p, rfl⟩ := hw'
                have HB7 := Lib.hid (HB6.out.trans ((below_regrown w6 p.d p.os).mono hs56))
                generalize grow (redrawn w6 p.d) p.os = w7 at *
                clear p0 p1 re re2
                go_wp2_with fail
                go_roundw
                case rel => exact ⟨k + 1, HKN.out, by go_num, HB7⟩
                case measure => simp [intOf]; omega
            · have HAL := Lib.hid (FIN.out wr HBW.out)
              go_wp2_with fail
              refine HAL.out.mono ?_
              rintro e w99 ⟨rfl, hb99⟩
              have HB99 := Lib.hid hb99
              clear hb99
              go_wp2_with fail
              go_ret
              exact ⟨rfl, HB99.out⟩
          · have HAL := Lib.hid (FIN.out wr HBW.out)
            go_wp2_with fail
            refine HAL.out.mono ?_
            rintro e w99 ⟨rfl, hb99⟩
            have HB99 := Lib.hid hb99
            clear hb99
            go_wp2_with fail
            go_ret
            exact ⟨rfl, HB99.out⟩
      · have fck := neqt hck
        have HAL := Lib.hid (FIN.out w3 HB3.out)
        go_wp2_with fail
        refine HAL.out.mono ?_
        rintro e w99 ⟨rfl, hb99⟩
        have HB99 := Lib.hid hb99
        clear hb99
        go_wp2_with fail
        go_ret
        exact ⟨rfl, HB99.out⟩
  · have hsm' : smD l = false := by simpa using hsm
    clear hsm
    have HAL := Lib.hid (FIN.out w1 HB1.out)
    go_wp2_with fail
    refine HAL.out.mono ?_
    rintro e w99 ⟨rfl, hb99⟩
    have HB99 := Lib.hid hb99
    clear hb99
    go_wp2_with fail
    go_ret
    exact ⟨rfl, HB99.out⟩

end Go.Proofs.YthnlkijkgnmbhaaDoor
