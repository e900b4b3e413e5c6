/-
  The law TablesBack walked. Nothing is assumed.
-/
import Derived.Test.YtampofpllijfhaaTbLawC
import Derived.Test.YtampofpllijfhaaTbFillP
import Derived.Test.YtampofpllijfhaaTbPivP
namespace Go.Proofs.Ytampofpllijfhaa
open Go.RowKit

theorem smT_fewB {t : Tab} (h : SmT t) : Few t := ⟨by have := h.1; omega, fun r hr => by have := (h.2 r hr).1; omega⟩
def NodE (l : Row) (e : Ending) : Prop := ∃ z, e = .returned (.bool z) ∧ (z = true → l.Nodup)
theorem nodup_snoc {l : Row} {k : Nat} (h : k < l.length) (h1 : (l.take k).Nodup) (h2 : ∀ i, (hi : i < k) → l[i] ≠ l[k]) : (l.take (k + 1)).Nodup := by
  rw [take_snoc l k h, List.nodup_append]
  refine ⟨h1, by simp, fun a ha b hb => ?_⟩
  obtain rfl := List.mem_singleton.1 hb
  obtain ⟨i, hi, rfl⟩ := List.getElem_of_mem ha
  rw [List.length_take] at hi
  rw [List.getElem_take]
  exact h2 i (by omega)
set_option maxRecDepth 100000 in
set_option maxHeartbeats 1600000 in
theorem ndist_any (x : Value) (l : List ByteArray) (w : World) (B : Nat) (hx : HoldsS w (· < B) x l) (hB : B ≤ w.heap.size) (_hl : l.length ≤ 1000) :
    Calls Try.prog 43 #[x] w fun e w' => NodE l e ∧ Below w.heap.size w w' := by
  have HX := Lib.hid hx
  obtain ⟨oa, ca, rfl, _, _⟩ := hx.form
  clear hx
  go_enter Try.func43, Try.ntmps43
  go_wp2_with fail
  go_loopw [3] (fun j wr => ∃ k : Nat, k ≤ l.length ∧ j = .int .i64 k ∧ Hid (l.take k).Nodup ∧ Below w.heap.size w wr) (fun j _ => l.length - (intOf j).toNat)
  case atStart => exact ⟨0, Nat.zero_le _, rfl, Lib.hid (by simp), Below.refl _ _⟩
  case round =>
    obtain ⟨k, hk, rfl, HN, hbel⟩ := hrel
    obtain ⟨wo, hwo⟩ : ∃ wo : World, wo = wr := ⟨_, rfl⟩
    subst hwo
    by_cases hlt : k < l.length
    · have hki0 : (0 : Int) ≤ (k : Int) := by omega
      have hki1 : (k : Int) < (l.length : Int) := by omega
      obtain ⟨b, off, rfl, hb, hc⟩ := HX.out.at_ (List.getElem?_eq_getElem hlt)
      have HC := Lib.hid hc
      clear hc
      go_wp2_with fail
      go_loopw [4] (fun j wr => ∃ m : Nat, m ≤ k ∧ j = .int .i64 m ∧ Hid (∀ i, (hi : i < m) → ∀ hi2 : i < l.length, l[i] ≠ l[k]) ∧ Below w.heap.size w wr) (fun j _ => k - (intOf j).toNat)
      case atStart => exact ⟨0, Nat.zero_le _, rfl, Lib.hid (fun i hi => absurd hi (Nat.not_lt_zero i)), hbel⟩
      case round =>
        obtain ⟨m, hm, rfl, HM, hbel2⟩ := hrel
        by_cases hmk : m < k
        · have hml : m < l.length := by omega
          obtain ⟨b', off', e1, hb', hd⟩ := HX.out.at_ (List.getElem?_eq_getElem hml)
          cases e1
          have hc := HC.out
          rw [← hbel2.cell (p := ⟨b, _, none⟩) (Nat.lt_of_lt_of_le hb hB)] at hc
          rw [← hbel2.cell (p := ⟨b, _, none⟩) (Nat.lt_of_lt_of_le hb hB)] at hd
          have hmi0 : (0 : Int) ≤ (m : Int) := by omega
          have hmi1 : (m : Int) < (l.length : Int) := by omega
          by_cases he : l[k] = l[m]
          · have hze : (l[k].toList == l[m].toList) = true := by rw [he]; exact beq_self_eq_true _
            clear he
            go_wp2_with fail
            go_quiet (fail)
            go_wp2_with fail
            go_ret
            exact ⟨⟨false, rfl, fun h => by cases h⟩, hbel2.trans (below_drewN _ _ _)⟩
          · have hze : (l[k].toList == l[m].toList) = false := str_ne he
            have HM2 : Hid (∀ i, (hi : i < m + 1) → ∀ hi2 : i < l.length, l[i] ≠ l[k]) := Lib.hid (fun i hi hi2 => by
              rcases Nat.lt_or_ge i m with h | h
              · exact HM.out i h hi2
              · obtain rfl : i = m := by omega
                exact fun e => he e.symm)
            clear he
            go_wp2_with fail
            go_quiet (fail)
            go_wp2_with fail
            go_roundw
            case rel => exact ⟨m + 1, hmk, by go_num, HM2, hbel2.trans (below_drewN _ _ _)⟩
            case measure => simp [intOf]; omega
        · obtain rfl : m = k := by omega
          have HN2 : Hid (l.take (m + 1)).Nodup := Lib.hid (nodup_snoc hlt HN.out fun i hi => HM.out i hi (by omega))
          go_wp2_with fail
          go_roundw
          case rel => exact ⟨m + 1, hlt, by go_num, HN2, hbel2⟩
          case measure => simp [intOf]; omega
    · obtain rfl : k = l.length := by omega
      go_wp2_with fail
      go_ret
      refine ⟨⟨true, rfl, fun _ => ?_⟩, hbel⟩
      have := HN.out
      rwa [List.take_length] at this

set_option maxRecDepth 100000 in
set_option maxHeartbeats 3200000 in
theorem lawBack_any (x : Value) (t : List (List ByteArray)) (w : World) (hx : HoldsT w (· < w.heap.size) x t) (hE : Env0 w) :
    Calls Try.prog 9 #[x] w fun e w' => e = .returned (.bool true) ∧ Below w.heap.size w w' := by
  have HS := Lib.hid (small_any x t w _ hx (Nat.le_refl _))
  have HX := Lib.hid hx
  obtain ⟨oa, ca, rfl, _, _⟩ := hx.form
  clear hx
  go_enter Try.func9, Try.ntmps9
  go_wp2_with fail
  refine HS.out.mono ?_
  rintro e w1 ⟨⟨z, rfl, hz⟩, hb1⟩
  have HX := Lib.hid (HX.out.on hb1)
  have hE1 := hE.later hb1
  have HB := Lib.hid hb1
  cases z with
  | false =>
    clear hb1 hz
    have HA := Lib.hid (awaken w1 hE1)
    go_wp2_with fail
    refine HA.out.mono ?_
    rintro e w99 ⟨rfl, hb99⟩
    go_wp2_with fail
    go_ret
    exact ⟨rfl, HB.out.trans (hb99.mono HB.out.size)⟩
  | true =>
    have HZ := Lib.hid (hz rfl)
    clear hb1 hz
    have HC := Lib.hid (chk_any _ t w1 _ HX.out)
    by_cases hc : chkT t = 0
    · have fc := neq_fT hc
      have hcn : ¬ (chkT t) ≠ 0 := fun h => h hc
      have HCC := Lib.hid hc
      have HFT := Lib.hid (fill_again hc)
      have HTT : Hid (chkT (transT t) = 0 ∧ transT (transT t) = t ∧ (transT t).length = colsT t ∧ Few (transT t)) := Lib.hid (by
        by_cases hp : 0 < t.length
        · have hv := valid_of hc hp
          refine ⟨?_, trans_trans hv hp, by rw [transT_ok hc, transK_len], transT_few t⟩
          rw [transT_ok hc]
          exact (hv.trans hp).chk
        · obtain rfl := List.eq_nil_of_length_eq_zero (by omega : t.length = 0)
          exact ⟨rfl, rfl, rfl, transT_few []⟩)
      have HU0 : Hid (∀ h : 0 < (transT t).length, (transT t)[0] = colOf t 0) := Lib.hid (fun h => by
        have e := transT_ok hc
        have hh : ∀ (l : Tab) (e : transT t = l) (hl : 0 < l.length), (transT t)[0] = l[0] := by
          intro l e hl
          subst e
          rfl
        rw [hh _ e (by rw [← e]; exact h)]
        exact transK_get t (colsT t) 0 (by rw [e, transK_len] at h; exact h))
      have HFF := Lib.hid (fillT_few t)
      have HF2 := Lib.hid (smT_fewB HZ.out)
      have HTR := Lib.hid (fun x t w B h hB => Transpose_any x t w B h hB)
      have HFI := Lib.hid (fun x t w B h hB => Fill_any x t w B h hB)
      clear hcn
      go_wp2_with fail
      refine HC.out.mono ?_
      rintro e w' ⟨rfl, rfl⟩
      have HQ := Lib.hid (HTR.out _ t w1 _ HX.out (Nat.le_refl _))
      go_wp2_with fail
      refine HQ.out.mono ?_
      rintro e w2 ⟨⟨v2, rfl, h2⟩, hb2⟩
      obtain ⟨o2, c2, rfl, _, _⟩ := h2.form
      have HX := Lib.hid (HX.out.on hb2)
      have HB := Lib.hid (HB.out.trans (hb2.mono HB.out.size))
      have hE2 := hE1.later hb2
      have HU := Lib.hid h2.all
      clear hb2 h2
      obtain ⟨U, hU⟩ : ∃ U, transT t = U := ⟨_, rfl⟩
      rw [hU] at HU HTT
      have HU0 : Hid (∀ h : 0 < U.length, U[0] = colOf t 0) := Lib.hid (by rw [← hU]; exact HU0.out)
      try rw [hU]
      have HUU := Lib.hid hU
      clear hU
      have HQ := Lib.hid (HTR.out _ U w2 _ HU.out (Nat.le_refl _))
      rw [HTT.out.2.1] at HQ
      go_wp2_with fail
      refine HQ.out.mono ?_
      rintro e w3 ⟨⟨v3, rfl, h3⟩, hb3⟩
      obtain ⟨o3, c3, rfl, _, _⟩ := h3.form
      have HX := Lib.hid (HX.out.on hb3)
      have HU := Lib.hid (HU.out.on hb3)
      have HB := Lib.hid (HB.out.trans (hb3.mono HB.out.size))
      have hE3 := hE2.later hb3
      have HV := Lib.hid h3.all
      clear hb3 h3
      have HQ := Lib.hid (same_eq _ _ t w3 _ HV.out HX.out (Nat.le_refl _) HF2.out.1 HF2.out.2)
      go_wp2_with fail
      refine HQ.out.mono ?_
      rintro e w4 ⟨rfl, hb4⟩
      have HX := Lib.hid (HX.out.on hb4)
      have HU := Lib.hid (HU.out.on hb4)
      have HV := Lib.hid (HV.out.on hb4)
      have HB := Lib.hid (HB.out.trans (hb4.mono HB.out.size))
      have hE4 := hE3.later hb4
      clear hb4
      have HQ := Lib.hid (chk_any _ U w4 _ HU.out)
      rw [HTT.out.1] at HQ
      go_wp2_with fail
      refine HQ.out.mono ?_
      rintro e w' ⟨rfl, rfl⟩
      obtain ⟨FT, hFT⟩ : ∃ FT, fillT t = FT := ⟨_, rfl⟩
      rw [hFT] at HFT HFF
      have HQ := Lib.hid (HFI.out _ t w4 _ HX.out (Nat.le_refl _))
      rw [hFT] at HQ
      go_wp2_with fail
      refine HQ.out.mono ?_
      rintro e w5 ⟨⟨v5, rfl, h5⟩, hb5⟩
      obtain ⟨o5, c5, rfl, _, _⟩ := h5.form
      have HX := Lib.hid (HX.out.on hb5)
      have HU := Lib.hid (HU.out.on hb5)
      have HB := Lib.hid (HB.out.trans (hb5.mono HB.out.size))
      have hE5 := hE4.later hb5
      have HF := Lib.hid h5.all
      clear hb5 h5
      clear hFT
      have HQ := Lib.hid (HFI.out _ FT w5 _ HF.out (Nat.le_refl _))
      rw [HFT.out.2] at HQ
      go_wp2_with fail
      refine HQ.out.mono ?_
      rintro e w6 ⟨⟨v6, rfl, h6⟩, hb6⟩
      obtain ⟨o6, c6, rfl, _, _⟩ := h6.form
      have HX := Lib.hid (HX.out.on hb6)
      have HU := Lib.hid (HU.out.on hb6)
      have HF := Lib.hid (HF.out.on hb6)
      have HB := Lib.hid (HB.out.trans (hb6.mono HB.out.size))
      have hE6 := hE5.later hb6
      have HG := Lib.hid h6.all
      clear hb6 h6
      have HQ := Lib.hid (same_eq _ _ FT w6 _ HG.out HF.out (Nat.le_refl _) HFF.out.1 HFF.out.2)
      go_wp2_with fail
      refine HQ.out.mono ?_
      rintro e w7 ⟨rfl, hb7⟩
      have HX := Lib.hid (HX.out.on hb7)
      have HU := Lib.hid (HU.out.on hb7)
      have HF := Lib.hid (HF.out.on hb7)
      have HG := Lib.hid (HG.out.on hb7)
      have HB := Lib.hid (HB.out.trans (hb7.mono HB.out.size))
      have hE7 := hE6.later hb7
      clear hb7
      have HQ := Lib.hid (chk_any _ FT w7 _ HF.out)
      rw [HFT.out.1] at HQ
      go_wp2_with fail
      refine HQ.out.mono ?_
      rintro e w' ⟨rfl, rfl⟩
      have HUL := Lib.hid HTT.out.2.2.1
      by_cases hn : (t.length : Int) < 2
      · skip
        have HA := Lib.hid (awaken w7 hE7)
        go_wp2_with fail
        refine HA.out.mono ?_
        rintro e w99 ⟨rfl, hb99⟩
        go_wp2_with fail
        go_ret
        exact ⟨rfl, HB.out.trans (hb99.mono HB.out.size)⟩
      by_cases hu : (U.length : Int) < 2
      · skip
        have HA := Lib.hid (awaken w7 hE7)
        go_wp2_with fail
        refine HA.out.mono ?_
        rintro e w99 ⟨rfl, hb99⟩
        go_wp2_with fail
        go_ret
        exact ⟨rfl, HB.out.trans (hb99.mono HB.out.size)⟩
      have hp : 0 < t.length := by omega
      have hpu : 0 < U.length := by omega
      have hpi : (0 : Int) < (t.length : Int) := by omega
      have hpui : (0 : Int) < (U.length : Int) := by omega
      have HROW := Lib.hid ((chkT_rows HCC.out).2 _ (List.getElem_mem hp))
      have HUROW := Lib.hid ((chkT_rows HTT.out.1).2 _ (List.getElem_mem hpu))
      obtain ⟨b, off, o, cr, rfl, hb, g0, hrow⟩ := HX.out.at_ (List.getElem?_eq_getElem hp)
      simp only [Nat.add_zero] at g0
      obtain ⟨hd, hhd⟩ : ∃ hd, t[0] = hd := ⟨_, rfl⟩
      rw [hhd] at HROW g0 hrow
      have hl1 : 0 < hd.length := by have := HROW.out.2.1; omega
      have hl1i : (0 : Int) < (hd.length : Int) := by omega
      have hl8 := HROW.out.2.2.1
      obtain ⟨b2, off2, rfl, hb2, g1⟩ := hrow.at_ (List.getElem?_eq_getElem hl1)
      simp only [Nat.add_zero] at g1
      obtain ⟨s00, hs00⟩ : ∃ s, hd[0] = s := ⟨_, rfl⟩
      rw [hs00] at g1
      have HS00 := Lib.hid hs00
      have HHD := Lib.hid hhd
      have HRW := Lib.hid hrow
      obtain ⟨ob, cu, hUf⟩ : ∃ ob cu, (Value.slice o2 U.length c2) = .slice ob U.length cu := ⟨_, _, rfl⟩
      obtain ⟨b3, off3, o3, cr3, e3, hb3, g3, hurow⟩ := HU.out.at_ (List.getElem?_eq_getElem hpu)
      subst e3
      simp only [Nat.add_zero] at g3
      obtain ⟨u0, hu0⟩ : ∃ u0, U[0] = u0 := ⟨_, rfl⟩
      rw [hu0] at HUROW g3 hurow
      have hul8 := HUROW.out.2.2.1
      have HUW := Lib.hid hurow
      have HU0' : Hid (u0 = colOf t 0) := Lib.hid (by rw [← hu0]; exact HU0.out hpu)
      clear hrow hurow hhd hs00 hu0 hUf
      by_cases hem : s00.toList = []
      · have hemB : s00.toList.isEmpty = true := by rw [hem]; rfl
        have HEM := Lib.hid hem
        clear hem
        have HD1 := Lib.hid (ndist_any _ hd w7 _ HRW.out (Nat.le_refl _) (by omega))
        have G3 := Lib.hid g3
        have HB3 := Lib.hid hb3
        clear g3
        go_wp2_with fail
        refine HD1.out.mono ?_
        rintro e wA ⟨⟨z1, rfl, hz1⟩, hbA⟩
        have HX := Lib.hid (HX.out.on hbA)
        have HU := Lib.hid (HU.out.on hbA)
        have HUW := Lib.hid (HUW.out.on hbA)
        have HB := Lib.hid (HB.out.trans (hbA.mono HB.out.size))
        have hEA := hE7.later hbA
        have g3 := (hbA.cell (p := ⟨b3, off3, none⟩) HB3.out).trans G3.out
        cases z1 with
        | false =>
          clear hbA hz1
          have HA := Lib.hid (awaken wA hEA)
          go_wp2_with fail
          refine HA.out.mono ?_
          rintro e w99 ⟨rfl, hb99⟩
          go_wp2_with fail
          go_ret
          exact ⟨rfl, HB.out.trans (hb99.mono HB.out.size)⟩
        | true =>
          have HN1 := Lib.hid (hz1 rfl)
          have HD2 := Lib.hid (ndist_any _ u0 wA _ HUW.out (Nat.le_refl _) (by omega))
          clear hbA hz1
          go_wp2_with fail
          refine HD2.out.mono ?_
          rintro e wB ⟨⟨z2, rfl, hz2⟩, hbB⟩
          have HX := Lib.hid (HX.out.on hbB)
          have HB := Lib.hid (HB.out.trans (hbB.mono HB.out.size))
          have hEB := hEA.later hbB
          cases z2 with
          | false =>
            clear hbB hz2
            have HA := Lib.hid (awaken wB hEB)
            go_wp2_with fail
            refine HA.out.mono ?_
            rintro e w99 ⟨rfl, hb99⟩
            go_wp2_with fail
            go_ret
            exact ⟨rfl, HB.out.trans (hb99.mono HB.out.size)⟩
          | true =>
            have HN2 := Lib.hid (hz2 rfl)
            clear hbB hz2
            have HUN := Lib.hid (Unpivot_any _ t 1 wB _ HX.out (Nat.le_refl _) (by unfold I64; omega))
            by_cases he : unpE t 1 = 0
            · have HPU : Hid (pivE (unpV t 1) = 0 ∧ pivV (unpV t 1) = t) := Lib.hid (piv_unp (by omega) (by have := HUL.out; omega)
                (by rw [HHD.out, List.getElem?_eq_getElem hl1, HS00.out, toList_nil HEM.out]) (by rw [HHD.out]; exact HN1.out) (by rw [← HU0'.out]; exact HN2.out) he)
              rw [he] at HUN
              obtain ⟨V, hV⟩ : ∃ V, unpV t 1 = V := ⟨_, rfl⟩
              rw [hV] at HUN HPU
              clear he hV
              go_wp2_with fail
              refine HUN.out.mono ?_
              rintro e wC ⟨⟨vC, rfl, hC⟩, hbC⟩
              have HX := Lib.hid (HX.out.on hbC)
              have HB := Lib.hid (HB.out.trans (hbC.mono HB.out.size))
              have hEC := hEB.later hbC
              have HPV := Lib.hid (Pivot_any _ V wC _ hC.all (Nat.le_refl _))
              rw [HPU.out.1, HPU.out.2] at HPV
              obtain ⟨oC, cC, rfl, _, _⟩ := hC.form
              clear hC hbC
              go_wp2_with fail
              refine HPV.out.mono ?_
              rintro e wD ⟨⟨vD, rfl, hD⟩, hbD⟩
              have HX := Lib.hid (HX.out.on hbD)
              have HB := Lib.hid (HB.out.trans (hbD.mono HB.out.size))
              have hED := hEC.later hbD
              have HSQ := Lib.hid (same_eq _ _ t wD _ hD.all HX.out (Nat.le_refl _) HF2.out.1 HF2.out.2)
              obtain ⟨oD, cD, rfl, _, _⟩ := hD.form
              clear hD hbD
              go_wp2_with fail
              refine HSQ.out.mono ?_
              rintro e wE ⟨rfl, hbE⟩
              have HB := Lib.hid (HB.out.trans (hbE.mono HB.out.size))
              have HA := Lib.hid (awaken wE (hED.later hbE))
              go_wp2_with fail
              refine HA.out.mono ?_
              rintro e wF ⟨rfl, hbF⟩
              go_wp2_with fail
              go_ret
              exact ⟨rfl, HB.out.trans (hbF.mono HB.out.size)⟩
            · have fu := neq_tT he
              obtain ⟨E, hEE⟩ : ∃ E, unpE t 1 = E := ⟨_, rfl⟩
              rw [hEE] at HUN fu
              clear he hEE
              go_wp2_with fail
              refine HUN.out.mono ?_
              rintro e wC ⟨⟨vC, rfl, hC⟩, hbC⟩
              have HB := Lib.hid (HB.out.trans (hbC.mono HB.out.size))
              have hEC := hEB.later hbC
              obtain ⟨oC, cC, rfl, _, _⟩ := hC.form
              clear hC hbC
              have HA := Lib.hid (awaken wC hEC)
              go_wp2_with fail
              refine HA.out.mono ?_
              rintro e w99 ⟨rfl, hb99⟩
              go_wp2_with fail
              go_ret
              exact ⟨rfl, HB.out.trans (hb99.mono HB.out.size)⟩
      · have hemB : s00.toList.isEmpty = false := by
          cases hl : s00.toList with
          | nil => exact absurd hl hem
          | cons _ _ => rfl
        clear hem
        have HA := Lib.hid (awaken w7 hE7)
        go_wp2_with fail
        refine HA.out.mono ?_
        rintro e w99 ⟨rfl, hb99⟩
        go_wp2_with fail
        go_ret
        exact ⟨rfl, HB.out.trans (hb99.mono HB.out.size)⟩
    · have fc := neq_tT hc
      clear hc
      go_wp2_with fail
      refine HC.out.mono ?_
      rintro e w' ⟨rfl, rfl⟩
      have HA := Lib.hid (awaken w1 hE1)
      go_wp2_with fail
      refine HA.out.mono ?_
      rintro e w99 ⟨rfl, hb99⟩
      go_wp2_with fail
      go_ret
      exact ⟨rfl, HB.out.trans (hb99.mono HB.out.size)⟩

end Go.Proofs.Ytampofpllijfhaa
