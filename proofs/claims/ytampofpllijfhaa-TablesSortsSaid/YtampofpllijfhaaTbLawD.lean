/-
  The law TablesDrops walked. Nothing is assumed.
-/
import Derived.Test.YtampofpllijfhaaTbLawP
import Derived.Test.YtampofpllijfhaaTbLawC
import Derived.Test.YtampofpllijfhaaTbRdrop
import Derived.Test.YtampofpllijfhaaTbSorts
namespace Go.Proofs.Ytampofpllijfhaa
open Go.RowKit

theorem smT_fewD {t : Tab} (h : SmT t) : Few t := ⟨by have := h.1; omega, fun r hr => by have := (h.2 r hr).1; omega⟩
theorem drpT_few (k : Nat) {t : Tab} (h : Few t) : Few (drpT k t) := by
  refine ⟨by unfold drpT; rw [List.length_append, List.length_take, List.length_drop]; have := h.1; omega, fun r hr => h.2 r ?_⟩
  unfold drpT at hr
  rcases List.mem_append.1 hr with hr | hr
  · exact List.mem_of_mem_take hr
  · exact List.mem_of_mem_drop hr
theorem few_nil : Few [] := ⟨by simp, fun r hr => by cases hr⟩
theorem drrV_few {t : Tab} {i : Int} (h : SmT t) : Few (drrV t i) := by
  unfold drrV
  split
  · exact drpT_few _ (smT_fewD h)
  · exact few_nil
theorem drcV_few {t : Tab} {i : Int} (h : SmT t) : Few (drcV t i) := by
  unfold drcV
  split
  · refine ⟨by rw [List.length_map]; exact (smT_fewD h).1, fun r hr => ?_⟩
    obtain ⟨q, hq, rfl⟩ := List.mem_map.1 hr
    have := (smT_fewD h).2 q hq
    unfold drpR
    rw [List.length_append, List.length_take, List.length_drop]
    omega
  · exact few_nil
theorem srtV_few {t : Tab} {i : Int} (h : SmT t) : Few (srtV t i) := by
  unfold srtV
  split
  · exact ⟨by rw [passes_len]; exact (smT_fewD h).1, fun r hr => (smT_fewD h).2 r (passes_mem _ _ _ hr)⟩
  · exact few_nil

set_option maxRecDepth 100000 in
set_option maxHeartbeats 3200000 in
theorem lawDrops_any (x : Value) (t : List (List ByteArray)) (i : Int) (w : World) (hx : HoldsT w (· < w.heap.size) x t) (hE : Env0 w) (hi : I64 i) :
    Calls Try.prog 5 #[x, .int .i64 i] w fun e w' => e = .returned (.bool true) ∧ Below w.heap.size w w' := by
  have HS := Lib.hid (small_any x t w _ hx (Nat.le_refl _))
  have HX := Lib.hid hx
  obtain ⟨oa, ca, rfl, _, _⟩ := hx.form
  clear hx
  go_enter Try.func5, Try.ntmps5
  go_wp2_with fail
  refine HS.out.mono ?_
  rintro e w1 ⟨⟨z, rfl, hz⟩, hb1⟩
  have HX := Lib.hid (HX.out.on hb1)
  have hE1 := hE.later hb1
  cases z with
  | false =>
    have HA := Lib.hid (awaken w1 hE1)
    have HB1 := Lib.hid hb1
    clear hb1 hz
    go_wp2_with fail
    refine HA.out.mono ?_
    rintro e w2 ⟨rfl, hb2⟩
    go_wp2_with fail
    go_ret
    exact ⟨rfl, HB1.out.trans (hb2.mono HB1.out.size)⟩
  | true =>
    have HZ := Lib.hid (hz rfl)
    have HB := Lib.hid hb1
    clear hb1 hz
    have HC1 := Lib.hid (fun w B h hB => DropRow_any (.slice oa t.length ca) t i w B h hB hi)
    have HD1 := Lib.hid (fun w B h hB => rDropRow_any (.slice oa t.length ca) t i w B h hB hi)
    have HC2 := Lib.hid (fun w B h hB => DropColumn_any (.slice oa t.length ca) t i w B h hB hi)
    have HD2 := Lib.hid (fun w B h hB => rDropColumn_any (.slice oa t.length ca) t i w B h hB hi)
    have HC3 := Lib.hid (fun w B h hB => Sort_any (.slice oa t.length ca) t i w B h hB hi)
    have HD3 := Lib.hid (fun w B h hB => rSort_any (.slice oa t.length ca) t i w B h hB hi)
    have HL1 := Lib.hid (drrV_few (i := i) HZ.out)
    have HL2 := Lib.hid (drcV_few (i := i) HZ.out)
    have HL3 := Lib.hid (srtV_few (i := i) HZ.out)
    obtain ⟨T1, hT1⟩ : ∃ T1, drrV t i = T1 := ⟨_, rfl⟩
    obtain ⟨T2, hT2⟩ : ∃ T2, drcV t i = T2 := ⟨_, rfl⟩
    obtain ⟨T3, hT3⟩ : ∃ T3, srtV t i = T3 := ⟨_, rfl⟩
    obtain ⟨E1, hE1'⟩ : ∃ E, drrE t i = E := ⟨_, rfl⟩
    obtain ⟨E2, hE2'⟩ : ∃ E, drcE t i = E := ⟨_, rfl⟩
    obtain ⟨E3, hE3'⟩ : ∃ E, locE (chkT t) i (colsT t) = E := ⟨_, rfl⟩
    rw [hT1] at HC1 HD1 HL1
    rw [hT2] at HC2 HD2 HL2
    rw [hT3] at HC3 HD3 HL3
    rw [hE1'] at HC1 HD1
    rw [hE2'] at HC2 HD2
    rw [hE3'] at HC3 HD3
    clear hT1 hT2 hT3 hE1' hE2' hE3'
    have HQ := Lib.hid (HC1.out w1 _ HX.out (Nat.le_refl _))
    go_wp2_with fail
    refine HQ.out.mono ?_
    rintro e w2 ⟨⟨v2, rfl, h2⟩, hb2⟩
    obtain ⟨o2, c2, rfl, _, _⟩ := h2.form
    have HX := Lib.hid (HX.out.on hb2)
    have HB := Lib.hid (HB.out.trans (hb2.mono HB.out.size))
    have hE2 := hE1.later hb2
    have H1 := Lib.hid h2.all
    clear hb2 h2
    have HQ := Lib.hid (HD1.out w2 _ HX.out (Nat.le_refl _))
    go_wp2_with fail
    refine HQ.out.mono ?_
    rintro e w3 ⟨⟨v3, rfl, h3⟩, hb3⟩
    obtain ⟨o3, c3, rfl, _, _⟩ := h3.form
    have HX := Lib.hid (HX.out.on hb3)
    have H1 := Lib.hid (H1.out.on hb3)
    have HB := Lib.hid (HB.out.trans (hb3.mono HB.out.size))
    have hE3 := hE2.later hb3
    have H2 := Lib.hid h3.all
    clear hb3 h3
    have HQ := Lib.hid (HC2.out w3 _ HX.out (Nat.le_refl _))
    go_wp2_with fail
    refine HQ.out.mono ?_
    rintro e w4 ⟨⟨v4, rfl, h4⟩, hb4⟩
    obtain ⟨o4, c4, rfl, _, _⟩ := h4.form
    have HX := Lib.hid (HX.out.on hb4)
    have H1 := Lib.hid (H1.out.on hb4)
    have H2 := Lib.hid (H2.out.on hb4)
    have HB := Lib.hid (HB.out.trans (hb4.mono HB.out.size))
    have hE4 := hE3.later hb4
    have H3 := Lib.hid h4.all
    clear hb4 h4
    have HQ := Lib.hid (HD2.out w4 _ HX.out (Nat.le_refl _))
    go_wp2_with fail
    refine HQ.out.mono ?_
    rintro e w5 ⟨⟨v5, rfl, h5⟩, hb5⟩
    obtain ⟨o5, c5, rfl, _, _⟩ := h5.form
    have HX := Lib.hid (HX.out.on hb5)
    have H1 := Lib.hid (H1.out.on hb5)
    have H2 := Lib.hid (H2.out.on hb5)
    have H3 := Lib.hid (H3.out.on hb5)
    have HB := Lib.hid (HB.out.trans (hb5.mono HB.out.size))
    have hE5 := hE4.later hb5
    have H4 := Lib.hid h5.all
    clear hb5 h5
    have HQ := Lib.hid (HC3.out w5 _ HX.out (Nat.le_refl _))
    go_wp2_with fail
    refine HQ.out.mono ?_
    rintro e w6 ⟨⟨v6, rfl, h6⟩, hb6⟩
    obtain ⟨o6, c6, rfl, _, _⟩ := h6.form
    have HX := Lib.hid (HX.out.on hb6)
    have H1 := Lib.hid (H1.out.on hb6)
    have H2 := Lib.hid (H2.out.on hb6)
    have H3 := Lib.hid (H3.out.on hb6)
    have H4 := Lib.hid (H4.out.on hb6)
    have HB := Lib.hid (HB.out.trans (hb6.mono HB.out.size))
    have hE6 := hE5.later hb6
    have H5 := Lib.hid h6.all
    clear hb6 h6
    have HQ := Lib.hid (HD3.out w6 _ HX.out (Nat.le_refl _))
    go_wp2_with fail
    refine HQ.out.mono ?_
    rintro e w7 ⟨⟨v7, rfl, h7⟩, hb7⟩
    obtain ⟨o7, c7, rfl, _, _⟩ := h7.form
    have HX := Lib.hid (HX.out.on hb7)
    have H1 := Lib.hid (H1.out.on hb7)
    have H2 := Lib.hid (H2.out.on hb7)
    have H3 := Lib.hid (H3.out.on hb7)
    have H4 := Lib.hid (H4.out.on hb7)
    have H5 := Lib.hid (H5.out.on hb7)
    have HB := Lib.hid (HB.out.trans (hb7.mono HB.out.size))
    have hE7 := hE6.later hb7
    have H6 := Lib.hid h7.all
    clear hb7 h7
    have HQ := Lib.hid (same_eq _ _ T1 w7 _ H1.out H2.out (Nat.le_refl _) HL1.out.1 HL1.out.2)
    go_wp2_with fail
    refine HQ.out.mono ?_
    rintro e w8 ⟨rfl, hb8⟩
    have H1 := Lib.hid (H1.out.on hb8)
    have H2 := Lib.hid (H2.out.on hb8)
    have H3 := Lib.hid (H3.out.on hb8)
    have H4 := Lib.hid (H4.out.on hb8)
    have H5 := Lib.hid (H5.out.on hb8)
    have H6 := Lib.hid (H6.out.on hb8)
    have HB := Lib.hid (HB.out.trans (hb8.mono HB.out.size))
    have hE8 := hE7.later hb8
    clear hb8
    have HQ := Lib.hid (same_eq _ _ T2 w8 _ H3.out H4.out (Nat.le_refl _) HL2.out.1 HL2.out.2)
    go_wp2_with fail
    refine HQ.out.mono ?_
    rintro e w9 ⟨rfl, hb9⟩
    have H3 := Lib.hid (H3.out.on hb9)
    have H4 := Lib.hid (H4.out.on hb9)
    have H5 := Lib.hid (H5.out.on hb9)
    have H6 := Lib.hid (H6.out.on hb9)
    have HB := Lib.hid (HB.out.trans (hb9.mono HB.out.size))
    have hE9 := hE8.later hb9
    clear hb9
    have HQ := Lib.hid (same_eq _ _ T3 w9 _ H5.out H6.out (Nat.le_refl _) HL3.out.1 HL3.out.2)
    go_wp2_with fail
    refine HQ.out.mono ?_
    rintro e w10 ⟨rfl, hb10⟩
    have H5 := Lib.hid (H5.out.on hb10)
    have H6 := Lib.hid (H6.out.on hb10)
    have HB := Lib.hid (HB.out.trans (hb10.mono HB.out.size))
    have hE10 := hE9.later hb10
    clear hb10
    have HQ := Lib.hid (awaken w10 hE10)
    go_wp2_with fail
    refine HQ.out.mono ?_
    rintro e w11 ⟨rfl, hb11⟩
    have HB := Lib.hid (HB.out.trans (hb11.mono HB.out.size))
    have hE11 := hE10.later hb11
    clear hb11
    go_wp2_with fail
    go_ret
    exact ⟨rfl, HB.out⟩

end Go.Proofs.Ytampofpllijfhaa
