/-
  The law TablesChecks walked. Nothing is assumed.
-/
import Derived.Test.YtampofpllijfhaaTbLawP
import Derived.Test.YtampofpllijfhaaTbFill
namespace Go.Proofs.Ytampofpllijfhaa
open Go.RowKit

/-- A table of few rows of few cells. -/
def Few (t : Tab) : Prop := t.length ≤ 1000 ∧ ∀ r ∈ t, r.length ≤ 1000
theorem transT_few (t : Tab) : Few (transT t) := by
  unfold transT
  split
  · rename_i h
    have h8 := (chkT_rows h).1
    have hc := colsT_le h
    refine ⟨by simp; omega, fun r hr => ?_⟩
    obtain ⟨k, _, rfl⟩ := List.mem_map.1 hr
    rw [colOf_len]
    omega
  · exact ⟨by simp, fun r hr => by cases hr⟩
theorem fillT_few (t : Tab) : Few (fillT t) := by
  unfold fillT
  split
  · rename_i h
    have h8 := (chkT_rows h).1
    have hc := colsT_le h
    cases t with
    | nil => exact ⟨by simp [fillTo], fun r hr => by simp [fillTo] at hr⟩
    | cons r t =>
      have hs := (shape_of h).to ((r :: t).length - 1) (by simp)
      exact ⟨by rw [hs.1]; omega, fun q hq => by rw [hs.2 q hq]; omega⟩
  · exact ⟨by simp, fun r hr => by cases hr⟩

set_option maxRecDepth 100000 in
set_option maxHeartbeats 3200000 in
theorem lawChecks_any (x : Value) (t : List (List ByteArray)) (w : World) (hx : HoldsT w (· < w.heap.size) x t) (hE : Env0 w) :
    Calls Try.prog 3 #[x] w fun e w' => e = .returned (.bool true) ∧ Below w.heap.size w w' := by
  have HS := Lib.hid (small_any x t w _ hx (Nat.le_refl _))
  have HX := Lib.hid hx
  obtain ⟨oa, ca, rfl, _, _⟩ := hx.form
  clear hx
  go_enter Try.func3, Try.ntmps3
  go_wp2_with fail
  refine HS.out.mono ?_
  rintro e w1 ⟨⟨z, rfl, hz⟩, hb1⟩
  have HX := Lib.hid (HX.out.on hb1)
  have hE1 := hE.later hb1
  cases z with
  | false =>
    have HA := Lib.hid (awaken w1 hE1)
    have HB1 := Lib.hid hb1
    clear hb1 hz
    go_wp2_with fail
    refine HA.out.mono ?_
    rintro e w2 ⟨rfl, hb2⟩
    go_wp2_with fail
    go_ret
    exact ⟨rfl, HB1.out.trans (hb2.mono HB1.out.size)⟩
  | true =>
    have HZ := Lib.hid (hz rfl)
    have HB := Lib.hid hb1
    clear hb1 hz
    have HC1 := Lib.hid (fun w B h hB => Transpose_any (.slice oa t.length ca) t w B h hB)
    have HD1 := Lib.hid (fun w B h hB => rTranspose_any (.slice oa t.length ca) t w B h hB)
    have HC2 := Lib.hid (fun w B h hB => Fill_any (.slice oa t.length ca) t w B h hB)
    have HD2 := Lib.hid (fun w B h hB => rFill_any (.slice oa t.length ca) t w B h hB)
    have HL1 := Lib.hid (transT_few t)
    have HL2 := Lib.hid (fillT_few t)
    obtain ⟨T1, hT1⟩ : ∃ T1, transT t = T1 := ⟨_, rfl⟩
    obtain ⟨T2, hT2⟩ : ∃ T2, fillT t = T2 := ⟨_, rfl⟩
    rw [hT1] at HC1 HD1 HL1
    rw [hT2] at HC2 HD2 HL2
    obtain ⟨E, hEE⟩ : ∃ E, chkT t = E := ⟨_, rfl⟩
    have HEE := Lib.hid hEE
    clear hT1 hT2 hEE
    have HQ := Lib.hid (chk_any _ t w1 _ HX.out)
    go_wp2_with fail
    refine HQ.out.mono ?_
    rintro e w' ⟨rfl, rfl⟩
    have HQ := Lib.hid (rchk_any _ t w1 _ HX.out (Nat.le_refl _))
    go_wp2_with fail
    refine HQ.out.mono ?_
    rintro e w2 ⟨rfl, hb2⟩
    have HX := Lib.hid (HX.out.on hb2)
    have HB := Lib.hid (HB.out.trans (hb2.mono HB.out.size))
    have hE2 := hE1.later hb2
    clear hb2
    have HQ := Lib.hid (HC1.out w2 _ HX.out (Nat.le_refl _))
    go_wp2_with fail
    refine HQ.out.mono ?_
    rintro e w3 ⟨⟨v3, rfl, h3⟩, hb3⟩
    obtain ⟨o3, c3, rfl, _, _⟩ := h3.form
    have HX := Lib.hid (HX.out.on hb3)
    have HB := Lib.hid (HB.out.trans (hb3.mono HB.out.size))
    have hE3 := hE2.later hb3
    have H1 := Lib.hid h3.all
    clear hb3 h3
    have HQ := Lib.hid (HD1.out w3 _ HX.out (Nat.le_refl _))
    go_wp2_with fail
    refine HQ.out.mono ?_
    rintro e w4 ⟨⟨v4, rfl, h4⟩, hb4⟩
    obtain ⟨o4, c4, rfl, _, _⟩ := h4.form
    have HX := Lib.hid (HX.out.on hb4)
    have H1 := Lib.hid (H1.out.on hb4)
    have HB := Lib.hid (HB.out.trans (hb4.mono HB.out.size))
    have hE4 := hE3.later hb4
    have H2 := Lib.hid h4.all
    clear hb4 h4
    have HQ := Lib.hid (same_eq _ _ T1 w4 _ H1.out H2.out (Nat.le_refl _) HL1.out.1 HL1.out.2)
    go_wp2_with fail
    refine HQ.out.mono ?_
    rintro e w5 ⟨rfl, hb5⟩
    have HX := Lib.hid (HX.out.on hb5)
    have H1 := Lib.hid (H1.out.on hb5)
    have H2 := Lib.hid (H2.out.on hb5)
    have HB := Lib.hid (HB.out.trans (hb5.mono HB.out.size))
    have hE5 := hE4.later hb5
    clear hb5
    have HQ := Lib.hid (HC2.out w5 _ HX.out (Nat.le_refl _))
    go_wp2_with fail
    refine HQ.out.mono ?_
    rintro e w6 ⟨⟨v6, rfl, h6⟩, hb6⟩
    obtain ⟨o6, c6, rfl, _, _⟩ := h6.form
    have HX := Lib.hid (HX.out.on hb6)
    have HB := Lib.hid (HB.out.trans (hb6.mono HB.out.size))
    have hE6 := hE5.later hb6
    have H3 := Lib.hid h6.all
    clear hb6 h6
    have HQ := Lib.hid (HD2.out w6 _ HX.out (Nat.le_refl _))
    go_wp2_with fail
    refine HQ.out.mono ?_
    rintro e w7 ⟨⟨v7, rfl, h7⟩, hb7⟩
    obtain ⟨o7, c7, rfl, _, _⟩ := h7.form
    have HX := Lib.hid (HX.out.on hb7)
    have H3 := Lib.hid (H3.out.on hb7)
    have HB := Lib.hid (HB.out.trans (hb7.mono HB.out.size))
    have hE7 := hE6.later hb7
    have H4 := Lib.hid h7.all
    clear hb7 h7
    have HQ := Lib.hid (same_eq _ _ T2 w7 _ H3.out H4.out (Nat.le_refl _) HL2.out.1 HL2.out.2)
    go_wp2_with fail
    refine HQ.out.mono ?_
    rintro e w8 ⟨rfl, hb8⟩
    have H3 := Lib.hid (H3.out.on hb8)
    have H4 := Lib.hid (H4.out.on hb8)
    have HB := Lib.hid (HB.out.trans (hb8.mono HB.out.size))
    have hE8 := hE7.later hb8
    clear hb8
    have HQ := Lib.hid (awaken w8 hE8)
    go_wp2_with fail
    refine HQ.out.mono ?_
    rintro e w9 ⟨rfl, hb9⟩
    have HB := Lib.hid (HB.out.trans (hb9.mono HB.out.size))
    have hE9 := hE8.later hb9
    clear hb9
    go_wp2_with fail
    go_ret
    exact ⟨rfl, HB.out⟩

end Go.Proofs.Ytampofpllijfhaa
