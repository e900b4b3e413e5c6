/-
  The law TablesJoins walked. Nothing is assumed.
-/
import Derived.Test.YtampofpllijfhaaTbLawC
import Derived.Test.YtampofpllijfhaaTbRdrop
namespace Go.Proofs.Ytampofpllijfhaa
open Go.RowKit

theorem smT_few {t : Tab} (h : SmT t) : Few t := ⟨by have := h.1; omega, fun r hr => by have := (h.2 r hr).1; omega⟩
theorem stackV_few {a b : Tab} (ha : SmT a) (hb : SmT b) : Few (stackV a b) := by
  unfold stackV
  split
  · refine ⟨by have := ha.1; have := hb.1; rw [List.length_append]; omega, fun r hr => ?_⟩
    rcases List.mem_append.1 hr with hr | hr
    · exact (smT_few ha).2 r hr
    · exact (smT_few hb).2 r hr
  · exact ⟨by simp, fun r hr => by cases hr⟩
theorem besV_few {a b : Tab} (ha : SmT a) (hb : SmT b) : Few (besV a b) := by
  unfold besV
  split
  · refine ⟨by have := ha.1; simp [besT]; omega, fun r hr => ?_⟩
    obtain ⟨i, hi, rfl⟩ := List.getElem_of_mem hr
    unfold besT at hi ⊢
    rw [List.getElem_zipWith, List.length_append]
    rw [List.length_zipWith] at hi
    have := (ha.2 _ (List.getElem_mem (by omega : i < a.length))).1
    have := (hb.2 _ (List.getElem_mem (by omega : i < b.length))).1
    omega
  · exact ⟨by simp, fun r hr => by cases hr⟩

set_option maxRecDepth 100000 in
set_option maxHeartbeats 3200000 in
theorem lawJoins_any (x y : Value) (a b : List (List ByteArray)) (w : World) (hx : HoldsT w (· < w.heap.size) x a) (hy : HoldsT w (· < w.heap.size) y b) (hE : Env0 w) :
    Calls Try.prog 7 #[x, y] w fun e w' => e = .returned (.bool true) ∧ Below w.heap.size w w' := by
  have HS := Lib.hid (small_any x a w _ hx (Nat.le_refl _))
  have HX := Lib.hid hx
  have HY := Lib.hid hy
  obtain ⟨oa, ca, rfl, _, _⟩ := hx.form
  obtain ⟨ob, cb, rfl, _, _⟩ := hy.form
  clear hx hy
  go_enter Try.func7, Try.ntmps7
  go_wp2_with fail
  refine HS.out.mono ?_
  rintro e w1 ⟨⟨z, rfl, hz⟩, hb1⟩
  have HX := Lib.hid (HX.out.on hb1)
  have HY := Lib.hid (HY.out.on hb1)
  have hE1 := hE.later hb1
  cases z with
  | false =>
    have HA := Lib.hid (awaken w1 hE1)
    have HB1 := Lib.hid (hb1)
    clear hb1 hz
    go_wp2_with fail
    refine HA.out.mono ?_
    rintro e w9 ⟨rfl, hb9⟩
    go_wp2_with fail
    go_ret
    exact ⟨rfl, HB1.out.trans (hb9.mono HB1.out.size)⟩
  | true =>
    have HZ := Lib.hid (hz rfl)
    have HB := Lib.hid hb1
    have HS2 := Lib.hid (small_any (.slice ob b.length cb) b w1 _ HY.out (Nat.le_refl _))
    clear hb1 hz
    go_wp2_with fail
    refine HS2.out.mono ?_
    rintro e w2 ⟨⟨z, rfl, hz⟩, hb2⟩
    have HX := Lib.hid (HX.out.on hb2)
    have HY := Lib.hid (HY.out.on hb2)
    have hE2 := hE1.later hb2
    cases z with
    | false =>
      have HA := Lib.hid (awaken w2 hE2)
      have HB1 := Lib.hid (HB.out.trans (hb2.mono HB.out.size))
      clear hb2 hz
      go_wp2_with fail
      refine HA.out.mono ?_
      rintro e w9 ⟨rfl, hb9⟩
      go_wp2_with fail
      go_ret
      exact ⟨rfl, HB1.out.trans (hb9.mono HB1.out.size)⟩
    | true =>
      have HZ2 := Lib.hid (hz rfl)
      have HB := Lib.hid (HB.out.trans (hb2.mono HB.out.size))
      clear hb2 hz
      have HC1 := Lib.hid (fun w B h h' hB => Stack_any (.slice oa a.length ca) (.slice ob b.length cb) a b w B h h' hB)
      have HD1 := Lib.hid (fun w B h h' hB => rStack_any (.slice oa a.length ca) (.slice ob b.length cb) a b w B h h' hB)
      have HC2 := Lib.hid (fun w B h h' hB => Beside_any (.slice oa a.length ca) (.slice ob b.length cb) a b w B h h' hB)
      have HD2 := Lib.hid (fun w B h h' hB => rBeside_any (.slice oa a.length ca) (.slice ob b.length cb) a b w B h h' hB)
      have HL1 := Lib.hid (stackV_few HZ.out HZ2.out)
      have HL2 := Lib.hid (besV_few HZ.out HZ2.out)
      obtain ⟨T1, hT1⟩ : ∃ T1, stackV a b = T1 := ⟨_, rfl⟩
      obtain ⟨T2, hT2⟩ : ∃ T2, besV a b = T2 := ⟨_, rfl⟩
      rw [hT1] at HC1 HD1 HL1
      rw [hT2] at HC2 HD2 HL2
      obtain ⟨E1, hE1'⟩ : ∃ E, stackE a b = E := ⟨_, rfl⟩
      obtain ⟨E2, hE2'⟩ : ∃ E, besE a b = E := ⟨_, rfl⟩
      rw [hE1'] at HC1 HD1
      rw [hE2'] at HC2 HD2
      clear hT1 hT2 hE1' hE2'
      have HQ := Lib.hid (HC1.out w2 _ HX.out HY.out (Nat.le_refl _))
      go_wp2_with fail
      refine HQ.out.mono ?_
      rintro e w3 ⟨⟨v3, rfl, h3⟩, hb3⟩
      obtain ⟨o3, c3, rfl, _, _⟩ := h3.form
      have HX := Lib.hid (HX.out.on hb3)
      have HY := Lib.hid (HY.out.on hb3)
      have HB := Lib.hid (HB.out.trans (hb3.mono HB.out.size))
      have hE3 := hE2.later hb3
      have H1 := Lib.hid h3.all
      clear hb3 h3
      have HQ := Lib.hid (HD1.out w3 _ HX.out HY.out (Nat.le_refl _))
      go_wp2_with fail
      refine HQ.out.mono ?_
      rintro e w4 ⟨⟨v4, rfl, h4⟩, hb4⟩
      obtain ⟨o4, c4, rfl, _, _⟩ := h4.form
      have HX := Lib.hid (HX.out.on hb4)
      have HY := Lib.hid (HY.out.on hb4)
      have H1 := Lib.hid (H1.out.on hb4)
      have HB := Lib.hid (HB.out.trans (hb4.mono HB.out.size))
      have hE4 := hE3.later hb4
      have H2 := Lib.hid h4.all
      clear hb4 h4
      have HQ := Lib.hid (HC2.out w4 _ HX.out HY.out (Nat.le_refl _))
      go_wp2_with fail
      refine HQ.out.mono ?_
      rintro e w5 ⟨⟨v5, rfl, h5⟩, hb5⟩
      obtain ⟨o5, c5, rfl, _, _⟩ := h5.form
      have HX := Lib.hid (HX.out.on hb5)
      have HY := Lib.hid (HY.out.on hb5)
      have H1 := Lib.hid (H1.out.on hb5)
      have H2 := Lib.hid (H2.out.on hb5)
      have HB := Lib.hid (HB.out.trans (hb5.mono HB.out.size))
      have hE5 := hE4.later hb5
      have H3 := Lib.hid h5.all
      clear hb5 h5
      have HQ := Lib.hid (HD2.out w5 _ HX.out HY.out (Nat.le_refl _))
      go_wp2_with fail
      refine HQ.out.mono ?_
      rintro e w6 ⟨⟨v6, rfl, h6⟩, hb6⟩
      obtain ⟨o6, c6, rfl, _, _⟩ := h6.form
      have HX := Lib.hid (HX.out.on hb6)
      have HY := Lib.hid (HY.out.on hb6)
      have H1 := Lib.hid (H1.out.on hb6)
      have H2 := Lib.hid (H2.out.on hb6)
      have H3 := Lib.hid (H3.out.on hb6)
      have HB := Lib.hid (HB.out.trans (hb6.mono HB.out.size))
      have hE6 := hE5.later hb6
      have H4 := Lib.hid h6.all
      clear hb6 h6
      have HQ := Lib.hid (same_eq _ _ T1 w6 _ H1.out H2.out (Nat.le_refl _) HL1.out.1 HL1.out.2)
      go_wp2_with fail
      refine HQ.out.mono ?_
      rintro e w7 ⟨rfl, hb7⟩
      have H1 := Lib.hid (H1.out.on hb7)
      have H2 := Lib.hid (H2.out.on hb7)
      have H3 := Lib.hid (H3.out.on hb7)
      have H4 := Lib.hid (H4.out.on hb7)
      have HB := Lib.hid (HB.out.trans (hb7.mono HB.out.size))
      have hE7 := hE6.later hb7
      clear hb7
      have HQ := Lib.hid (same_eq _ _ T2 w7 _ H3.out H4.out (Nat.le_refl _) HL2.out.1 HL2.out.2)
      go_wp2_with fail
      refine HQ.out.mono ?_
      rintro e w8 ⟨rfl, hb8⟩
      have H3 := Lib.hid (H3.out.on hb8)
      have H4 := Lib.hid (H4.out.on hb8)
      have HB := Lib.hid (HB.out.trans (hb8.mono HB.out.size))
      have hE8 := hE7.later hb8
      clear hb8
      have HQ := Lib.hid (awaken w8 hE8)
      go_wp2_with fail
      refine HQ.out.mono ?_
      rintro e w9 ⟨rfl, hb9⟩
      have HB := Lib.hid (HB.out.trans (hb9.mono HB.out.size))
      have hE9 := hE8.later hb9
      clear hb9
      go_wp2_with fail
      go_ret
      exact ⟨rfl, HB.out⟩

end Go.Proofs.Ytampofpllijfhaa
