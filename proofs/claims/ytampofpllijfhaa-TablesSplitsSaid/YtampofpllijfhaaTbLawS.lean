/-
  The law TablesSplits walked. Nothing is assumed.
-/
import Derived.Test.YtampofpllijfhaaTbLawC
import Derived.Test.YtampofpllijfhaaTbRspl
namespace Go.Proofs.Ytampofpllijfhaa
open Go.RowKit

theorem splV_few {t : Tab} {i : Int} {s : ByteArray} (h : SmT t) : Few (splV t i s) := by
  unfold splV
  split
  · refine ⟨by have := h.1; rw [List.length_map]; omega, fun r hr => ?_⟩
    obtain ⟨q, hq, rfl⟩ := List.mem_map.1 hr
    have := (h.2 q hq).1
    unfold splR
    simp
    omega
  · exact ⟨by simp, fun r hr => by cases hr⟩
set_option maxRecDepth 100000 in
set_option maxHeartbeats 3200000 in
theorem lawSplits_any (x : Value) (t : List (List ByteArray)) (i : Int) (sep : ByteArray) (w : World) (hx : HoldsT w (· < w.heap.size) x t) (hE : Env0 w) (hi : I64 i) (hsep : sep.size ≤ 9223372036854775807) :
    Calls Try.prog 8 #[x, .int .i64 i, .string sep] w fun e w' => e = .returned (.bool true) ∧ Below w.heap.size w w' := by
  have HS := Lib.hid (small_any x t w _ hx (Nat.le_refl _))
  have HX := Lib.hid hx
  obtain ⟨oa, ca, rfl, _, _⟩ := hx.form
  clear hx
  by_cases hby : 100 < (sep.size : Int)
  · go_enter Try.func8, Try.ntmps8
    go_wp2_with fail
    refine HS.out.mono ?_
    rintro e w1 ⟨⟨z, rfl, hz⟩, hb1⟩
    have hE1 := hE.later hb1
    cases z with
    | false =>
      have HA := Lib.hid (awaken w1 hE1)
      have HB1 := Lib.hid (hb1)
      go_wp2_with fail
      refine HA.out.mono ?_
      rintro e w9 ⟨rfl, hb9⟩
      go_wp2_with fail
      go_ret
      exact ⟨rfl, HB1.out.trans (hb9.mono HB1.out.size)⟩
    | true =>
      have HA := Lib.hid (awaken w1 hE1)
      have HB1 := Lib.hid (hb1)
      go_wp2_with fail
      refine HA.out.mono ?_
      rintro e w9 ⟨rfl, hb9⟩
      go_wp2_with fail
      go_ret
      exact ⟨rfl, HB1.out.trans (hb9.mono HB1.out.size)⟩
  · go_enter Try.func8, Try.ntmps8
    go_wp2_with fail
    refine HS.out.mono ?_
    rintro e w1 ⟨⟨z, rfl, hz⟩, hb1⟩
    have HX := Lib.hid (HX.out.on hb1)
    have hE1 := hE.later hb1
    cases z with
    | false =>
      have HA := Lib.hid (awaken w1 hE1)
      have HB1 := Lib.hid (hb1)
      go_wp2_with fail
      refine HA.out.mono ?_
      rintro e w9 ⟨rfl, hb9⟩
      go_wp2_with fail
      go_ret
      exact ⟨rfl, HB1.out.trans (hb9.mono HB1.out.size)⟩
    | true =>
      have HZ := Lib.hid (hz rfl)
      have HB := Lib.hid hb1
      clear hb1 hz
      have hsep9 : sep.size ≤ 1000 := by omega
      have HC1 : Hid (∀ w B, HoldsT w (· < B) (.slice oa t.length ca) t → B ≤ w.heap.size → Env0 w → Calls Try.prog 41 #[.slice oa t.length ca, .int .i64 i, .string sep] w fun e w' => RetTE w w' (splV t i sep) (splE t i sep) e ∧ Below w.heap.size w w') := Lib.hid (fun w B h hB hE => by
        obtain ⟨m, hm⟩ := hE
        exact Split_any (.slice oa t.length ca) t i sep m w B h hB hi hm)
      have HD1 := Lib.hid (fun w B h hB => rSplit_any (.slice oa t.length ca) t i sep w B h hB hi hsep9)
      have HL1 := Lib.hid (splV_few (i := i) (s := sep) HZ.out)
      obtain ⟨T1, hT1⟩ : ∃ T1, splV t i sep = T1 := ⟨_, rfl⟩
      obtain ⟨E1, hE1'⟩ : ∃ E, splE t i sep = E := ⟨_, rfl⟩
      rw [hT1] at HC1 HD1 HL1
      rw [hE1'] at HC1 HD1
      clear hT1 hE1' hsep9
      have HQ := Lib.hid (HC1.out w1 _ HX.out (Nat.le_refl _) hE1)
      go_wp2_with fail
      refine HQ.out.mono ?_
      rintro e w2 ⟨⟨v2, rfl, h2⟩, hb2⟩
      obtain ⟨o2, c2, rfl, _, _⟩ := h2.form
      have HX := Lib.hid (HX.out.on hb2)
      have HB := Lib.hid (HB.out.trans (hb2.mono HB.out.size))
      have hE2 := hE1.later hb2
      have H1 := Lib.hid h2.all
      clear hb2 h2
      have HQ := Lib.hid (HD1.out w2 _ HX.out (Nat.le_refl _))
      go_wp2_with fail
      refine HQ.out.mono ?_
      rintro e w3 ⟨⟨v3, rfl, h3⟩, hb3⟩
      obtain ⟨o3, c3, rfl, _, _⟩ := h3.form
      have HX := Lib.hid (HX.out.on hb3)
      have H1 := Lib.hid (H1.out.on hb3)
      have HB := Lib.hid (HB.out.trans (hb3.mono HB.out.size))
      have hE3 := hE2.later hb3
      have H2 := Lib.hid h3.all
      clear hb3 h3
      have HQ := Lib.hid (same_eq _ _ T1 w3 _ H1.out H2.out (Nat.le_refl _) HL1.out.1 HL1.out.2)
      go_wp2_with fail
      refine HQ.out.mono ?_
      rintro e w4 ⟨rfl, hb4⟩
      have H1 := Lib.hid (H1.out.on hb4)
      have H2 := Lib.hid (H2.out.on hb4)
      have HB := Lib.hid (HB.out.trans (hb4.mono HB.out.size))
      have hE4 := hE3.later hb4
      clear hb4
      have HQ := Lib.hid (awaken w4 hE4)
      go_wp2_with fail
      refine HQ.out.mono ?_
      rintro e w5 ⟨rfl, hb5⟩
      have HB := Lib.hid (HB.out.trans (hb5.mono HB.out.size))
      have hE5 := hE4.later hb5
      clear hb5
      go_wp2_with fail
      go_ret
      exact ⟨rfl, HB.out⟩

end Go.Proofs.Ytampofpllijfhaa
