/-
  The law TablesParts walked. Nothing is assumed.
-/
import Derived.Test.YtampofpllijfhaaTbAwake
import Derived.Test.YtampofpllijfhaaTbParts
namespace Go.Proofs.Ytampofpllijfhaa
open Go.RowKit

/-- The cell that the library reads. -/
def Env0 (w : World) : Prop := ∃ m : Int, w.cell? ⟨0, 0, none⟩ = some (.int .i64 m)
theorem Env0.later {w w' : World} (h : Env0 w) (hb : Below w.heap.size w w') : Env0 w' := by
  obtain ⟨m, h⟩ := h
  exact ⟨m, (hb.cell (p := ⟨0, 0, none⟩) (cell_lt h)).trans h⟩
theorem awaken (w : World) (h : Env0 w) : Calls Try.prog 12 #[] w fun e w' => e = .returned (.bool true) ∧ Below w.heap.size w w' := by
  obtain ⟨m, h⟩ := h
  exact awake_any m w h
theorem rowV_len {t : Tab} {i : Int} (h : SmT t) : (rowV t i).length ≤ 1000 := by
  unfold rowV
  split
  · cases ho : idxO i t.length with
    | none => simp
    | some k =>
      have hk := idxO_lt ho
      have := (h.2 _ (List.getElem_mem hk)).1
      simp [hk]
      omega
  · simp
theorem colV_len {t : Tab} {i : Int} (h : SmT t) : (colV t i).length ≤ 1000 := by
  unfold colV
  split
  · cases ho : idxO i (colsT t) with
    | none => simp
    | some k =>
      have := h.1
      simp [colOf]
      omega
  · simp
theorem RetSE.form {w w' : World} {l : Row} {n : Int} {e : Ending} (h : RetSE w w' l n e) : ∃ o c, e = .returned (.tuple #[.slice o l.length c, .int .i64 n]) ∧ HoldsS w' (· < w'.heap.size) (.slice o l.length c) l := by
  obtain ⟨v, rfl, hv⟩ := h
  obtain ⟨o, c, rfl, _, _⟩ := hv.form
  exact ⟨o, c, rfl, hv.all⟩

set_option maxRecDepth 100000 in
set_option maxHeartbeats 3200000 in
theorem lawParts_any (x : Value) (t : List (List ByteArray)) (i k : Int) (w : World) (hx : HoldsT w (· < w.heap.size) x t) (hE : Env0 w) (hi : I64 i) (hk : I64 k) :
    Calls Try.prog 4 #[x, .int .i64 i, .int .i64 k] w fun e w' => e = .returned (.bool true) ∧ Below w.heap.size w w' := by
  have HS := Lib.hid (small_any x t w _ hx (Nat.le_refl _))
  have HX := Lib.hid hx
  obtain ⟨oa, ca, rfl, _, _⟩ := hx.form
  clear hx
  go_enter Try.func4, Try.ntmps4
  go_wp2_with fail
  refine HS.out.mono ?_
  rintro e w1 ⟨⟨z, rfl, hz⟩, hb1⟩
  have HX := Lib.hid (HX.out.on hb1)
  have hE1 := hE.later hb1
  cases z with
  | false =>
    have HA := Lib.hid (awaken w1 hE1)
    have HB1 := Lib.hid hb1
    clear hb1 hz
    go_wp2_with fail
    refine HA.out.mono ?_
    rintro e w2 ⟨rfl, hb2⟩
    go_wp2_with fail
    go_ret
    exact ⟨rfl, HB1.out.trans (hb2.mono HB1.out.size)⟩
  | true =>
    have HZ := Lib.hid (hz rfl)
    have HB := Lib.hid hb1
    have HL1 := Lib.hid (rowV_len (i := i) HZ.out)
    have HL2 := Lib.hid (colV_len (i := k) HZ.out)
    obtain ⟨L1, hL1⟩ : ∃ L1, rowV t i = L1 := ⟨_, rfl⟩
    obtain ⟨L2, hL2⟩ : ∃ L2, colV t k = L2 := ⟨_, rfl⟩
    obtain ⟨E1, hE1'⟩ : ∃ E1, locE (chkT t) i t.length = E1 := ⟨_, rfl⟩
    obtain ⟨E2, hE2'⟩ : ∃ E2, locE (chkT t) k (colsT t) = E2 := ⟨_, rfl⟩
    obtain ⟨p3, hp3⟩ : ∃ p3, cellR t i k = p3 := ⟨_, rfl⟩
    obtain ⟨s3, n3⟩ := p3
    have HC1 := Lib.hid (Row_any _ t i w1 _ HX.out (Nat.le_refl _) hi)
    have HD1 := Lib.hid (fun w B h hB => rRow_any (.slice oa t.length ca) t i w B h hB hi)
    have HC2 := Lib.hid (fun w B h hB => Column_any (.slice oa t.length ca) t k w B h hB hk)
    have HD2 := Lib.hid (fun w B h hB => rColumn_any (.slice oa t.length ca) t k w B h hB hk)
    have HC3 := Lib.hid (fun w P h => Cell_any (.slice oa t.length ca) t i k w P h hi hk)
    have HD3 := Lib.hid (fun w B h hB => rCell_any (.slice oa t.length ca) t i k w B h hB hi hk)
    rw [hL1] at HC1 HD1 HL1
    rw [hE1'] at HC1 HD1
    rw [hL2] at HC2 HD2 HL2
    rw [hE2'] at HC2 HD2
    rw [hp3] at HC3 HD3
    clear hb1 hz hL1 hL2 hE1' hE2' hp3
    have hl1 := HL1.out
    have hl2 := HL2.out
    go_wp2_with fail
    refine HC1.out.mono ?_
    rintro e w2 ⟨hr, hb2⟩
    obtain ⟨o2, c2, rfl, h2⟩ := hr.form
    have HX := Lib.hid (HX.out.on hb2)
    have HB := Lib.hid (HB.out.trans (hb2.mono HB.out.size))
    have hE2 := hE1.later hb2
    have H2 := Lib.hid h2
    clear hr hb2 h2 hE1
    have HQ := Lib.hid (HD1.out w2 _ HX.out (Nat.le_refl _))
    go_wp2_with fail
    refine HQ.out.mono ?_
    rintro e w3 ⟨hr, hb3⟩
    obtain ⟨o3, c3, rfl, h3⟩ := hr.form
    have HX := Lib.hid (HX.out.on hb3)
    have HB := Lib.hid (HB.out.trans (hb3.mono HB.out.size))
    have hE3 := hE2.later hb3
    have H2 := Lib.hid (H2.out.on hb3)
    have H3 := Lib.hid h3
    clear hr hb3 h3 hE2
    have HQ := Lib.hid (HC2.out w3 _ HX.out (Nat.le_refl _))
    go_wp2_with fail
    refine HQ.out.mono ?_
    rintro e w4 ⟨hr, hb4⟩
    obtain ⟨o4, c4, rfl, h4⟩ := hr.form
    have HX := Lib.hid (HX.out.on hb4)
    have HB := Lib.hid (HB.out.trans (hb4.mono HB.out.size))
    have hE4 := hE3.later hb4
    have H2 := Lib.hid (H2.out.on hb4)
    have H3 := Lib.hid (H3.out.on hb4)
    have H4 := Lib.hid h4
    clear hr hb4 h4 hE3
    have HQ := Lib.hid (HD2.out w4 _ HX.out (Nat.le_refl _))
    go_wp2_with fail
    refine HQ.out.mono ?_
    rintro e w5 ⟨hr, hb5⟩
    obtain ⟨o5, c5, rfl, h5⟩ := hr.form
    have HX := Lib.hid (HX.out.on hb5)
    have HB := Lib.hid (HB.out.trans (hb5.mono HB.out.size))
    have hE5 := hE4.later hb5
    have H2 := Lib.hid (H2.out.on hb5)
    have H3 := Lib.hid (H3.out.on hb5)
    have H4 := Lib.hid (H4.out.on hb5)
    have H5 := Lib.hid h5
    clear hr hb5 h5 hE4
    have HQ := Lib.hid (HC3.out w5 _ HX.out)
    go_wp2_with fail
    refine HQ.out.mono ?_
    rintro e w' ⟨rfl, rfl⟩
    have HQ := Lib.hid (HD3.out w5 _ HX.out (Nat.le_refl _))
    go_wp2_with fail
    refine HQ.out.mono ?_
    rintro e w6 ⟨rfl, hb6⟩
    have HB := Lib.hid (HB.out.trans (hb6.mono HB.out.size))
    have hE6 := hE5.later hb6
    have H2 := Lib.hid (H2.out.on hb6)
    have H3 := Lib.hid (H3.out.on hb6)
    have H4 := Lib.hid (H4.out.on hb6)
    have H5 := Lib.hid (H5.out.on hb6)
    clear hb6 hE5
    have HQ := Lib.hid (texts_any _ _ L1 L1 w6 _ H2.out H3.out (Nat.le_refl _) hl1 hl1)
    go_wp2_with fail
    refine HQ.out.mono ?_
    rintro e w7 ⟨rfl, hb7⟩
    have HB := Lib.hid (HB.out.trans (hb7.mono HB.out.size))
    have hE7 := hE6.later hb7
    have HQ := Lib.hid (texts_any _ _ L2 L2 w7 _ (H4.out.on hb7) (H5.out.on hb7) (Nat.le_refl _) hl2 hl2)
    clear hb7 hE6
    go_wp2_with fail
    refine HQ.out.mono ?_
    rintro e w8 ⟨rfl, hb8⟩
    have HB := Lib.hid (HB.out.trans (hb8.mono HB.out.size))
    have HA := Lib.hid (awaken w8 (hE7.later hb8))
    clear hb8 hE7
    go_wp2_with fail
    refine HA.out.mono ?_
    rintro e w9 ⟨rfl, hb9⟩
    go_wp2_with fail
    go_ret
    exact ⟨rfl, HB.out.trans (hb9.mono HB.out.size)⟩

end Go.Proofs.Ytampofpllijfhaa
