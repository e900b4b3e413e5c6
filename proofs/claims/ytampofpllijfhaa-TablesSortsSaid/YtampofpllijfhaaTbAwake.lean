/-
  The examples of the law. Nothing is assumed.
-/
import Derived.Test.YtampofpllijfhaaTbPivot
import Derived.Test.YtampofpllijfhaaTbSplit
import Derived.Test.YtampofpllijfhaaTbUnp
import Derived.Test.YtampofpllijfhaaTbRef1
namespace Go.Proofs.Ytampofpllijfhaa
open Go.RowKit

theorem part_solo (w : World) (B : Nat) (x : Value) (r : Row) (h : HoldsS w (· < B) x r) (hB : B ≤ w.heap.size) :
    HoldsT (w.alloc (.cells #[x] 29)) (· < w.heap.size + 1) (.slice (some ⟨w.heap.size, 0, none⟩) 1 1) [r] := by
  have hb1 := below1 w (.cells #[x] 29)
  refine ⟨_, 1, rfl, Nat.le_refl _, by omega, fun i z hi => ?_⟩
  match i, hi with
  | 0, hi =>
    simp at hi
    subst hi
    exact ⟨_, 0, x, rfl, by omega, by simp, (h.later (hb1.mono hB)).mono (by omega)⟩
  | i + 1, hi => simp at hi
theorem lrow3 (w : World) (a0 a1 a2 : ByteArray) :
    HoldsS (w.alloc (.cells #[.string a0, .string a1, .string a2] 9)) (· < w.heap.size + 1) (.slice (some ⟨w.heap.size, 0, none⟩) 3 3) [a0, a1, a2] := by
  refine ⟨_, 3, rfl, Nat.le_refl _, by omega, fun j z hz => ?_⟩
  match j, hz with
  | 0, hz => simp at hz; subst hz; exact ⟨_, 0, rfl, by omega, by simp⟩
  | 1, hz => simp at hz; subst hz; exact ⟨_, 0, rfl, by omega, by simp⟩
  | 2, hz => simp at hz; subst hz; exact ⟨_, 0, rfl, by omega, by simp⟩
  | j + 3, hz => simp at hz
theorem lrow2 (w : World) (a0 a1 : ByteArray) :
    HoldsS (w.alloc (.cells #[.string a0, .string a1] 9)) (· < w.heap.size + 1) (.slice (some ⟨w.heap.size, 0, none⟩) 2 2) [a0, a1] := by
  refine ⟨_, 2, rfl, Nat.le_refl _, by omega, fun j z hz => ?_⟩
  match j, hz with
  | 0, hz => simp at hz; subst hz; exact ⟨_, 0, rfl, by omega, by simp⟩
  | 1, hz => simp at hz; subst hz; exact ⟨_, 0, rfl, by omega, by simp⟩
  | j + 2, hz => simp at hz
theorem lrow1 (w : World) (a0 : ByteArray) :
    HoldsS (w.alloc (.cells #[.string a0] 9)) (· < w.heap.size + 1) (.slice (some ⟨w.heap.size, 0, none⟩) 1 1) [a0] := by
  refine ⟨_, 1, rfl, Nat.le_refl _, by omega, fun j z hz => ?_⟩
  match j, hz with
  | 0, hz => simp at hz; subst hz; exact ⟨_, 0, rfl, by omega, by simp⟩
  | j + 1, hz => simp at hz
theorem ltab22 (w : World) (a b c d : ByteArray) :
    HoldsT (((w.alloc (.cells #[.string a, .string b] 9)).alloc (.cells #[.string c, .string d] 9)).alloc (.cells #[.slice (some ⟨w.heap.size, 0, none⟩) 2 2, .slice (some ⟨w.heap.size + 1, 0, none⟩) 2 2] 29)) (· < w.heap.size + 3) (.slice (some ⟨w.heap.size + 1 + 1, 0, none⟩) 2 2) [[a, b], [c, d]] ∧ Below w.heap.size w (((w.alloc (.cells #[.string a, .string b] 9)).alloc (.cells #[.string c, .string d] 9)).alloc (.cells #[.slice (some ⟨w.heap.size, 0, none⟩) 2 2, .slice (some ⟨w.heap.size + 1, 0, none⟩) 2 2] 29)) ∧ (((w.alloc (.cells #[.string a, .string b] 9)).alloc (.cells #[.string c, .string d] 9)).alloc (.cells #[.slice (some ⟨w.heap.size, 0, none⟩) 2 2, .slice (some ⟨w.heap.size + 1, 0, none⟩) 2 2] 29)).heap.size = w.heap.size + 3 := by
  have h1 := (lrow2 w a b).later ((below1 (w.alloc (.cells #[.string a, .string b] 9)) (.cells #[.string c, .string d] 9)).mono (by simp))
  have h2 := lrow2 (w.alloc (.cells #[.string a, .string b] 9)) c d
  have h3 := part_pair ((w.alloc (.cells #[.string a, .string b] 9)).alloc (.cells #[.string c, .string d] 9)) (w.heap.size + 2) _ _ _ _ (h1.mono (by omega)) (h2.mono (by simp)) (by simp)
  simp only [World.size_alloc] at h3
  exact ⟨h3.mono (by omega), ((below1 w _).alloc (by simp) _).alloc (by simp; omega) _, by simp⟩
theorem ltab23 (w : World) (a b c d e f : ByteArray) :
    HoldsT (((w.alloc (.cells #[.string a, .string b, .string c] 9)).alloc (.cells #[.string d, .string e, .string f] 9)).alloc (.cells #[.slice (some ⟨w.heap.size, 0, none⟩) 3 3, .slice (some ⟨w.heap.size + 1, 0, none⟩) 3 3] 29)) (· < w.heap.size + 3) (.slice (some ⟨w.heap.size + 1 + 1, 0, none⟩) 2 2) [[a, b, c], [d, e, f]] ∧ Below w.heap.size w (((w.alloc (.cells #[.string a, .string b, .string c] 9)).alloc (.cells #[.string d, .string e, .string f] 9)).alloc (.cells #[.slice (some ⟨w.heap.size, 0, none⟩) 3 3, .slice (some ⟨w.heap.size + 1, 0, none⟩) 3 3] 29)) ∧ (((w.alloc (.cells #[.string a, .string b, .string c] 9)).alloc (.cells #[.string d, .string e, .string f] 9)).alloc (.cells #[.slice (some ⟨w.heap.size, 0, none⟩) 3 3, .slice (some ⟨w.heap.size + 1, 0, none⟩) 3 3] 29)).heap.size = w.heap.size + 3 := by
  have h1 := (lrow3 w a b c).later ((below1 (w.alloc (.cells #[.string a, .string b, .string c] 9)) (.cells #[.string d, .string e, .string f] 9)).mono (by simp))
  have h2 := lrow3 (w.alloc (.cells #[.string a, .string b, .string c] 9)) d e f
  have h3 := part_pair ((w.alloc (.cells #[.string a, .string b, .string c] 9)).alloc (.cells #[.string d, .string e, .string f] 9)) (w.heap.size + 2) _ _ _ _ (h1.mono (by omega)) (h2.mono (by simp)) (by simp)
  simp only [World.size_alloc] at h3
  exact ⟨h3.mono (by omega), ((below1 w _).alloc (by simp) _).alloc (by simp; omega) _, by simp⟩
theorem ltab11 (w : World) (a : ByteArray) :
    HoldsT ((w.alloc (.cells #[.string a] 9)).alloc (.cells #[.slice (some ⟨w.heap.size, 0, none⟩) 1 1] 29)) (· < w.heap.size + 2) (.slice (some ⟨w.heap.size + 1, 0, none⟩) 1 1) [[a]] ∧ Below w.heap.size w ((w.alloc (.cells #[.string a] 9)).alloc (.cells #[.slice (some ⟨w.heap.size, 0, none⟩) 1 1] 29)) ∧ ((w.alloc (.cells #[.string a] 9)).alloc (.cells #[.slice (some ⟨w.heap.size, 0, none⟩) 1 1] 29)).heap.size = w.heap.size + 2 := by
  have h1 := lrow1 w a
  have h3 := part_solo (w.alloc (.cells #[.string a] 9)) (w.heap.size + 1) _ _ h1 (by simp)
  simp only [World.size_alloc] at h3
  exact ⟨h3.mono (by omega), (below1 w _).alloc (by simp) _, by simp⟩
theorem ltab12 (w : World) (a b : ByteArray) :
    HoldsT ((w.alloc (.cells #[.string a, .string b] 9)).alloc (.cells #[.slice (some ⟨w.heap.size, 0, none⟩) 2 2] 29)) (· < w.heap.size + 2) (.slice (some ⟨w.heap.size + 1, 0, none⟩) 1 1) [[a, b]] ∧ Below w.heap.size w ((w.alloc (.cells #[.string a, .string b] 9)).alloc (.cells #[.slice (some ⟨w.heap.size, 0, none⟩) 2 2] 29)) ∧ ((w.alloc (.cells #[.string a, .string b] 9)).alloc (.cells #[.slice (some ⟨w.heap.size, 0, none⟩) 2 2] 29)).heap.size = w.heap.size + 2 := by
  have h1 := lrow2 w a b
  have h3 := part_solo (w.alloc (.cells #[.string a, .string b] 9)) (w.heap.size + 1) _ _ h1 (by simp)
  simp only [World.size_alloc] at h3
  exact ⟨h3.mono (by omega), (below1 w _).alloc (by simp) _, by simp⟩

abbrev exT : Tab := [[(⟨#[97]⟩ : ByteArray), (⟨#[98]⟩ : ByteArray)], [(⟨#[99]⟩ : ByteArray), (⟨#[100]⟩ : ByteArray)]]
abbrev exU : Tab := [[(⟨#[]⟩ : ByteArray), (⟨#[120]⟩ : ByteArray), (⟨#[121]⟩ : ByteArray)], [(⟨#[107]⟩ : ByteArray), (⟨#[49]⟩ : ByteArray), (⟨#[50]⟩ : ByteArray)]]
abbrev exV : Tab := [[(⟨#[107]⟩ : ByteArray), (⟨#[120]⟩ : ByteArray), (⟨#[49]⟩ : ByteArray)], [(⟨#[107]⟩ : ByteArray), (⟨#[121]⟩ : ByteArray), (⟨#[50]⟩ : ByteArray)]]
abbrev exS : Tab := [[(⟨#[97, 45, 98, 45, 99]⟩ : ByteArray)]]
theorem ex_row : rowV exT (-1) = [(⟨#[99]⟩ : ByteArray), (⟨#[100]⟩ : ByteArray)] ∧ locE (chkT exT) (-1) exT.length = 0 := by decide +kernel
theorem ex_col : colV exT 0 = [(⟨#[97]⟩ : ByteArray), (⟨#[99]⟩ : ByteArray)] ∧ locE (chkT exT) 0 (colsT exT) = 0 := by decide +kernel
theorem ex_unp : unpV exU 1 = exV ∧ unpE exU 1 = 0 := by decide +kernel
theorem ex_piv : pivV exV = exU ∧ pivE exV = 0 := by decide +kernel
theorem ex_spl : splV exS 0 ⟨#[45]⟩ = [[(⟨#[97]⟩ : ByteArray), (⟨#[98, 45, 99]⟩ : ByteArray)]] ∧ splE exS 0 ⟨#[45]⟩ = 0 := by decide +kernel
theorem ex_chk : chkT exT = 0 := by decide +kernel
theorem ex_tra : transT exT = [[(⟨#[97]⟩ : ByteArray), (⟨#[99]⟩ : ByteArray)], [(⟨#[98]⟩ : ByteArray), (⟨#[100]⟩ : ByteArray)]] := by decide +kernel

set_option maxRecDepth 100000 in
set_option maxHeartbeats 3200000 in
theorem awake_any (m : Int) (w : World) (h0 : w.cell? ⟨0, 0, none⟩ = some (.int .i64 m)) :
    Calls Try.prog 12 #[] w fun e w' => e = .returned (.bool true) ∧ Below w.heap.size w w' := by
  obtain ⟨hT, hbT, hsT⟩ := ltab22 w ⟨#[97]⟩ ⟨#[98]⟩ ⟨#[99]⟩ ⟨#[100]⟩
  have hU0 := ltab23 (((w.alloc (.cells #[.string ⟨#[97]⟩, .string ⟨#[98]⟩] 9)).alloc (.cells #[.string ⟨#[99]⟩, .string ⟨#[100]⟩] 9)).alloc (.cells #[.slice (some ⟨w.heap.size, 0, none⟩) 2 2, .slice (some ⟨w.heap.size + 1, 0, none⟩) 2 2] 29)) ⟨#[]⟩ ⟨#[120]⟩ ⟨#[121]⟩ ⟨#[107]⟩ ⟨#[49]⟩ ⟨#[50]⟩
  simp only [World.size_alloc] at hU0
  obtain ⟨hU, hbU, hsU⟩ := hU0
  have hB0 := hbT.trans (hbU.mono (by omega))
  have HT := Lib.hid ((hT.mono (by simp only [World.size_alloc]; omega)).on (hbU.mono (by simp)))
  have HU := Lib.hid (hU.mono (C := ((((((w.alloc (.cells #[.string ⟨#[97]⟩, .string ⟨#[98]⟩] 9)).alloc (.cells #[.string ⟨#[99]⟩, .string ⟨#[100]⟩] 9)).alloc (.cells #[.slice (some ⟨w.heap.size, 0, none⟩) 2 2, .slice (some ⟨w.heap.size + 1, 0, none⟩) 2 2] 29)).alloc (.cells #[.string ⟨#[]⟩, .string ⟨#[120]⟩, .string ⟨#[121]⟩] 9)).alloc (.cells #[.string ⟨#[107]⟩, .string ⟨#[49]⟩, .string ⟨#[50]⟩] 9)).alloc (.cells #[.slice (some ⟨w.heap.size + 1 + 1 + 1, 0, none⟩) 3 3, .slice (some ⟨w.heap.size + 1 + 1 + 1 + 1, 0, none⟩) 3 3] 29)).heap.size) (by simp only [World.size_alloc]; omega))
  have HR := Lib.hid (Row_any _ exT (-1) _ _ HT.out (Nat.le_refl _) (by unfold I64; omega))
  rw [ex_row.1, ex_row.2] at HR
  have HB := Lib.hid hB0
  have H0 := Lib.hid h0
  have hw0 := cell_lt h0
  clear hT hU hbT hbU hsT hsU hB0 h0
  go_enter Try.func12, Try.ntmps12
  go_wp2_with fail
  refine HR.out.mono ?_
  rintro e w1 ⟨⟨v1, rfl, h1⟩, hb1⟩
  obtain ⟨o1, c1, hv1, _, _⟩ := h1.form
  have hv1 : v1 = .slice o1 2 c1 := hv1
  subst hv1
  have HT := Lib.hid (HT.out.on hb1)
  have HU := Lib.hid (HU.out.on hb1)
  have HB := Lib.hid (HB.out.trans (hb1.mono HB.out.size))
  have HRr := Lib.hid h1.all
  clear hb1 h1
  have HQ1 := Lib.hid (Column_any _ exT 0 _ _ HT.out (Nat.le_refl _) (by unfold I64; omega))
  rw [ex_col.1, ex_col.2] at HQ1
  go_wp2_with fail
  refine HQ1.out.mono ?_
  rintro e w2 ⟨⟨v2, rfl, h2⟩, hb2⟩
  obtain ⟨o2, c2, hv2, _, _⟩ := h2.form
  have hv2 : v2 = .slice o2 2 c2 := hv2
  subst hv2
  have HT := Lib.hid (HT.out.on hb2)
  have HU := Lib.hid (HU.out.on hb2)
  have HRr := Lib.hid (HRr.out.on hb2)
  have HB := Lib.hid (HB.out.trans (hb2.mono HB.out.size))
  have HCc := Lib.hid h2.all
  clear hb2 h2
  have HQ2 := Lib.hid (Unpivot_any _ exU 1 _ _ HU.out (Nat.le_refl _) (by unfold I64; omega))
  rw [ex_unp.1, ex_unp.2] at HQ2
  go_wp2_with fail
  refine HQ2.out.mono ?_
  rintro e w3 ⟨⟨v3, rfl, h3⟩, hb3⟩
  obtain ⟨o3, c3, hv3, _, _⟩ := h3.form
  have hv3 : v3 = .slice o3 2 c3 := hv3
  subst hv3
  have HT := Lib.hid (HT.out.on hb3)
  have HU := Lib.hid (HU.out.on hb3)
  have HRr := Lib.hid (HRr.out.on hb3)
  have HCc := Lib.hid (HCc.out.on hb3)
  have HB := Lib.hid (HB.out.trans (hb3.mono HB.out.size))
  have HVv := Lib.hid h3.all
  clear hb3 h3
  have HQ3 := Lib.hid (Pivot_any _ exV _ _ HVv.out (Nat.le_refl _))
  rw [ex_piv.1, ex_piv.2] at HQ3
  go_wp2_with fail
  refine HQ3.out.mono ?_
  rintro e w4 ⟨⟨v4, rfl, h4⟩, hb4⟩
  obtain ⟨o4, c4, hv4, _, _⟩ := h4.form
  have hv4 : v4 = .slice o4 2 c4 := hv4
  subst hv4
  have HT := Lib.hid (HT.out.on hb4)
  have HU := Lib.hid (HU.out.on hb4)
  have HRr := Lib.hid (HRr.out.on hb4)
  have HCc := Lib.hid (HCc.out.on hb4)
  have HVv := Lib.hid (HVv.out.on hb4)
  have HB := Lib.hid (HB.out.trans (hb4.mono HB.out.size))
  have HPp := Lib.hid h4.all
  clear hb4 h4
  obtain ⟨hl, hbl, hsl⟩ := ltab11 w4 ⟨#[97, 45, 98, 45, 99]⟩
  have HT := Lib.hid (HT.out.on hbl)
  have HU := Lib.hid (HU.out.on hbl)
  have HRr := Lib.hid (HRr.out.on hbl)
  have HCc := Lib.hid (HCc.out.on hbl)
  have HVv := Lib.hid (HVv.out.on hbl)
  have HPp := Lib.hid (HPp.out.on hbl)
  have HB := Lib.hid (HB.out.trans (hbl.mono HB.out.size))
  have HSs0 := Lib.hid (hl.all)
  clear hl hbl hsl
  have HQ4 := Lib.hid (Split_any _ exS 0 ⟨#[45]⟩ m _ _ HSs0.out (Nat.le_refl _) (by unfold I64; omega) ((HB.out.cell (p := ⟨0, 0, none⟩) hw0).trans H0.out))
  rw [ex_spl.1, ex_spl.2] at HQ4
  go_wp2_with fail
  refine HQ4.out.mono ?_
  rintro e w5 ⟨⟨v5, rfl, h5⟩, hb5⟩
  obtain ⟨o5, c5, hv5, _, _⟩ := h5.form
  have hv5 : v5 = .slice o5 1 c5 := hv5
  subst hv5
  have HT := Lib.hid (HT.out.on hb5)
  have HU := Lib.hid (HU.out.on hb5)
  have HRr := Lib.hid (HRr.out.on hb5)
  have HCc := Lib.hid (HCc.out.on hb5)
  have HVv := Lib.hid (HVv.out.on hb5)
  have HPp := Lib.hid (HPp.out.on hb5)
  have HB := Lib.hid (HB.out.trans (hb5.mono HB.out.size))
  have HSs := Lib.hid h5.all
  clear hb5 h5
  have HQ5 := Lib.hid (chk_any _ exT _ _ HT.out)
  rw [ex_chk] at HQ5
  go_wp2_with fail
  refine HQ5.out.mono ?_
  rintro e w' ⟨rfl, rfl⟩
  have HQ6 := Lib.hid (Transpose_any _ exT _ _ HT.out (Nat.le_refl _))
  rw [ex_tra] at HQ6
  go_wp2_with fail
  refine HQ6.out.mono ?_
  rintro e w6 ⟨⟨v6, rfl, h6⟩, hb6⟩
  obtain ⟨o6, c6, hv6, _, _⟩ := h6.form
  have hv6 : v6 = .slice o6 2 c6 := hv6
  subst hv6
  have HT := Lib.hid (HT.out.on hb6)
  have HU := Lib.hid (HU.out.on hb6)
  have HRr := Lib.hid (HRr.out.on hb6)
  have HCc := Lib.hid (HCc.out.on hb6)
  have HVv := Lib.hid (HVv.out.on hb6)
  have HPp := Lib.hid (HPp.out.on hb6)
  have HSs := Lib.hid (HSs.out.on hb6)
  have HB := Lib.hid (HB.out.trans (hb6.mono HB.out.size))
  have HXx := Lib.hid h6.all
  clear hb6 h6
  obtain ⟨hl, hbl, hsl⟩ := ltab22 w6 ⟨#[97]⟩ ⟨#[99]⟩ ⟨#[98]⟩ ⟨#[100]⟩
  have HU := Lib.hid (HU.out.on hbl)
  have HRr := Lib.hid (HRr.out.on hbl)
  have HCc := Lib.hid (HCc.out.on hbl)
  have HVv := Lib.hid (HVv.out.on hbl)
  have HPp := Lib.hid (HPp.out.on hbl)
  have HSs := Lib.hid (HSs.out.on hbl)
  have HXx := Lib.hid (HXx.out.on hbl)
  have HB := Lib.hid (HB.out.trans (hbl.mono HB.out.size))
  have HL1 := Lib.hid (hl.all)
  clear hl hbl hsl
  have HQ7 := Lib.hid (same_eq _ _ [[(⟨#[97]⟩ : ByteArray), (⟨#[99]⟩ : ByteArray)], [(⟨#[98]⟩ : ByteArray), (⟨#[100]⟩ : ByteArray)]] _ _ HXx.out HL1.out (Nat.le_refl _) (by decide) (by decide))
  go_wp2_with fail
  refine HQ7.out.mono ?_
  rintro e w7 ⟨rfl, hb7⟩
  have HU := Lib.hid (HU.out.on hb7)
  have HRr := Lib.hid (HRr.out.on hb7)
  have HCc := Lib.hid (HCc.out.on hb7)
  have HVv := Lib.hid (HVv.out.on hb7)
  have HPp := Lib.hid (HPp.out.on hb7)
  have HSs := Lib.hid (HSs.out.on hb7)
  have HXx := Lib.hid (HXx.out.on hb7)
  have HL1 := Lib.hid (HL1.out.on hb7)
  have HB := Lib.hid (HB.out.trans (hb7.mono HB.out.size))
  clear hb7
  have hl := lrow2 w7 ⟨#[99]⟩ ⟨#[100]⟩
  have hbl := below1 w7 (.cells #[.string ⟨#[99]⟩, .string ⟨#[100]⟩] 9)
  have HU := Lib.hid (HU.out.on hbl)
  have HRr := Lib.hid (HRr.out.on hbl)
  have HCc := Lib.hid (HCc.out.on hbl)
  have HVv := Lib.hid (HVv.out.on hbl)
  have HPp := Lib.hid (HPp.out.on hbl)
  have HSs := Lib.hid (HSs.out.on hbl)
  have HB := Lib.hid (HB.out.trans (hbl.mono HB.out.size))
  have HL2 := Lib.hid (hl.all)
  clear hl hbl
  have HQ8 := Lib.hid (texts_any _ _ [(⟨#[99]⟩ : ByteArray), (⟨#[100]⟩ : ByteArray)] [(⟨#[99]⟩ : ByteArray), (⟨#[100]⟩ : ByteArray)] _ _ HRr.out HL2.out (Nat.le_refl _) (by decide) (by decide))
  go_wp2_with fail
  refine HQ8.out.mono ?_
  rintro e w8 ⟨rfl, hb8⟩
  have HU := Lib.hid (HU.out.on hb8)
  have HRr := Lib.hid (HRr.out.on hb8)
  have HCc := Lib.hid (HCc.out.on hb8)
  have HVv := Lib.hid (HVv.out.on hb8)
  have HPp := Lib.hid (HPp.out.on hb8)
  have HSs := Lib.hid (HSs.out.on hb8)
  have HL2 := Lib.hid (HL2.out.on hb8)
  have HB := Lib.hid (HB.out.trans (hb8.mono HB.out.size))
  clear hb8
  have hl := lrow2 w8 ⟨#[97]⟩ ⟨#[99]⟩
  have hbl := below1 w8 (.cells #[.string ⟨#[97]⟩, .string ⟨#[99]⟩] 9)
  have HU := Lib.hid (HU.out.on hbl)
  have HCc := Lib.hid (HCc.out.on hbl)
  have HVv := Lib.hid (HVv.out.on hbl)
  have HPp := Lib.hid (HPp.out.on hbl)
  have HSs := Lib.hid (HSs.out.on hbl)
  have HB := Lib.hid (HB.out.trans (hbl.mono HB.out.size))
  have HL3 := Lib.hid (hl.all)
  clear hl hbl
  have HQ9 := Lib.hid (texts_any _ _ [(⟨#[97]⟩ : ByteArray), (⟨#[99]⟩ : ByteArray)] [(⟨#[97]⟩ : ByteArray), (⟨#[99]⟩ : ByteArray)] _ _ HCc.out HL3.out (Nat.le_refl _) (by decide) (by decide))
  go_wp2_with fail
  refine HQ9.out.mono ?_
  rintro e w9 ⟨rfl, hb9⟩
  have HU := Lib.hid (HU.out.on hb9)
  have HCc := Lib.hid (HCc.out.on hb9)
  have HVv := Lib.hid (HVv.out.on hb9)
  have HPp := Lib.hid (HPp.out.on hb9)
  have HSs := Lib.hid (HSs.out.on hb9)
  have HL3 := Lib.hid (HL3.out.on hb9)
  have HB := Lib.hid (HB.out.trans (hb9.mono HB.out.size))
  clear hb9
  obtain ⟨hl, hbl, hsl⟩ := ltab23 w9 ⟨#[107]⟩ ⟨#[120]⟩ ⟨#[49]⟩ ⟨#[107]⟩ ⟨#[121]⟩ ⟨#[50]⟩
  have HU := Lib.hid (HU.out.on hbl)
  have HVv := Lib.hid (HVv.out.on hbl)
  have HPp := Lib.hid (HPp.out.on hbl)
  have HSs := Lib.hid (HSs.out.on hbl)
  have HB := Lib.hid (HB.out.trans (hbl.mono HB.out.size))
  have HL4 := Lib.hid (hl.all)
  clear hl hbl hsl
  have HQA := Lib.hid (same_eq _ _ exV _ _ HVv.out HL4.out (Nat.le_refl _) (by decide) (by decide))
  go_wp2_with fail
  refine HQA.out.mono ?_
  rintro e w10 ⟨rfl, hb10⟩
  have HU := Lib.hid (HU.out.on hb10)
  have HVv := Lib.hid (HVv.out.on hb10)
  have HPp := Lib.hid (HPp.out.on hb10)
  have HSs := Lib.hid (HSs.out.on hb10)
  have HL4 := Lib.hid (HL4.out.on hb10)
  have HB := Lib.hid (HB.out.trans (hb10.mono HB.out.size))
  clear hb10
  have HQB := Lib.hid (same_eq _ _ exU _ _ HPp.out HU.out (Nat.le_refl _) (by decide) (by decide))
  go_wp2_with fail
  refine HQB.out.mono ?_
  rintro e w11 ⟨rfl, hb11⟩
  have HU := Lib.hid (HU.out.on hb11)
  have HPp := Lib.hid (HPp.out.on hb11)
  have HSs := Lib.hid (HSs.out.on hb11)
  have HB := Lib.hid (HB.out.trans (hb11.mono HB.out.size))
  clear hb11
  obtain ⟨hl, hbl, hsl⟩ := ltab12 w11 ⟨#[97]⟩ ⟨#[98, 45, 99]⟩
  have HSs := Lib.hid (HSs.out.on hbl)
  have HB := Lib.hid (HB.out.trans (hbl.mono HB.out.size))
  have HL5 := Lib.hid (hl.all)
  clear hl hbl hsl
  have HQC := Lib.hid (same_eq _ _ [[(⟨#[97]⟩ : ByteArray), (⟨#[98, 45, 99]⟩ : ByteArray)]] _ _ HSs.out HL5.out (Nat.le_refl _) (by decide) (by decide))
  go_wp2_with fail
  refine HQC.out.mono ?_
  rintro e w12 ⟨rfl, hb12⟩
  have HSs := Lib.hid (HSs.out.on hb12)
  have HL5 := Lib.hid (HL5.out.on hb12)
  have HB := Lib.hid (HB.out.trans (hb12.mono HB.out.size))
  clear hb12
  go_wp2_with fail
  go_ret
  exact ⟨rfl, HB.out⟩

end Go.Proofs.Ytampofpllijfhaa
