/-
  DropColumn, Split of the package. Nothing is assumed.
-/
import Derived.Test.YtampofpllijfhaaTbEach
namespace Go.Proofs.Ytampofpllijfhaa
open Go.RowKit

def drcE (t : Tab) (i : Int) : Int := if locE (chkT t) i (colsT t) ≠ 0 then locE (chkT t) i (colsT t) else if colsT t = 1 then 2 else 0
def drcV (t : Tab) (i : Int) : Tab := if drcE t i = 0 then t.map (drpR ((idxO i (colsT t)).getD 0)) else []
def splE (t : Tab) (i : Int) (by_ : ByteArray) : Int := if locE (chkT t) i (colsT t) ≠ 0 then locE (chkT t) i (colsT t) else if by_.data.toList = [] then 4 else if colsT t = 8 then 2 else 0
def splV (t : Tab) (i : Int) (by_ : ByteArray) : Tab := if splE t i by_ = 0 then t.map (splR ((idxO i (colsT t)).getD 0) by_) else []
theorem loc_bad {t : Tab} {i : Int} (h : ¬ (chkT t = 0 ∧ (idxO i (colsT t)).isSome = true)) : locV (chkT t) i (colsT t) = 0 ∧ locE (chkT t) i (colsT t) ≠ 0 := by
  unfold locV locE
  by_cases hc : chkT t = 0
  · rw [if_pos hc, if_pos hc]
    cases ho : idxO i (colsT t) with
    | none => rw [(idx_none ho).1, (idx_none ho).2]; exact ⟨rfl, by decide⟩
    | some k => exact absurd ⟨hc, by rw [ho]; rfl⟩ h
  · rw [if_neg hc, if_neg hc]
    exact ⟨rfl, hc⟩
theorem loc_good {t : Tab} {i : Int} {k : Nat} (h : chkT t = 0) (hk : idxO i (colsT t) = some k) : locV (chkT t) i (colsT t) = k ∧ locE (chkT t) i (colsT t) = 0 := by
  unfold locV locE
  rw [if_pos h, if_pos h, (idx_some hk).1, (idx_some hk).2]
  exact ⟨rfl, rfl⟩

set_option maxRecDepth 100000 in
set_option maxHeartbeats 1600000 in
theorem DropColumn_any (x : Value) (t : List (List ByteArray)) (i : Int) (w : World) (B : Nat) (hx : HoldsT w (· < B) x t) (hB : B ≤ w.heap.size) (hi : I64 i) :
    Calls Try.prog 29 #[x, .int .i64 i] w fun e w' => RetTE w w' (drcV t i) (drcE t i) e ∧ Below w.heap.size w w' := by
  have hb0 := below1 w (.cells #[.int .i64 i] 3)
  have hx0 := hx.later (hb0.mono hB)
  have HC := Lib.hid (columnIndex_any x t i _ (· < B) hx0 hi)
  have HX := Lib.hid hx
  obtain ⟨oa, ca, rfl, _, _⟩ := hx.form
  clear hx hx0
  by_cases hg : chkT t = 0 ∧ (idxO i (colsT t)).isSome = true
  · obtain ⟨hc, hk⟩ := hg
    obtain ⟨k, hk⟩ := Option.isSome_iff_exists.1 hk
    have hkl := idxO_lt hk
    have h8 := (chkT_rows hc).1
    have HV := Lib.hid (chkT_rows hc).2
    obtain ⟨g1, g2⟩ := loc_good hc hk
    rw [g1, g2] at HC
    have HE : Hid (drcE t i = if colsT t = 1 then 2 else 0) := Lib.hid (if_neg (by simp [g2]))
    have HVV : Hid (drcE t i = 0 → drcV t i = t.map (drpR k)) := Lib.hid (fun h => by unfold drcV; rw [if_pos h, hk]; rfl)
    have HVN : Hid (drcE t i ≠ 0 → drcV t i = []) := Lib.hid (fun h => if_neg h)
    obtain ⟨n, hn⟩ : ∃ n, colsT t = n := ⟨_, rfl⟩
    have HK := Lib.hid (fun w1 h => cols_any (.slice oa t.length ca) t w1 (· < B) h)
    rw [hn] at hkl HE HV HK
    clear hc hk g1 g2 hn
    by_cases h1 : (n : Int) = 1
    · have HEE : Hid (drcE t i = 2 ∧ drcV t i = []) := by
        have h : drcE t i = 2 := by rw [HE.out, if_pos (by omega)]
        exact Lib.hid ⟨h, HVN.out (by rw [h]; decide)⟩
      have hb1 : ((n : Int) == 1) = true := by rw [h1]; rfl
      have HBW := Lib.hid (below1 w (.cells #[.int .i64 (k : Int)] 3))
      have HK2 := Lib.hid (HK.out _ (HX.out.later (HBW.out.mono hB)))
      clear h1 hb0
      go_enter Try.func29, Try.ntmps29
      go_wp2_with fail
      refine HC.out.mono ?_
      rintro e w' ⟨rfl, rfl⟩
      go_wp2_with fail
      refine HK2.out.mono ?_
      rintro e w' ⟨rfl, rfl⟩
      go_wp2_with fail
      go_ret2
      exact ⟨RetTE.nil HEE.out.2 HEE.out.1.symm, HBW.out⟩
    · have HEE : Hid (drcE t i = 0 ∧ drcV t i = t.map (drpR k)) := by
        have h : drcE t i = 0 := by rw [HE.out, if_neg (by omega)]
        exact Lib.hid ⟨h, HVV.out h⟩
      have hb1 : ((n : Int) == 1) = false := by rw [beq_eq_false_iff_ne]; exact h1
      have HBW := Lib.hid (below1 w (.cells #[.int .i64 (k : Int)] 3))
      have hx1 := HX.out.later (HBW.out.mono hB)
      have HK2 := Lib.hid (HK.out _ hx1)
      have HEA := Lib.hid (each_drop (.slice oa t.length ca) t w.heap.size (drpR k) _ B hx1 (by simp; omega) h8 (Lib.hid (fun W y r hr hy hb => dropOne_any y r k w.heap.size W B hy (by have := hb.size; simp at this; omega) (by rw [(HV.out r hr).1]; exact hkl) (HV.out r hr).2.2.1
        ((hb.cell (p := ⟨w.heap.size, 0, none⟩) (by simp)).trans (by simp)))))
      clear h1 hb0 hx1
      go_enter Try.func29, Try.ntmps29
      go_wp2_with fail
      refine HC.out.mono ?_
      rintro e w' ⟨rfl, rfl⟩
      go_wp2_with fail
      refine HK2.out.mono ?_
      rintro e w' ⟨rfl, rfl⟩
      go_wp2_with fail
      refine HEA.out.mono ?_
      rintro e w2 ⟨⟨v, rfl, ho⟩, hb2⟩
      obtain ⟨ov, cv, rfl, _, _⟩ := ho.form
      rw [List.length_map] at ho ⊢
      have HO := Lib.hid ho
      clear ho
      go_wp2_with fail
      go_ret2
      exact ⟨RetTE.mk (HO.out.keep (fun b hp _ => ⟨by have := hp.1; simp at this; omega, hp.2⟩) (fun _ _ _ _ => rfl)) HEE.out.2.symm HEE.out.1.symm, HBW.out.trans (hb2.mono (by simp))⟩
  · obtain ⟨g1, g2⟩ := loc_bad hg
    rw [g1] at HC
    have HE : Hid (drcE t i = locE (chkT t) i (colsT t) ∧ drcV t i = []) := by
      have h : drcE t i = locE (chkT t) i (colsT t) := if_pos g2
      exact Lib.hid ⟨h, if_neg (by rw [h]; exact g2)⟩
    have HBW := Lib.hid (below1 w (.cells #[.int .i64 0] 3))
    obtain ⟨E, hE⟩ : ∃ E, locE (chkT t) i (colsT t) = E := ⟨_, rfl⟩
    rw [hE] at HC HE g2
    have fc : (E != 0) = true := by rw [bne_iff_ne]; exact g2
    have HG := Lib.hid g2
    clear hE g1 g2 hg hb0
    go_enter Try.func29, Try.ntmps29
    go_wp2_with fail
    refine HC.out.mono ?_
    rintro e w' ⟨rfl, rfl⟩
    go_wp2_with fail
    go_ret2
    exact ⟨RetTE.nil HE.out.2 HE.out.1.symm, HBW.out⟩

set_option maxRecDepth 100000 in
set_option maxHeartbeats 1600000 in
theorem Split_any (x : Value) (t : List (List ByteArray)) (i : Int) (sep : ByteArray) (m : Int) (w : World) (B : Nat) (hx : HoldsT w (· < B) x t) (hB : B ≤ w.heap.size) (hi : I64 i) (h0 : w.cell? ⟨0, 0, none⟩ = some (.int .i64 m)) :
    Calls Try.prog 41 #[x, .int .i64 i, .string sep] w fun e w' => RetTE w w' (splV t i sep) (splE t i sep) e ∧ Below w.heap.size w w' := by
  have hb0 := (below1 w (.cells #[.int .i64 i] 3)).alloc (by simp : w.heap.size ≤ (w.alloc (.cells #[.int .i64 i] 3)).heap.size) (.cells #[.string sep] 9)
  have hx0 := hx.later (hb0.mono hB)
  have HC := Lib.hid (columnIndex_any x t i _ (· < B) hx0 hi)
  have HX := Lib.hid hx
  have H0 := Lib.hid h0
  have hw0 := cell_lt h0
  obtain ⟨oa, ca, rfl, _, _⟩ := hx.form
  clear hx hx0 h0
  by_cases hg : chkT t = 0 ∧ (idxO i (colsT t)).isSome = true
  · obtain ⟨hc, hk⟩ := hg
    obtain ⟨k, hk⟩ := Option.isSome_iff_exists.1 hk
    have hkl := idxO_lt hk
    have h8 := (chkT_rows hc).1
    have HV := Lib.hid (chkT_rows hc).2
    obtain ⟨g1, g2⟩ := loc_good hc hk
    rw [g1, g2] at HC
    have HE : Hid (splE t i sep = if sep.data.toList = [] then 4 else if colsT t = 8 then 2 else 0) := Lib.hid (if_neg (by simp [g2]))
    have HVV : Hid (splE t i sep = 0 → splV t i sep = t.map (splR k sep)) := Lib.hid (fun h => by unfold splV; rw [if_pos h, hk]; rfl)
    have HVN : Hid (splE t i sep ≠ 0 → splV t i sep = []) := Lib.hid (fun h => if_neg h)
    obtain ⟨n, hn⟩ : ∃ n, colsT t = n := ⟨_, rfl⟩
    have HK := Lib.hid (fun w1 h => cols_any (.slice oa t.length ca) t w1 (· < B) h)
    rw [hn] at hkl HE HV HK
    have HBW := Lib.hid ((below1 w (.cells #[.int .i64 (k : Int)] 3)).alloc (by simp : w.heap.size ≤ (w.alloc (.cells #[.int .i64 (k : Int)] 3)).heap.size) (.cells #[.string sep] 9))
    have hx1 := HX.out.later (HBW.out.mono hB)
    have HK2 := Lib.hid (HK.out _ hx1)
    clear hc hk g1 g2 hn hb0
    by_cases hs : sep.data.toList = []
    · have HEE : Hid (splE t i sep = 4 ∧ splV t i sep = []) := by
        have h : splE t i sep = 4 := by rw [HE.out, if_pos hs]
        exact Lib.hid ⟨h, HVN.out (by rw [h]; decide)⟩
      have hst : sep.toList = [] := by rw [Lib.toList_data]; exact hs
      clear hs hx1
      go_enter Try.func41, Try.ntmps41
      go_wp2_with fail
      refine HC.out.mono ?_
      rintro e w' ⟨rfl, rfl⟩
      go_wp2_with fail
      go_ret2
      exact ⟨RetTE.nil HEE.out.2 HEE.out.1.symm, HBW.out⟩
    have hst : sep.toList.isEmpty = false := by
      rw [Lib.toList_data]
      cases hl : sep.data.toList with
      | nil => exact absurd hl hs
      | cons _ _ => rfl
    by_cases h1 : (n : Int) = 8
    · have HEE : Hid (splE t i sep = 2 ∧ splV t i sep = []) := by
        have h : splE t i sep = 2 := by rw [HE.out, if_neg hs, if_pos (by omega)]
        exact Lib.hid ⟨h, HVN.out (by rw [h]; decide)⟩
      have hb1 : ((n : Int) == 8) = true := by rw [h1]; rfl
      clear h1 hx1 hs
      go_enter Try.func41, Try.ntmps41
      go_wp2_with fail
      refine HC.out.mono ?_
      rintro e w' ⟨rfl, rfl⟩
      go_wp2_with fail
      refine HK2.out.mono ?_
      rintro e w' ⟨rfl, rfl⟩
      go_wp2_with fail
      go_ret2
      exact ⟨RetTE.nil HEE.out.2 HEE.out.1.symm, HBW.out⟩
    · have HEE : Hid (splE t i sep = 0 ∧ splV t i sep = t.map (splR k sep)) := by
        have h : splE t i sep = 0 := by rw [HE.out, if_neg hs, if_neg (by omega)]
        exact Lib.hid ⟨h, HVV.out h⟩
      have hb1 : ((n : Int) == 8) = false := by rw [beq_eq_false_iff_ne]; exact h1
      have HEA := Lib.hid (each_split (.slice oa t.length ca) t w.heap.size (w.heap.size + 1) (splR k sep) _ B hx1 (by simp; omega) h8 (Lib.hid (fun W y r hr hy hb => splitOne_any y r k w.heap.size (w.heap.size + 1) sep m W B hy (by have := hb.size; simp at this; omega) (by rw [(HV.out r hr).1]; exact hkl) (HV.out r hr).2.2.1 (HV.out r hr).2.2.2
        ((hb.cell (p := ⟨0, 0, none⟩) (by simp)).trans ((HBW.out.cell (p := ⟨0, 0, none⟩) hw0).trans H0.out))
        ((hb.cell (p := ⟨w.heap.size, 0, none⟩) (by simp; omega)).trans (((below1 (w.alloc (.cells #[.int .i64 (k : Int)] 3)) (.cells #[.string sep] 9)).cell (p := ⟨w.heap.size, 0, none⟩) (by simp)).trans (by simp)))
        ((hb.cell (p := ⟨w.heap.size + 1, 0, none⟩) (by simp)).trans (by simp)))))
      clear h1 hx1 hs
      go_enter Try.func41, Try.ntmps41
      go_wp2_with fail
      refine HC.out.mono ?_
      rintro e w' ⟨rfl, rfl⟩
      go_wp2_with fail
      refine HK2.out.mono ?_
      rintro e w' ⟨rfl, rfl⟩
      go_wp2_with fail
      refine HEA.out.mono ?_
      rintro e w2 ⟨⟨v, rfl, ho⟩, hb2⟩
      obtain ⟨ov, cv, rfl, _, _⟩ := ho.form
      rw [List.length_map] at ho ⊢
      have HO := Lib.hid ho
      clear ho
      go_wp2_with fail
      go_ret2
      exact ⟨RetTE.mk (HO.out.keep (fun b hp _ => ⟨by have := hp.1; simp at this; omega, hp.2⟩) (fun _ _ _ _ => rfl)) HEE.out.2.symm HEE.out.1.symm, HBW.out.trans (hb2.mono (by simp; omega))⟩
  · obtain ⟨g1, g2⟩ := loc_bad hg
    rw [g1] at HC
    have HE : Hid (splE t i sep = locE (chkT t) i (colsT t) ∧ splV t i sep = []) := by
      have h : splE t i sep = locE (chkT t) i (colsT t) := if_pos g2
      exact Lib.hid ⟨h, if_neg (by rw [h]; exact g2)⟩
    have HBW := Lib.hid ((below1 w (.cells #[.int .i64 0] 3)).alloc (by simp : w.heap.size ≤ (w.alloc (.cells #[.int .i64 0] 3)).heap.size) (.cells #[.string sep] 9))
    obtain ⟨E, hE⟩ : ∃ E, locE (chkT t) i (colsT t) = E := ⟨_, rfl⟩
    rw [hE] at HC HE g2
    have fc : (E != 0) = true := by rw [bne_iff_ne]; exact g2
    have HG := Lib.hid g2
    clear hE g1 g2 hg hb0
    go_enter Try.func41, Try.ntmps41
    go_wp2_with fail
    refine HC.out.mono ?_
    rintro e w' ⟨rfl, rfl⟩
    go_wp2_with fail
    go_ret2
    exact ⟨RetTE.nil HE.out.2 HE.out.1.symm, HBW.out⟩

end Go.Proofs.Ytampofpllijfhaa
