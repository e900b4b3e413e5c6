/-
  Plain facts on tables: validity told by rows, transposition. Nothing is assumed.
-/
import Derived.Test.YtampofpllijfhaaTbTrans
namespace Go.Proofs.Ytampofpllijfhaa
open Go.RowKit

theorem firstE_all {α : Type} {f : α → Int} : ∀ {l : List α}, (∀ x ∈ l, f x = 0) → firstE f l = 0
  | [], _ => rfl
  | x :: l, h => by
    rw [firstE, if_pos (h x (List.mem_cons_self ..))]
    exact firstE_all fun y hy => h y (List.mem_cons_of_mem _ hy)
/-- What a valid table is. -/
def Valid (c : Nat) (t : Tab) : Prop := t.length ≤ 8 ∧ 1 ≤ c ∧ c ≤ 8 ∧ ∀ r ∈ t, r.length = c ∧ ∀ s ∈ r, cellE s = 0
theorem valid_of {t : Tab} (h : chkT t = 0) (hp : 0 < t.length) : Valid (colsT t) t := by
  obtain ⟨h8, hr⟩ := chkT_rows h
  have h1 := hr _ (List.getElem_mem hp)
  refine ⟨h8, by omega, by omega, fun r hm => ⟨(hr r hm).1, fun s hs => ?_⟩⟩
  unfold chkT at h
  rw [if_neg (by omega)] at h
  have h2 := firstE_ok _ _ h r hm
  unfold rowE at h2
  obtain ⟨q1, q2, q3, _⟩ := hr r hm
  rw [if_neg (by omega), if_neg (by omega)] at h2
  exact firstE_ok _ _ h2 s hs
theorem Valid.cols {c : Nat} {t : Tab} (h : Valid c t) (hp : 0 < t.length) : colsT t = c := by
  rw [colsT_at hp]
  exact (h.2.2.2 _ (List.getElem_mem hp)).1
theorem Valid.chk {c : Nat} {t : Tab} (h : Valid c t) : chkT t = 0 := by
  unfold chkT
  obtain ⟨h8, h1, h2, hr⟩ := h
  rw [if_neg (by omega)]
  refine firstE_all fun r hm => ?_
  have hc : colsT t = c := by
    have hp : 0 < t.length := List.length_pos_of_mem hm
    rw [colsT_at hp]
    exact (hr _ (List.getElem_mem hp)).1
  unfold rowE
  obtain ⟨q1, q2⟩ := hr r hm
  rw [if_neg (by omega), if_neg (by omega)]
  exact firstE_all q2
theorem colOf_get (t : Tab) (k i : Nat) (h : i < t.length) (hk : k < t[i].length) : (colOf t k)[i]'(by rw [colOf_len]; exact h) = t[i][k] := by simp [colOf, hk]
theorem transK_get (t : Tab) (k i : Nat) (h : i < k) : (transK t k)[i]'(by rw [transK_len]; exact h) = colOf t i := by simp [transK]
theorem transT_ok {t : Tab} (h : chkT t = 0) : transT t = transK t (colsT t) := if_pos h
theorem Valid.trans {c : Nat} {t : Tab} (h : Valid c t) (hp : 0 < t.length) : Valid t.length (transK t c) := by
  obtain ⟨h8, h1, h2, hr⟩ := h
  refine ⟨by rw [transK_len]; exact h2, hp, h8, fun r hm => ?_⟩
  obtain ⟨i, hi, rfl⟩ := List.getElem_of_mem hm
  rw [transK_len] at hi
  rw [transK_get t c i hi]
  refine ⟨colOf_len t i, fun s hs => ?_⟩
  unfold colOf at hs
  obtain ⟨r, hr1, rfl⟩ := List.mem_map.1 hs
  obtain ⟨q1, q2⟩ := hr r hr1
  rw [List.getElem?_eq_getElem (by omega)]
  exact q2 _ (List.getElem_mem _)
/-- A row of the transposed table of the transposed one. -/
theorem transK_col {c : Nat} {t : Tab} (h : Valid c t) (i : Nat) (hi : i < t.length) : colOf (transK t c) i = t[i] := by
  have hl : t[i].length = c := (h.2.2.2 _ (List.getElem_mem hi)).1
  refine List.ext_getElem (by rw [colOf_len, transK_len, hl]) fun j h1 h2 => ?_
  rw [colOf_len, transK_len] at h1
  rw [colOf_get (transK t c) i j (by rw [transK_len]; exact h1) (by rw [transK_get t c j h1, colOf_len]; exact hi)]
  have e := transK_get t c j h1
  have : ∀ (l : Row) (hl : i < l.length) (e : (transK t c)[j]'(by rw [transK_len]; exact h1) = l), ((transK t c)[j]'(by rw [transK_len]; exact h1))[i]'(by rw [e]; exact hl) = l[i] := by
    intro l hl e
    subst e
    rfl
  rw [this _ (by rw [colOf_len]; exact hi) e]
  exact colOf_get t j i hi (by omega)
theorem trans_trans {c : Nat} {t : Tab} (h : Valid c t) (hp : 0 < t.length) : transT (transT t) = t := by
  have hv := h.trans hp
  have hc := h.cols hp
  have hc1 : 0 < (transK t c).length := by rw [transK_len]; exact h.2.1
  rw [transT_ok h.chk, hc, transT_ok hv.chk, hv.cols hc1]
  refine List.ext_getElem (by rw [transK_len]) fun i h1 h2 => ?_
  rw [transK_get (transK t c) t.length i h2, transK_col h i h2]
theorem transT_nil : transT [] = [] := rfl
/-- A table without a row. -/
def drpT {α : Type} (k : Nat) (t : List α) : List α := t.take k ++ t.drop (k + 1)
theorem Valid.sub {c : Nat} {t u : Tab} (h : Valid c t) (hs : ∀ r ∈ u, r ∈ t) (hl : u.length ≤ 8) : Valid c u := ⟨hl, h.2.1, h.2.2.1, fun r hr => h.2.2.2 r (hs r hr)⟩
theorem drpT_len {α : Type} (k : Nat) (t : List α) (h : k < t.length) : (drpT k t).length = t.length - 1 := by simp [drpT]; omega
theorem drpT_get {α : Type} (k : Nat) (t : List α) (h : k < t.length) (i : Nat) (hi : i < t.length - 1) : (drpT k t)[i]'(by rw [drpT_len k t h]; exact hi) = if hik : i < k then t[i] else t[i + 1]'(by omega) := by
  unfold drpT
  by_cases hik : i < k
  · rw [dif_pos hik, List.getElem_append_left (by simp; omega)]
    simp
  · rw [dif_neg hik, List.getElem_append_right (by simp; omega)]
    simp only [List.getElem_drop, List.length_take]
    congr 1
    omega
/-- The reference drops a column by dropping a row of the transposed table. -/
theorem drop_col {c k : Nat} {t : Tab} (h : Valid c t) (hp : 0 < t.length) (hk : k < c) (hc : 1 < c) : transT (drpT k (transT t)) = t.map (drpT k) := by
  have hv := h.trans hp
  have hc0 := h.cols hp
  rw [transT_ok h.chk, hc0]
  have hl : (drpT k (transK t c)).length = c - 1 := by rw [drpT_len k _ (by rw [transK_len]; exact hk), transK_len]
  have hv2 : Valid t.length (drpT k (transK t c)) := hv.sub (fun r hr => by
    unfold drpT at hr
    rcases List.mem_append.1 hr with hr | hr
    · exact List.mem_of_mem_take hr
    · exact List.mem_of_mem_drop hr) (by rw [hl]; have := h.2.2.1; omega)
  rw [transT_ok hv2.chk, hv2.cols (by omega)]
  refine List.ext_getElem (by rw [transK_len, List.length_map]) fun i h1 h2 => ?_
  rw [transK_len] at h1
  rw [transK_get _ _ _ h1, List.getElem_map]
  have hti : t[i].length = c := (h.2.2.2 _ (List.getElem_mem h1)).1
  refine List.ext_getElem (by rw [colOf_len, hl, drpT_len k _ (by omega), hti]) fun j g1 g2 => ?_
  rw [colOf_len, hl] at g1
  have hrow : ∀ (l : Row) (e : (drpT k (transK t c))[j]'(by omega) = l) (hl2 : i < l.length), (colOf (drpT k (transK t c)) i)[j]'(by rw [colOf_len]; omega) = l[i] := by
    intro l e hl2
    subst e
    exact colOf_get _ _ _ _ hl2
  rw [drpT_get k t[i] (by omega) j (by omega)]
  by_cases hj : j < k
  · rw [dif_pos hj]
    rw [hrow (colOf t j) (by rw [drpT_get k _ (by rw [transK_len]; exact hk) j (by rw [transK_len]; exact g1), dif_pos hj, transK_get t c j (by omega)]) (by rw [colOf_len]; exact h1)]
    exact colOf_get t j i h1 (by omega)
  · rw [dif_neg hj]
    rw [hrow (colOf t (j + 1)) (by rw [drpT_get k _ (by rw [transK_len]; exact hk) j (by rw [transK_len]; exact g1), dif_neg hj, transK_get t c (j + 1) (by omega)]) (by rw [colOf_len]; exact h1)]
    exact colOf_get t (j + 1) i h1 (by omega)
/-- Rows beside each other. -/
def besT (a b : Tab) : Tab := List.zipWith (· ++ ·) a b
theorem beside_trans {c d : Nat} {a b : Tab} (ha : Valid c a) (hb : Valid d b) (hp : 0 < a.length) (hl : a.length = b.length) (hcd : c + d ≤ 8) : transT (transT a ++ transT b) = besT a b := by
  have hva := ha.trans hp
  have hvb := hb.trans (by omega : 0 < b.length)
  rw [transT_ok ha.chk, ha.cols hp, transT_ok hb.chk, hb.cols (by omega)]
  have hv : Valid a.length (transK a c ++ transK b d) := ⟨by rw [List.length_append, transK_len, transK_len]; exact hcd, hva.2.1, hva.2.2.1, fun r hr => by
    rcases List.mem_append.1 hr with hr | hr
    · exact hva.2.2.2 r hr
    · rw [hl]
      exact hvb.2.2.2 r hr⟩
  have hc1 := ha.2.1
  rw [transT_ok hv.chk, hv.cols (by rw [List.length_append, transK_len]; omega)]
  refine List.ext_getElem (by rw [transK_len]; simp [besT]; omega) fun i h1 h2 => ?_
  rw [transK_len] at h1
  rw [transK_get _ _ _ h1]
  have hz : (besT a b)[i] = a[i] ++ b[i]'(by omega) := by simp [besT]
  rw [hz]
  unfold colOf
  rw [List.map_append]
  have e1 := transK_col ha i h1
  have e2 := transK_col hb i (by omega)
  unfold colOf at e1 e2
  rw [e1, e2]

end Go.Proofs.Ytampofpllijfhaa
