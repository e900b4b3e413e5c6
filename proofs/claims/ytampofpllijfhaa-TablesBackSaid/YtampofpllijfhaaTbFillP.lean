/-
  Plain facts on filled tables: valid again, and nothing is left to fill. Nothing is assumed.
-/
import Derived.Test.YtampofpllijfhaaTbFill
import Derived.Test.YtampofpllijfhaaTbPure
namespace Go.Proofs.Ytampofpllijfhaa
open Go.RowKit

theorem Valid.shape {c : Nat} {t : Tab} (h : Valid c t) : Shape t.length c t := ⟨rfl, fun r hr => (h.2.2.2 r hr).1⟩
theorem cellT_at {t : Tab} {i k : Nat} {r : Row} {s : ByteArray} (hr : t[i]? = some r) (hs : r[k]? = some s) : cellT t i k = s := by unfold cellT; rw [hr]; simp [hs]
theorem cellT_set {n c : Nat} {t : Tab} (h : Shape n c t) {i k : Nat} (hi : i < n) (hk : k < c) (s : ByteArray) (i' k' : Nat) : cellT (setT t i k s) i' k' = if i' = i ∧ k' = k then s else cellT t i' k' := by
  obtain ⟨r, hr, hl⟩ := h.row hi
  unfold setT
  rw [hr]
  simp only [Option.getD_some]
  by_cases h1 : i' = i
  · subst h1
    unfold cellT
    rw [List.getElem?_set_self (by rw [h.1]; exact hi), hr]
    simp only [Option.getD_some, true_and]
    by_cases h2 : k' = k
    · subst h2
      rw [if_pos rfl, List.getElem?_set_self (by omega)]
      rfl
    · rw [if_neg h2, List.getElem?_set_ne (by omega)]
  · unfold cellT
    rw [if_neg (fun e => h1 e.1), List.getElem?_set_ne (by omega)]
theorem cellT_step {n c : Nat} {t : Tab} (h : Shape n c t) {i k : Nat} (hi : i < n) (hk : k < c) (i' k' : Nat) : cellT (fillStep t i k) i' k' = if i' = i ∧ k' = k ∧ (cellT t i k).toList = [] then cellT t (i - 1) k else cellT t i' k' := by
  unfold fillStep
  by_cases he : (cellT t i k).toList = []
  · rw [if_pos he, cellT_set h hi hk]
    by_cases h1 : i' = i ∧ k' = k
    · rw [if_pos h1, if_pos ⟨h1.1, h1.2, he⟩]
    · rw [if_neg h1, if_neg (fun e => h1 ⟨e.1, e.2.1⟩)]
  · rw [if_neg he, if_neg (fun e => he e.2.2)]
/-- A cell that is empty stands below an empty one. -/
def StabC (t : Tab) (i k : Nat) : Prop := (cellT t i k).toList = [] → (cellT t (i - 1) k).toList = []
theorem row_fill {n c : Nat} {t : Tab} (h : Shape n c t) {i : Nat} (hi : i < n) (h1 : 1 ≤ i) : ∀ k, k ≤ c → (∀ k', k' < k → StabC (fillRow t i k) i k') ∧ (∀ i' k', i' ≠ i → cellT (fillRow t i k) i' k' = cellT t i' k')
  | 0, _ => ⟨fun k' hk' => absurd hk' (Nat.not_lt_zero _), fun i' k' _ => rfl⟩
  | k + 1, hk => by
    obtain ⟨g1, g2⟩ := row_fill h hi h1 k (by omega)
    have hs := h.fill hi k
    have hst : fillRow t i (k + 1) = fillStep (fillRow t i k) i k := rfl
    rw [hst]
    refine ⟨fun k' hk' => ?_, fun i' k' hne => ?_⟩
    · unfold StabC
      have e2 : cellT (fillStep (fillRow t i k) i k) (i - 1) k' = cellT (fillRow t i k) (i - 1) k' := by
        rw [cellT_step hs hi (by omega), if_neg (fun e => by have := e.1; omega)]
      rw [e2, cellT_step hs hi (by omega)]
      by_cases hc : k' = k
      · subst hc
        by_cases he : (cellT (fillRow t i k') i k').toList = []
        · rw [if_pos ⟨rfl, rfl, he⟩]
          exact id
        · rw [if_neg (fun e => he e.2.2)]
          intro e
          exact absurd e he
      · rw [if_neg (fun e => hc e.2.1)]
        exact g1 k' (by omega)
    · rw [cellT_step hs hi (by omega), if_neg (fun e => hne e.1)]
      exact g2 i' k' hne
theorem fill_stab {n c : Nat} {t : Tab} (h : Shape n c t) : ∀ m, m < n → ∀ i, 1 ≤ i → i ≤ m → ∀ k, k < c → StabC (fillTo t c m) i k
  | 0, _, i, h1, h2, _, _ => by omega
  | m + 1, hm, i, h1, h2, k, hk => by
    have hs := h.to m (by omega)
    obtain ⟨g1, g2⟩ := row_fill hs hm (by omega) c (Nat.le_refl _)
    have hst : fillTo t c (m + 1) = fillRow (fillTo t c m) (m + 1) c := rfl
    rw [hst]
    by_cases he : i = m + 1
    · subst he
      exact g1 k hk
    · unfold StabC
      rw [g2 i k he, g2 (i - 1) k (by omega)]
      exact fill_stab h m (by omega) i h1 (by omega) k hk
theorem toList_nil {s : ByteArray} (h : s.toList = []) : s = ⟨#[]⟩ := by
  rw [ByteArray.toList_eq] at h
  cases s with
  | mk d =>
    cases d with
    | mk l =>
      simp at h
      rw [h]
theorem step_same {n c : Nat} {t : Tab} (h : Shape n c t) {i k : Nat} (hi : i < n) (hk : k < c) (hs : StabC t i k) : fillStep t i k = t := by
  unfold fillStep
  by_cases he : (cellT t i k).toList = []
  · rw [if_pos he]
    have e1 := toList_nil he
    have e2 := toList_nil (hs he)
    obtain ⟨r, hr, hc⟩ := h.cell hi hk
    unfold setT
    rw [hr, e2]
    simp only [Option.getD_some]
    rw [e1] at hc
    have hkl : k < r.length := (List.getElem?_eq_some_iff.1 hc).1
    have hil : i < t.length := (List.getElem?_eq_some_iff.1 hr).1
    have e3 : r.set k ⟨#[]⟩ = r := by
      have e4 : r[k] = ⟨#[]⟩ := (List.getElem?_eq_some_iff.1 hc).2
      conv => lhs; rw [← e4]
      exact List.set_getElem_self hkl
    have e5 : t[i] = r := (List.getElem?_eq_some_iff.1 hr).2
    rw [e3, ← e5]
    exact List.set_getElem_self hil
  · rw [if_neg he]
theorem row_same {n c : Nat} {t : Tab} (h : Shape n c t) {i : Nat} (hi : i < n) (hs : ∀ k, k < c → StabC t i k) : ∀ k, k ≤ c → fillRow t i k = t
  | 0, _ => rfl
  | k + 1, hk => by
    show fillStep (fillRow t i k) i k = t
    rw [row_same h hi hs k (by omega)]
    exact step_same h hi (by omega) (hs k (by omega))
theorem to_same {n c : Nat} {t : Tab} (h : Shape n c t) (hs : ∀ i, 1 ≤ i → i < n → ∀ k, k < c → StabC t i k) : ∀ m, m < n → fillTo t c m = t
  | 0, _ => rfl
  | m + 1, hm => by
    show fillRow (fillTo t c m) (m + 1) c = t
    rw [to_same h hs m (by omega)]
    exact row_same h hm (hs (m + 1) (by omega) hm) c (Nat.le_refl _)
theorem Valid.cellT {n c : Nat} {t : Tab} (h : Valid c t) (hn : t.length = n) {i k : Nat} (hi : i < n) (hk : k < c) : cellE (cellT t i k) = 0 := by
  obtain ⟨r, hr, hc⟩ := (hn ▸ h.shape : Shape n c t).cell hi hk
  exact (h.2.2.2 r (List.mem_of_getElem? hr)).2 _ (List.mem_of_getElem? hc)
theorem Valid.step {n c : Nat} {t : Tab} (h : Valid c t) (hn : t.length = n) {i k : Nat} (hi : i < n) (hk : k < c) : Valid c (fillStep t i k) ∧ (fillStep t i k).length = n := by
  unfold fillStep
  split
  · unfold setT
    refine ⟨⟨by rw [List.length_set]; exact h.1, h.2.1, h.2.2.1, fun r hr => ?_⟩, by rw [List.length_set]; exact hn⟩
    rcases List.mem_or_eq_of_mem_set hr with hr | rfl
    · exact h.2.2.2 r hr
    · have hrow : t[i]? = some t[i] := List.getElem?_eq_getElem (by omega)
      rw [hrow]
      simp only [Option.getD_some]
      have hv := h.2.2.2 t[i] (List.getElem_mem _)
      refine ⟨by rw [List.length_set]; exact hv.1, fun s hs => ?_⟩
      rcases List.mem_or_eq_of_mem_set hs with hs | rfl
      · exact hv.2 s hs
      · exact h.cellT hn (by omega) hk
  · exact ⟨h, hn⟩
theorem Valid.row {n c : Nat} {t : Tab} (h : Valid c t) (hn : t.length = n) {i : Nat} (hi : i < n) : ∀ k, k ≤ c → Valid c (fillRow t i k) ∧ (fillRow t i k).length = n
  | 0, _ => ⟨h, hn⟩
  | k + 1, hk => by
    obtain ⟨g1, g2⟩ := Valid.row h hn hi k (by omega)
    exact g1.step g2 hi (by omega)
theorem Valid.fillTo {n c : Nat} {t : Tab} (h : Valid c t) (hn : t.length = n) : ∀ m, m < n → Valid c (fillTo t c m) ∧ (Go.Proofs.Ytampofpllijfhaa.fillTo t c m).length = n
  | 0, _ => ⟨h, hn⟩
  | m + 1, hm => by
    obtain ⟨g1, g2⟩ := Valid.fillTo h hn m (by omega)
    exact g1.row g2 hm c (Nat.le_refl _)
/-- A filled table is valid, and filling it again changes nothing. -/
theorem fill_again {t : Tab} (h : chkT t = 0) : chkT (fillT t) = 0 ∧ fillT (fillT t) = fillT t := by
  cases t with
  | nil => exact ⟨by rfl, by rfl⟩
  | cons r t =>
    have hp : 0 < (r :: t).length := by simp
    have hv := valid_of h hp
    obtain ⟨T, hT⟩ : ∃ T, (r :: t) = T := ⟨_, rfl⟩
    rw [hT] at h hp hv ⊢
    obtain ⟨c, hc⟩ : ∃ c, colsT T = c := ⟨_, rfl⟩
    rw [hc] at hv
    have e1 : fillT T = fillTo T c (T.length - 1) := by unfold fillT; rw [if_pos h, hc]
    obtain ⟨g1, g2⟩ := hv.fillTo rfl (T.length - 1) (by omega)
    rw [e1]
    refine ⟨g1.chk, ?_⟩
    have hs : Shape T.length c (fillTo T c (T.length - 1)) := hv.shape.to _ (by omega)
    unfold fillT
    rw [if_pos g1.chk, g1.cols (by rw [g2]; exact hp), g2]
    exact to_same hs (fun i h1 h2 k hk => fill_stab hv.shape (T.length - 1) (by omega) i h1 (by omega) k hk) _ (by omega)

end Go.Proofs.Ytampofpllijfhaa
