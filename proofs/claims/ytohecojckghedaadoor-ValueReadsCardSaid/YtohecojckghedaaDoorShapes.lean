/-
  A valid list of numbers, list of texts, table, told by its numbers and its texts: the plain mathematics.
-/
import Derived.Test.YtohecojckghedaaDoorLeast
import Derived.Test.YtohecojckghedaaDoorMapEach
namespace Go.Proofs.YtohecojckghedaaDoor
open Go.RowKit

theorem str_empty {s : ByteArray} (h : s.size = 0) : s = ⟨#[]⟩ := by
  obtain ⟨⟨a⟩⟩ := s
  have : a.length = 0 := by simpa [ByteArray.size] using h
  obtain rfl := List.eq_nil_of_length_eq_zero this
  rfl

theorem chkL_mem {ty : Int} : ∀ {l : List V}, V.chkL ty l = 0 → ∀ x, x ∈ l → x.t = ty ∧ x.chk = 0
  | [], _, x, hx => by cases hx
  | a :: l, h, x, hx => by
    rw [V.chkL_cons] at h
    by_cases h1 : a.t = ty
    · rw [if_neg (by simp [h1])] at h
      by_cases h2 : a.chk = 0
      · rw [if_neg (by simp [h2])] at h
        rcases List.mem_cons.1 hx with rfl | hx
        · exact ⟨h1, h2⟩
        · exact chkL_mem h x hx
      · rw [if_pos h2] at h; exact absurd h h2
    · rw [if_pos h1] at h; omega
theorem chkR_mem {c : Nat} : ∀ {l : List V}, V.chkR c l = 0 → ∀ x, x ∈ l → x.t = 6 ∧ x.chk = 0
  | [], _, x, hx => by cases hx
  | a :: l, h, x, hx => by
    rw [V.chkR_cons] at h
    by_cases h1 : a.t = 6
    · rw [if_neg (by simp [h1])] at h
      by_cases h3 : a.l.length < 1 ∨ 8 < a.l.length ∨ a.l.length ≠ c
      · rw [if_pos h3] at h; omega
      · rw [if_neg h3] at h
        by_cases h2 : a.chk = 0
        · rw [if_neg (by simp [h2])] at h
          rcases List.mem_cons.1 hx with rfl | hx
          · exact ⟨h1, h2⟩
          · exact chkR_mem h x hx
        · rw [if_pos h2] at h; exact absurd h h2
    · rw [if_pos h1] at h; omega

theorem form_num {t n : Int} {s : ByteArray} {len : Nat} (h : badForm t n s len = false) (hu : usesNum t = false) : n = 0 := by
  unfold badForm at h
  rw [hu] at h
  simp at h
  exact h.1.1
theorem form_text {t n : Int} {s : ByteArray} {len : Nat} (h : badForm t n s len = false) (hu : usesText t = false) : s = ⟨#[]⟩ := by
  unfold badForm at h
  rw [hu] at h
  simp at h
  exact str_empty (by simpa using h.1.2)
theorem form_items {t n : Int} {s : ByteArray} {l : List V} (h : badForm t n s l.length = false) (hu : usesItems t = false) : l = [] := by
  unfold badForm at h
  rw [hu] at h
  simp at h
  exact h.2

theorem num_is {v : V} (ht : v.t = 2) (h : v.chk = 0) : v = .mk 2 v.n ⟨#[]⟩ [] := by
  have hf := chk_form h
  rw [ht] at hf
  have h1 := form_text hf rfl
  have h2 := form_items hf rfl
  cases v
  simp only [V.t, V.s, V.l, V.n] at *
  subst ht h1 h2
  rfl
theorem text_is {v : V} (ht : v.t = 3) (h : v.chk = 0) : v = .mk 3 0 v.s [] := by
  have hf := chk_form h
  rw [ht] at hf
  have h1 := form_num hf rfl
  have h2 := form_items hf rfl
  cases v
  simp only [V.t, V.s, V.l, V.n] at *
  subst ht h1 h2
  rfl
theorem map_is {f : V → V} : ∀ {l : List V}, (∀ x, x ∈ l → x = f x) → l = l.map f
  | [], _ => rfl
  | a :: l, h => by
    rw [List.map_cons, ← h a List.mem_cons_self, ← map_is fun x hx => h x (List.mem_cons_of_mem _ hx)]

theorem ints_is {v : V} (ht : v.t = 5) (h : v.chk = 0) : v.l.length ≤ 16 ∧ v = .mk 5 0 ⟨#[]⟩ ((v.l.map V.n).map fun z => .mk 2 z ⟨#[]⟩ []) := by
  have hf := chk_form h
  have hc := V.chk_at v 5 ht (by omega) (by omega) (by rw [ht] at hf; exact hf)
  rw [h] at hc
  have hc' : 0 = V.lst 2 v.l := hc
  unfold V.lst at hc'
  by_cases h16 : 16 < v.l.length
  · rw [if_pos h16] at hc'; omega
  rw [if_neg h16] at hc'
  refine ⟨by omega, ?_⟩
  have hm := chkL_mem hc'.symm
  rw [ht] at hf
  have h1 := form_num hf rfl
  have h2 := form_text hf rfl
  have h3 : v.l = v.l.map fun x => .mk 2 x.n ⟨#[]⟩ [] := map_is fun x hx => num_is (hm x hx).1 (hm x hx).2
  rw [List.map_map]
  cases v
  simp only [V.t, V.s, V.l, V.n] at *
  subst ht h1 h2
  rw [V.mk.injEq]
  exact ⟨rfl, rfl, rfl, h3⟩
theorem texts_is {v : V} (ht : v.t = 6) (h : v.chk = 0) : v.l.length ≤ 16 ∧ v = rowV (v.l.map V.s) := by
  have hf := chk_form h
  have hc := V.chk_at v 6 ht (by omega) (by omega) (by rw [ht] at hf; exact hf)
  rw [h] at hc
  have hc' : 0 = V.lst 3 v.l := hc
  unfold V.lst at hc'
  by_cases h16 : 16 < v.l.length
  · rw [if_pos h16] at hc'; omega
  rw [if_neg h16] at hc'
  refine ⟨by omega, ?_⟩
  have hm := chkL_mem hc'.symm
  rw [ht] at hf
  have h1 := form_num hf rfl
  have h2 := form_text hf rfl
  have h3 : v.l = v.l.map fun x => .mk 3 0 x.s [] := map_is fun x hx => text_is (hm x hx).1 (hm x hx).2
  unfold rowV
  rw [List.map_map]
  cases v
  simp only [V.t, V.s, V.l, V.n] at *
  subst ht h1 h2
  rw [V.mk.injEq]
  exact ⟨rfl, rfl, rfl, h3⟩
theorem table_is {v : V} (ht : v.t = 7) (h : v.chk = 0) : v.l.length ≤ 8 ∧ (∀ r, r ∈ v.l → r.l.length ≤ 16 ∧ r.t = 6 ∧ r.chk = 0) ∧ v = .mk 7 0 ⟨#[]⟩ ((v.l.map fun r => r.l.map V.s).map rowV) := by
  have hf := chk_form h
  have hc := V.chk_at v 7 ht (by omega) (by omega) (by rw [ht] at hf; exact hf)
  rw [h] at hc
  have hc' : 0 = V.tab v.l := hc
  unfold V.tab at hc'
  by_cases h16 : 8 < v.l.length
  · rw [if_pos h16] at hc'; omega
  rw [if_neg h16] at hc'
  have hm := chkR_mem hc'.symm
  refine ⟨by omega, fun r hr => ⟨(texts_is (hm r hr).1 (hm r hr).2).1, hm r hr⟩, ?_⟩
  rw [ht] at hf
  have h1 := form_num hf rfl
  have h2 := form_text hf rfl
  have h3 : v.l = v.l.map fun x => rowV (x.l.map V.s) := map_is fun x hx => (texts_is (hm x hx).1 (hm x hx).2).2
  rw [List.map_map]
  cases v
  simp only [V.t, V.s, V.l, V.n] at *
  subst ht h1 h2
  rw [V.mk.injEq]
  exact ⟨rfl, rfl, rfl, h3⟩

end Go.Proofs.YtohecojckghedaaDoor
