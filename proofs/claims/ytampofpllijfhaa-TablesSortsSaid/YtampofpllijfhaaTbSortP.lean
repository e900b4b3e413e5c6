/-
  Plain facts on sorting rows by a column: insertion and passes of exchanges give the same list. Nothing is assumed.
-/
import Derived.Test.YtampofpllijfhaaTbPure
import Derived.Lib.Bytealg
namespace Go.Proofs.Ytampofpllijfhaa
open Go.RowKit

section
variable {α : Type} (key : α → List UInt8)
/-- The order by which rows are sorted: a may stand ahead of b. -/
def leK (a b : α) : Prop := ¬ key b < key a
theorem leK_trans {a b c : α} (h1 : leK key a b) (h2 : leK key b c) : leK key a c := by
  unfold leK at *
  rw [List.not_lt] at *
  exact List.le_trans h1 h2
theorem leK_of_lt {a b : α} (h : key a < key b) : leK key a b := by
  unfold leK
  rw [List.not_lt]
  exact List.le_of_lt h
theorem leK_anti {a b : α} (h1 : leK key a b) (h2 : leK key b a) : key a = key b := by
  unfold leK at *
  rw [List.not_lt] at *
  exact List.le_antisymm h1 h2
abbrev SortedK (l : List α) : Prop := l.Pairwise (leK key)
/-- The same rows for each key, in the same order. -/
def Alike [DecidableEq (List UInt8)] (l m : List α) : Prop := ∀ v, l.filter (fun x => decide (key x = v)) = m.filter (fun x => decide (key x = v))
theorem Alike.refl (l : List α) : Alike key l l := fun _ => rfl
theorem Alike.trans {l m n : List α} (h : Alike key l m) (h' : Alike key m n) : Alike key l n := fun v => (h v).trans (h' v)
theorem Alike.symm {l m : List α} (h : Alike key l m) : Alike key m l := fun v => (h v).symm
theorem alike_swap (p q : List α) {a b : α} (h : key b < key a) : Alike key (p ++ a :: b :: q) (p ++ b :: a :: q) := by
  intro v
  rw [List.filter_append, List.filter_append]
  congr 1
  have hne : key a ≠ key b := fun e => by rw [e] at h; exact List.lt_irrefl _ h
  simp only [List.filter_cons]
  by_cases ha : key a = v
  · have hb : ¬ key b = v := fun e => hne (ha.trans e.symm)
    simp [ha, hb]
  · simp [ha]
theorem alike_mem {l m : List α} (h : Alike key l m) {x : α} (hx : x ∈ l) : x ∈ m := by
  have : x ∈ l.filter (fun y => decide (key y = key x)) := by simp [hx]
  rw [h] at this
  exact (List.mem_filter.1 this).1
theorem alike_tail {a : α} {l m : List α} (h : Alike key (a :: l) (a :: m)) : Alike key l m := by
  intro v
  have := h v
  simp only [List.filter_cons] at this
  split at this
  · simpa using this
  · exact this
/-- A sorted list is told by its rows for each key. -/
theorem sorted_unique : ∀ {l m : List α}, SortedK key l → SortedK key m → Alike key l m → l = m
  | [], m, _, _, h => by
    cases m with
    | nil => rfl
    | cons b m => exact absurd (alike_mem key h.symm (List.mem_cons_self ..)) (by simp)
  | a :: l, [], _, _, h => absurd (alike_mem key h (List.mem_cons_self ..)) (by simp)
  | a :: l, b :: m, hl, hm, h => by
    have h1 : leK key a b := by
      rcases List.mem_cons.1 (alike_mem key h.symm (List.mem_cons_self .. : b ∈ b :: m)) with e | e
      · rw [e]; exact List.lt_irrefl _
      · exact (List.pairwise_cons.1 hl).1 b e
    have h2 : leK key b a := by
      rcases List.mem_cons.1 (alike_mem key h (List.mem_cons_self .. : a ∈ a :: l)) with e | e
      · rw [e]; exact List.lt_irrefl _
      · exact (List.pairwise_cons.1 hm).1 a e
    have hk := leK_anti key h1 h2
    have hab : a = b := by
      have := h (key a)
      simp only [List.filter_cons, decide_true, if_true, hk.symm] at this
      injection this
    subst hab
    rw [sorted_unique (List.pairwise_cons.1 hl).2 (List.pairwise_cons.1 hm).2 (alike_tail key h)]
/-- One row put into a sorted list. -/
theorem sorted_put {p q : List α} {x : α} (h : SortedK key (p ++ q)) (h1 : ∀ y ∈ q, key x < key y) (h2 : ∀ (y : α) (p' : List α), p = p' ++ [y] → ¬ key x < key y) : SortedK key (p ++ x :: q) := by
  rw [SortedK, List.pairwise_append] at h ⊢
  obtain ⟨hp, hq, hpq⟩ := h
  refine ⟨hp, List.pairwise_cons.2 ⟨fun y hy => leK_of_lt key (h1 y hy), hq⟩, fun a ha b hb => ?_⟩
  rcases List.mem_cons.1 hb with rfl | hb
  · rcases List.eq_nil_or_concat p with rfl | ⟨p', y, rfl⟩
    · cases ha
    · rw [List.concat_eq_append] at hp ha
      have hy : leK key y b := h2 y p' (List.concat_eq_append)
      rcases List.mem_append.1 ha with ha | ha
      · exact leK_trans key ((List.pairwise_append.1 hp).2.2 a ha y (List.mem_singleton.2 rfl)) hy
      · obtain rfl := List.mem_singleton.1 ha
        exact hy
  · exact hpq a ha b hb
/-- One pass of exchanges. -/
def passK : List α → List α
  | [] => []
  | [a] => [a]
  | a :: b :: l => if key b < key a then b :: passK (a :: l) else a :: passK (b :: l)
termination_by l => l.length
theorem passK_alike : ∀ (l : List α), Alike key (passK key l) l
  | [] => by rw [passK]; exact Alike.refl key _
  | [a] => by rw [passK]; exact Alike.refl key _
  | a :: b :: l => by
    rw [passK]
    split
    · rename_i h
      have h1 := passK_alike (a :: l)
      have h2 : Alike key (b :: passK key (a :: l)) (b :: a :: l) := fun v => by simp only [List.filter_cons (x := b)]; rw [h1 v]
      exact h2.trans key ((alike_swap key [] l h).symm key)
    · have h1 := passK_alike (b :: l)
      intro v
      simp only [List.filter_cons (x := a)]
      rw [h1 v]
termination_by l => l.length
theorem passK_len : ∀ (l : List α), (passK key l).length = l.length
  | [] => by rw [passK]
  | [a] => by rw [passK]
  | a :: b :: l => by
    rw [passK]
    split
    · rw [List.length_cons, passK_len (a :: l)]; simp
    · rw [List.length_cons, passK_len (b :: l)]; simp
termination_by l => l.length
/-- A pass puts a greatest row at the end. -/
theorem passK_last : ∀ (a : α) (l : List α), ∃ u m, passK key (a :: l) = u ++ [m] ∧ (∀ x ∈ u, leK key x m) ∧ leK key a m
  | a, [] => ⟨[], a, by rw [passK]; rfl, by simp, List.lt_irrefl _⟩
  | a, b :: l => by
    rw [passK]
    split
    · rename_i h
      obtain ⟨u, m, h1, h2, h3⟩ := passK_last a l
      refine ⟨b :: u, m, by rw [h1]; rfl, fun x hx => ?_, h3⟩
      rcases List.mem_cons.1 hx with rfl | hx
      · exact leK_trans key (leK_of_lt key h) h3
      · exact h2 x hx
    · rename_i h
      obtain ⟨u, m, h1, h2, h3⟩ := passK_last b l
      refine ⟨a :: u, m, by rw [h1]; rfl, fun x hx => ?_, leK_trans key h h3⟩
      rcases List.mem_cons.1 hx with rfl | hx
      · exact leK_trans key h h3
      · exact h2 x hx
theorem passK_sorted : ∀ (l : List α), SortedK key l → passK key l = l
  | [], _ => by rw [passK]
  | [a], _ => by rw [passK]
  | a :: b :: l, h => by
    rw [passK, if_neg ((List.pairwise_cons.1 h).1 b (List.mem_cons_self ..)), passK_sorted (b :: l) (List.pairwise_cons.1 h).2]
termination_by l => l.length
theorem passK_end : ∀ (u s : List α), SortedK key s → (∀ x ∈ u, ∀ y ∈ s, leK key x y) → passK key (u ++ s) = passK key u ++ s
  | [], s, hs, _ => by rw [List.nil_append, passK_sorted key s hs, passK]; rfl
  | [a], s, hs, h => by
    rw [passK]
    exact passK_sorted key (a :: s) (List.pairwise_cons.2 ⟨fun y hy => h a (List.mem_cons_self ..) y hy, hs⟩)
  | a :: b :: u, s, hs, h => by
    have e1 := passK_end (a :: u) s hs (fun x hx => h x (by rcases List.mem_cons.1 hx with rfl | hx <;> simp [*]))
    have e2 := passK_end (b :: u) s hs (fun x hx => h x (by rcases List.mem_cons.1 hx with rfl | hx <;> simp [*]))
    rw [List.cons_append, List.cons_append, passK, passK]
    split
    · rw [← List.cons_append, e1]; rfl
    · rw [← List.cons_append, e2]; rfl
termination_by u => u.length
def passes : Nat → List α → List α
  | 0, l => l
  | n + 1, l => passK key (passes n l)
theorem passes_alike (l : List α) : ∀ n, Alike key (passes key n l) l
  | 0 => Alike.refl key _
  | n + 1 => (passK_alike key _).trans key (passes_alike l n)
theorem passes_inv (l : List α) : ∀ n, n ≤ l.length → ∃ u s, passes key n l = u ++ s ∧ s.length = n ∧ u.length + n = l.length ∧ SortedK key s ∧ ∀ x ∈ u, ∀ y ∈ s, leK key x y
  | 0, _ => ⟨l, [], by simp [passes], rfl, by simp, List.Pairwise.nil, by simp⟩
  | n + 1, hn => by
    obtain ⟨u, s, h1, h2, h3, h4, h5⟩ := passes_inv l n (by omega)
    cases u with
    | nil => simp at h3; omega
    | cons a u =>
      obtain ⟨u', m, e1, e2, e3⟩ := passK_last key a u
      have hal := passK_alike key (a :: u)
      rw [e1] at hal
      have hlen := passK_len key (a :: u)
      rw [e1] at hlen
      refine ⟨u', m :: s, ?_, by simp [h2], by simp at hlen h3; omega, List.pairwise_cons.2 ⟨fun y hy => h5 m (alike_mem key hal (by simp)) y hy, h4⟩, fun x hx y hy => ?_⟩
      · show passK key (passes key n l) = _
        rw [h1, passK_end key _ s h4 h5, e1]
        simp
      · rcases List.mem_cons.1 hy with rfl | hy
        · exact e2 x hx
        · exact h5 x (alike_mem key hal (by simp [hx])) y hy
theorem passes_sorted (l : List α) : SortedK key (passes key l.length l) := by
  obtain ⟨u, s, h1, _, h3, h4, _⟩ := passes_inv key l l.length (Nat.le_refl _)
  have : u = [] := List.eq_nil_of_length_eq_zero (by omega)
  rw [h1, this]
  exact h4
end
/-- Byte by byte. -/
theorem cmp_neg : ∀ (a b : List UInt8), Lib.compareBytes a b < 0 ↔ a < b
  | [], [] => by simp [Lib.compareBytes]
  | [], b :: ys => by simp [Lib.compareBytes]
  | a :: xs, [] => by simp [Lib.compareBytes]
  | a :: xs, b :: ys => by
    rw [Lib.compareBytes, List.cons_lt_cons_iff]
    by_cases h : a < b
    · simp [h]
    · rw [if_neg h]
      by_cases h2 : b < a
      · rw [if_pos h2]
        constructor
        · intro h3; omega
        · rintro (h3 | ⟨rfl, _⟩)
          · exact absurd h3 h
          · exact absurd h2 h
      · rw [if_neg h2, cmp_neg xs ys]
        have e : a = b := UInt8.le_antisymm (UInt8.not_lt.1 h2) (UInt8.not_lt.1 h)
        simp [e, UInt8.lt_irrefl]

end Go.Proofs.Ytampofpllijfhaa
