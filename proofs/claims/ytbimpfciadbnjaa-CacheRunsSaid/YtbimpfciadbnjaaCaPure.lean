/-
  The plain mathematics of a cache, with no program in it: a list of keys with programs, the one that was used last first. Nothing is assumed.
-/
import Derived.Test.YtbimpfciadbnjaaTmPlain
namespace Go.Proofs.Ytbimpfciadbnjaa
open Go.RowKit

abbrev Ent := ByteArray × T
/-- The program under a key. -/
def fnd : List Ent → ByteArray → Option T
  | [], _ => none
  | e :: q, k => if e.1 = k then some e.2 else fnd q k
/-- The list without a key. -/
def del : List Ent → ByteArray → List Ent
  | [], _ => []
  | e :: q, k => if e.1 = k then q else e :: del q k
/-- Put, and how many keys it removes. -/
def putQ (cap : Nat) (q : List Ent) (k : ByteArray) (t : T) : List Ent :=
  if (fnd q k).isSome then (k, t) :: del q k else if q.length = cap then (k, t) :: q.dropLast else (k, t) :: q
def outQ (cap : Nat) (q : List Ent) (k : ByteArray) : Nat := if (fnd q k).isSome then 0 else if q.length = cap then 1 else 0
/-- Get. -/
def useQ (q : List Ent) (k : ByteArray) : List Ent :=
  match fnd q k with
  | some t => (k, t) :: del q k
  | none => q

theorem fnd_nil (k : ByteArray) : fnd [] k = none := rfl
theorem fnd_same (k : ByteArray) (t : T) (q : List Ent) : fnd ((k, t) :: q) k = some t := by rw [fnd, if_pos rfl]
theorem fnd_other {k k' : ByteArray} (h : k' ≠ k) (t : T) (q : List Ent) : fnd ((k', t) :: q) k = fnd q k := by rw [fnd, if_neg h]
theorem fnd_none {q : List Ent} {k : ByteArray} : fnd q k = none ↔ ∀ e ∈ q, e.1 ≠ k := by
  induction q with
  | nil => simp [fnd]
  | cons e q ih =>
    rw [fnd]
    by_cases h : e.1 = k
    · rw [if_pos h]; simp [h]
    · rw [if_neg h, ih]; simp [h]
theorem fnd_mem {q : List Ent} {k : ByteArray} {t : T} (h : fnd q k = some t) : (k, t) ∈ q := by
  induction q with
  | nil => cases h
  | cons e q ih =>
    rw [fnd] at h
    by_cases hk : e.1 = k
    · rw [if_pos hk] at h
      cases h
      subst hk
      exact List.mem_cons_self ..
    · rw [if_neg hk] at h
      exact List.mem_cons_of_mem _ (ih h)
theorem fnd_of_mem {q : List Ent} {k : ByteArray} {t : T} (hn : (q.map Prod.fst).Nodup) (h : (k, t) ∈ q) : fnd q k = some t := by
  induction q with
  | nil => cases h
  | cons e q ih =>
    rw [List.map_cons, List.nodup_cons] at hn
    rcases List.mem_cons.1 h with rfl | h
    · exact fnd_same _ _ _
    · rw [fnd, if_neg (fun e' : e.1 = k => hn.1 (by rw [e']; exact List.mem_map_of_mem (f := Prod.fst) h))]
      exact ih hn.2 h
theorem del_sub (q : List Ent) (k : ByteArray) : (del q k).Sublist q := by
  induction q with
  | nil => exact List.Sublist.refl _
  | cons e q ih =>
    rw [del]
    split
    · exact List.sublist_cons_self ..
    · exact ih.cons_cons _
theorem del_len {q : List Ent} {k : ByteArray} {t : T} (h : fnd q k = some t) : (del q k).length + 1 = q.length := by
  induction q with
  | nil => cases h
  | cons e q ih =>
    rw [fnd] at h
    rw [del]
    by_cases hk : e.1 = k
    · rw [if_pos hk]; rfl
    · rw [if_neg hk] at h ⊢
      have := ih h
      simp only [List.length_cons]
      omega
theorem del_not {q : List Ent} {k : ByteArray} (hn : (q.map Prod.fst).Nodup) : ∀ e ∈ del q k, e.1 ≠ k := by
  induction q with
  | nil => intro e he; cases he
  | cons a q ih =>
    rw [List.map_cons, List.nodup_cons] at hn
    intro e he
    rw [del] at he
    by_cases hk : a.1 = k
    · rw [if_pos hk] at he
      intro e'
      exact hn.1 (by rw [hk, ← e']; exact List.mem_map_of_mem he)
    · rw [if_neg hk] at he
      rcases List.mem_cons.1 he with rfl | he
      · exact hk
      · exact ih hn.2 e he
theorem del_nodup {q : List Ent} {k : ByteArray} (hn : (q.map Prod.fst).Nodup) : ((del q k).map Prod.fst).Nodup := hn.sublist ((del_sub q k).map _)
theorem del_mem {q : List Ent} {k : ByteArray} {e : Ent} (h : e ∈ q) (hk : e.1 ≠ k) : e ∈ del q k := by
  induction q with
  | nil => cases h
  | cons a q ih =>
    rw [del]
    by_cases ha : a.1 = k
    · rw [if_pos ha]
      rcases List.mem_cons.1 h with rfl | h
      · exact absurd ha hk
      · exact h
    · rw [if_neg ha]
      rcases List.mem_cons.1 h with rfl | h
      · exact List.mem_cons_self ..
      · exact List.mem_cons_of_mem _ (ih h)

/-- A node of the ring: its block, its key, its program. -/
structure Nd where
  b : Nat
  k : ByteArray
  t : T
def Nd.e (x : Nd) : Ent := (x.k, x.t)
theorem split_of (l : List Nd) (k : ByteArray) :
    (fnd (l.map Nd.e) k = none ∧ ∀ x ∈ l, x.k ≠ k) ∨ ∃ A x C, l = A ++ x :: C ∧ x.k = k ∧ fnd (l.map Nd.e) k = some x.t ∧ del (l.map Nd.e) k = (A ++ C).map Nd.e := by
  induction l with
  | nil => exact .inl ⟨rfl, fun x hx => by cases hx⟩
  | cons y l ih =>
    by_cases hy : y.k = k
    · exact .inr ⟨[], y, l, rfl, hy, by rw [List.map_cons, fnd, if_pos (show (Nd.e y).1 = k from hy)]; rfl, by rw [List.map_cons, del, if_pos (show (Nd.e y).1 = k from hy)]; rfl⟩
    · rcases ih with ⟨h1, h2⟩ | ⟨A, x, C, h1, h2, h3, h4⟩
      · refine .inl ⟨by rw [List.map_cons, fnd, if_neg (show ¬ (Nd.e y).1 = k from hy), h1], fun x hx => ?_⟩
        rcases List.mem_cons.1 hx with rfl | hx
        · exact hy
        · exact h2 x hx
      · exact .inr ⟨y :: A, x, C, by rw [h1]; rfl, h2, by rw [List.map_cons, fnd, if_neg (show ¬ (Nd.e y).1 = k from hy), h3], by rw [List.map_cons, del, if_neg (show ¬ (Nd.e y).1 = k from hy), h4]; rfl⟩

end Go.Proofs.Ytbimpfciadbnjaa
