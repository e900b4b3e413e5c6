/-
  A greater cache has what a smaller one has: the plain mathematics. Nothing is assumed.
-/
import Derived.Test.YtbimpfciadbnjaaCaGet
namespace Go.Proofs.Ytbimpfciadbnjaa
open Go.RowKit

theorem del_filter {q : List Ent} (hn : (q.map Prod.fst).Nodup) (k : ByteArray) : del q k = q.filter fun e => decide (e.1 ≠ k) := by
  induction q with
  | nil => rfl
  | cons a q ih =>
    rw [List.map_cons, List.nodup_cons] at hn
    rw [del, List.filter_cons]
    by_cases h : a.1 = k
    · rw [if_pos h, if_neg (by simp [h])]
      refine (List.filter_eq_self.2 fun e he => ?_).symm
      have hne : e.1 ≠ k := fun e' => hn.1 (by rw [h, ← e']; exact List.mem_map_of_mem he)
      simp [hne]
    · rw [if_neg h, if_pos (by simp [h]), ih hn.2]
theorem not_fnd_filter {q : List Ent} {k : ByteArray} (h : fnd q k = none) : (q.filter fun e => decide (e.1 ≠ k)) = q :=
  List.filter_eq_self.2 fun e he => by simp [fnd_none.1 h e he]
theorem dropLast_mono {α : Type} {l m : List α} (h : l.Sublist m) : l.dropLast.Sublist m.dropLast := by
  induction h with
  | slnil => exact List.Sublist.refl _
  | @cons l m a h ih =>
    cases m with
    | nil =>
      cases h
      exact List.Sublist.refl _
    | cons b m => rw [List.dropLast_cons_of_ne_nil (by simp)]; exact ih.cons a
  | @cons_cons l m a h ih =>
    cases l with
    | nil => exact List.nil_sublist _
    | cons c l =>
      cases m with
      | nil => cases h
      | cons b m =>
        show (a :: (c :: l).dropLast).Sublist (a :: (b :: m).dropLast)
        exact ih.cons_cons a

/-- The smaller cache's list is a part of the greater one's, in its order; and it is full, or the same. -/
def Inc (ca : Nat) (qa qb : List Ent) : Prop := qa.Sublist qb ∧ (qa.length = ca ∨ qa = qb)
theorem Inc.fnd {ca : Nat} {qa qb : List Ent} (h : Inc ca qa qb) (hn : (qb.map Prod.fst).Nodup) {k : ByteArray} {t : T} (hf : Proofs.Ytbimpfciadbnjaa.fnd qa k = some t) : Proofs.Ytbimpfciadbnjaa.fnd qb k = some t := fnd_of_mem hn (h.1.subset (fnd_mem hf))
theorem Inc.use {ca : Nat} {qa qb : List Ent} (h : Inc ca qa qb) (hn : (qb.map Prod.fst).Nodup) (k : ByteArray) : Inc ca (useQ qa k) (useQ qb k) := by
  have hna : (qa.map Prod.fst).Nodup := hn.sublist (h.1.map _)
  cases hf : Proofs.Ytbimpfciadbnjaa.fnd qa k with
  | some t =>
    have hg := h.fnd hn hf
    rw [useQ_some hf, useQ_some hg]
    refine ⟨?_, ?_⟩
    · rw [del_filter hna, del_filter hn]
      exact (h.1.filter _).cons_cons _
    · rcases h.2 with h2 | h2
      · left
        have := del_len hf
        simp
        omega
      · right; rw [h2]
  | none =>
    rw [useQ_none hf]
    cases hg : Proofs.Ytbimpfciadbnjaa.fnd qb k with
    | none => rw [useQ_none hg]; exact h
    | some t =>
      have hne : qa ≠ qb := fun e => by rw [e, hg] at hf; cases hf
      rw [useQ_some hg]
      refine ⟨?_, .inl (h.2.resolve_right hne)⟩
      rw [del_filter hn]
      have h1 := h.1.filter fun e => decide (e.1 ≠ k)
      rw [not_fnd_filter hf] at h1
      exact h1.cons _
theorem Inc.put {ca cb : Nat} {qa qb : List Ent} (h : Inc ca qa qb) (hn : (qb.map Prod.fst).Nodup) (hc : ca ≤ cb) (h1 : 1 ≤ ca) (hla : qa.length ≤ ca) (k : ByteArray) (t : T) : Inc ca (putQ ca qa k t) (putQ cb qb k t) := by
  have hna : (qa.map Prod.fst).Nodup := hn.sublist (h.1.map _)
  cases hf : Proofs.Ytbimpfciadbnjaa.fnd qa k with
  | some u =>
    have hg := h.fnd hn hf
    unfold putQ
    rw [hf, hg]
    simp only [Option.isSome_some, if_true]
    refine ⟨?_, ?_⟩
    · rw [del_filter hna, del_filter hn]
      exact (h.1.filter _).cons_cons _
    · rcases h.2 with h2 | h2
      · left
        have := del_len hf
        simp
        omega
      · right; rw [h2]
  | none =>
    cases hg : Proofs.Ytbimpfciadbnjaa.fnd qb k with
    | some u =>
      have hne : qa ≠ qb := fun e => by rw [e, hg] at hf; cases hf
      have hl := h.2.resolve_right hne
      unfold putQ
      rw [hf, hg]
      simp only [Option.isSome_some, Option.isSome_none, if_true, Bool.false_eq_true, if_false, hl]
      refine ⟨?_, .inl ?_⟩
      · rw [del_filter hn]
        have h2 := h.1.filter fun e => decide (e.1 ≠ k)
        rw [not_fnd_filter hf] at h2
        exact ((List.dropLast_sublist qa).trans h2).cons_cons _
      · simp; omega
    | none =>
      unfold putQ
      rw [hf, hg]
      simp only [Option.isSome_none, Bool.false_eq_true, if_false]
      by_cases hl : qa.length = ca
      · rw [if_pos hl]
        refine ⟨?_, .inl (by simp; omega)⟩
        split
        · exact (dropLast_mono h.1).cons_cons _
        · exact ((List.dropLast_sublist qa).trans h.1).cons_cons _
      · have he : qa = qb := h.2.resolve_left hl
        rw [if_neg hl, if_neg (by rw [← he]; omega), he]
        exact ⟨List.Sublist.refl _, .inr rfl⟩
theorem Inc.start (ca : Nat) : Inc ca [] [] := ⟨List.Sublist.refl _, .inr rfl⟩

end Go.Proofs.Ytbimpfciadbnjaa
