/-
  Two rows of a table exchanged. Nothing is assumed.
-/
import Derived.Test.YtampofpllijfhaaTbFill
import Derived.Test.YtampofpllijfhaaTbSortP
namespace Go.Proofs.Ytampofpllijfhaa
open Go.RowKit

def sig (p i : Nat) : Nat := if i = p then p + 1 else if i = p + 1 then p else i
theorem sig_inj {p i j : Nat} (h : i ≠ j) : sig p i ≠ sig p j := by
  unfold sig
  split <;> split <;> (try split) <;> (try split) <;> omega
theorem get_sig {α : Type} (A C : List α) (a b : α) (i : Nat) : (A ++ b :: a :: C)[i]? = (A ++ a :: b :: C)[sig A.length i]? := by
  unfold sig
  by_cases h0 : i < A.length
  · rw [if_neg (by omega), if_neg (by omega), List.getElem?_append_left h0, List.getElem?_append_left h0]
  · by_cases h1 : i = A.length
    · subst h1
      rw [if_pos rfl, List.getElem?_append_right (Nat.le_refl _), List.getElem?_append_right (by omega)]
      simp
    · rw [if_neg h1]
      by_cases h2 : i = A.length + 1
      · subst h2
        rw [if_pos rfl, List.getElem?_append_right (by omega), List.getElem?_append_right (Nat.le_refl _)]
        simp
      · rw [if_neg h2, List.getElem?_append_right (by omega), List.getElem?_append_right (by omega)]
        obtain ⟨m, rfl⟩ : ∃ m, i = A.length + (m + 2) := ⟨i - A.length - 2, by omega⟩
        rw [Nat.add_sub_cancel_left]
        rfl
theorem set_sig {xs : List Value} {p : Nat} {x1 x2 : Value} (h1 : xs[p]? = some x1) (h2 : xs[p + 1]? = some x2) (i : Nat) : ((xs.set p x2).set (p + 1) x1)[i]? = xs[sig p i]? := by
  have l1 := (List.getElem?_eq_some_iff.1 h1).1
  have l2 := (List.getElem?_eq_some_iff.1 h2).1
  unfold sig
  by_cases e1 : i = p
  · subst e1
    rw [if_pos rfl, List.getElem?_set_ne (by omega), List.getElem?_set_self l1, h2]
  · rw [if_neg e1]
    by_cases e2 : i = p + 1
    · subst e2
      rw [if_pos rfl, List.getElem?_set_self (by rw [List.length_set]; exact l2), h1]
    · rw [if_neg e2, List.getElem?_set_ne (by omega), List.getElem?_set_ne (by omega)]
theorem AccD.swap {w : World} {base n cv : Nat} {oa : Option Addr} {A C : Tab} {a b : Row} (h : AccD w base (.slice oa n cv) (A ++ a :: b :: C)) :
    ∃ (gv : Nat) (o1 : Option Addr) (c1 : Nat) (o2 : Option Addr) (c2 : Nat), oa = some ⟨gv, 0, none⟩ ∧ base ≤ gv ∧ gv < w.heap.size ∧ w.cell? ⟨gv, A.length, none⟩ = some (.slice o1 a.length c1) ∧ w.cell? ⟨gv, A.length + 1, none⟩ = some (.slice o2 b.length c2) ∧
      HoldsS w (· < w.heap.size) (.slice o1 a.length c1) a ∧ HoldsS w (· < w.heap.size) (.slice o2 b.length c2) b ∧ w.frozen? ⟨gv, A.length, none⟩ = false ∧ w.frozen? ⟨gv, A.length + 1, none⟩ = false ∧
      AccD ((w.setCell ⟨gv, A.length, none⟩ (.slice o2 b.length c2)).setCell ⟨gv, A.length + 1, none⟩ (.slice o1 a.length c1)) base (.slice oa n cv) (A ++ b :: a :: C) ∧
      AccD ((w.setCell ⟨gv, A.length + 1, none⟩ (.slice o1 a.length c1)).setCell ⟨gv, A.length, none⟩ (.slice o2 b.length c2)) base (.slice oa n cv) (A ++ b :: a :: C) := by
  obtain ⟨xs, hl, ho, hr, h1, h2⟩ := h
  have hlen : (A ++ a :: b :: C).length = A.length + (C.length + 2) := by simp
  have hlen' : (A ++ b :: a :: C).length = A.length + (C.length + 2) := by simp
  rcases owns_cells ho hl with ⟨h0, h3⟩ | ⟨gv, cap, hv, hg, hlt, hcap, hmx, hel⟩
  · omega
  obtain ⟨rfl, hn, rfl⟩ : oa = some ⟨gv, 0, none⟩ ∧ n = (A ++ a :: b :: C).length ∧ cv = cap := by simpa using hv
  obtain ⟨x1, hx1⟩ : ∃ x, xs[A.length]? = some x := ⟨_, List.getElem?_eq_getElem (by omega)⟩
  obtain ⟨x2, hx2⟩ : ∃ x, xs[A.length + 1]? = some x := ⟨_, List.getElem?_eq_getElem (by omega)⟩
  have t1 : (A ++ a :: b :: C)[A.length]? = some a := by rw [List.getElem?_append_right (Nat.le_refl _)]; simp
  have t2 : (A ++ a :: b :: C)[A.length + 1]? = some b := by rw [List.getElem?_append_right (by omega)]; simp
  have r1 := hr _ _ _ hx1 t1
  have r2 := hr _ _ _ hx2 t2
  obtain ⟨o1, c1, rfl⟩ : ∃ o c, x1 = .slice o a.length c := owns_form r1
  obtain ⟨o2, c2, rfl⟩ : ∃ o c, x2 = .slice o b.length c := owns_form r2
  have hoth : ∀ (W : World) (u : Value) (m : Nat), (∀ (i : Nat) x r, xs[i]? = some x → (A ++ a :: b :: C)[i]? = some r → OwnS W base x r) → ∀ (i : Nat) x r, xs[i]? = some x → (A ++ a :: b :: C)[i]? = some r → OwnS (W.setCell ⟨gv, m, none⟩ u) base x r := fun W u m hW i x r hx hrr =>
    owns_other (hW i x r hx hrr) _ (by intro e; exact h1 i x gv hx e rfl)
  have key : ∀ W : World, W.ownsRow base 29 1 (.slice (some ⟨gv, 0, none⟩) n cv) n ((xs.set A.length (.slice o2 b.length c2)).set (A.length + 1) (.slice o1 a.length c1)) → (∀ (i : Nat) x r, xs[i]? = some x → (A ++ a :: b :: C)[i]? = some r → OwnS W base x r) →
      AccD W base (.slice (some ⟨gv, 0, none⟩) n cv) (A ++ b :: a :: C) := fun W hW hWr => by
    refine ⟨(xs.set A.length (.slice o2 b.length c2)).set (A.length + 1) (.slice o1 a.length c1), by rw [List.length_set, List.length_set, hl, hlen, hlen'], by rw [hlen', ← hlen, ← hn]; exact hW, fun i x r hx hrr => ?_, fun i x q hx hq => ?_, fun i j x y q hx hy hij hq => ?_⟩
    · rw [set_sig hx1 hx2] at hx
      rw [get_sig] at hrr
      exact hWr _ x r hx hrr
    · rw [set_sig hx1 hx2] at hx
      exact h1 _ x q hx hq
    · rw [set_sig hx1 hx2] at hx hy
      exact h2 _ _ x y q hx hy (sig_inj hij) hq
  rw [← hn] at ho
  refine ⟨gv, o1, c1, o2, c2, rfl, hg, hlt, hel _ _ hx1, hel _ _ hx2, r1.holds.all, r2.holds.all, World.ownsRow.frozenAt ho _, World.ownsRow.frozenAt ho _, key _ ?_ ?_, key _ ?_ ?_⟩
  · exact (World.ownsRow.stored (World.ownsRow.stored ho A.length (.slice o2 b.length c2)).1 (A.length + 1) (.slice o1 a.length c1)).1
  · exact hoth _ _ _ (hoth _ _ _ hr)
  · have := (World.ownsRow.stored (World.ownsRow.stored ho (A.length + 1) (.slice o1 a.length c1)).1 A.length (.slice o2 b.length c2)).1
    rw [List.set_comm _ _ (by omega)] at this
    exact this
  · exact hoth _ _ _ (hoth _ _ _ hr)

end Go.Proofs.Ytampofpllijfhaa
