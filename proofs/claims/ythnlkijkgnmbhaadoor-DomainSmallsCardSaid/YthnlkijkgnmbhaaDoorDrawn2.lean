/-
  A step of a goroutine does not take back draws. Nothing is assumed.
-/
import Derived.Test.YthnlkijkgnmbhaaDoorDrawn
namespace Go.Proofs.YthnlkijkgnmbhaaDoor
open Go

theorem le_of_eq_drawn {a b : World} (h : b.drawn = a.drawn) : a.drawn ≤ b.drawn := Nat.le_of_eq h.symm
theorem le_eq_drawn {a b : World} {c : Nat} (h : a.drawn ≤ b.drawn) (e : c = b.drawn) : a.drawn ≤ c := by rw [e]; exact h

theorem ite_gw {n : Nat} {c : Prop} [Decidable c] {a b : GStep} (ha : n ≤ (gw a).drawn) (hb : n ≤ (gw b).drawn) : n ≤ (gw (if c then a else b)).drawn := by split <;> assumption

set_option maxHeartbeats 3200000 in
theorem callDeferred_drawn (p : Program) (fr : Frame) (cs : List Frame) (dy : Option Dying) (d : Deferred) (w : World) : w.drawn ≤ (gw (callDeferred p fr cs dy d w)).drawn := by
  unfold callDeferred
  refine ite_gw (Nat.le_refl _) ?_
  simp only [Sem.runT_eq, gw_after]
  generalize hr : Sem.run p _ w = r
  cases r with
  | ok a w' =>
    have h := ok_drawn hr
    clear hr
    cases a <;> first
      | exact h
      | (simp only []; split <;> exact h)
      | (simp only []; split <;> first | exact h | (split <;> exact h))
      | (rename_i b c; first | (cases b with | true => exact h | false => exact h) | (cases c with | true => exact h | false => exact h))
  | halt a w' =>
    have h := halt_drawn hr
    clear hr
    cases a <;> first
      | exact h
      | exact Nat.le_trans h (endFatal_drawn _ _ _ _ _ _)

set_option maxHeartbeats 3200000 in
theorem unwind_drawn (p : Program) (main : Bool) (fr : Frame) (cs : List Frame) (dy : Option Dying) (w : World) : w.drawn ≤ (gw (unwind p main fr cs dy w)).drawn := by
  unfold unwind
  split
  · simp only [Sem.runT_eq, gw_after]
    split <;> dr
  · exact callDeferred_drawn _ _ _ _ _ _
  · split
    · dr
    · split
      · dr
      split
      · dr
      split
      · split
        · dr
        split <;> dr
      · split
        · exact Nat.le_of_eq (endPrinting_drawn _ _ _ _).symm
        · dr
    · split
      · exact Nat.le_of_eq (doReturn_drawn _ _ _ _ _ _ _).symm
      · simp only [Sem.runT_eq, gw_after]
        split
        · exact le_eq_drawn (ok_drawn (by assumption)) (doReturn_drawn _ _ _ _ _ _ _)
        · dr
        · dr

set_option maxHeartbeats 3200000 in
theorem early_drawn (p : Program) (fr : Frame) (cs : List Frame) (dy : Option Dying) (g : Nat) (w : World) : w.drawn ≤ (gw (early p fr cs dy g w)).drawn := by
  have hn : ∀ w : World, (gw (match w.heap[g]? with
      | some (.pending c elem) => .go { frame := fr, callers := cs, status := .running, dying := dy } { w with heap := w.heap.setIfInBounds g (.cells c elem) }
      | _ => .ended (.stuck "early: the variable does not wait" (fr.pos p)) w)).drawn = w.drawn := fun w => by split <;> rfl
  unfold early
  simp only []
  split
  · exact Nat.le_of_eq (hn w).symm
  split
  · dr
  split
  · exact Nat.le_of_eq (hn w).symm
  split
  · exact Nat.le_of_eq (hn w).symm
  split
  · dr
  · dr
  · dr
  · exact Nat.le_of_eq (hn w).symm
  · split
    · dr
    split
    · exact Nat.le_of_eq (hn w).symm
    split
    · exact le_eq_drawn (ok_drawn (by assumption)) (hn _)
    · dr
    · dr

set_option maxHeartbeats 6400000 in
theorem apply_drawn (p : Program) (listen : Bool) (fr : Frame) (cs : List Frame) (dy : Option Dying) (s : Sem Next) (w : World) : w.drawn ≤ (gw (stepG.apply p listen fr cs dy s w)).drawn := by
  unfold stepG.apply
  have hl : ∀ b : Bool, (if b then s.runT p w #[] else (s.run p w, #[])).1 = s.run p w := fun b => by cases b <;> simp
  simp only [gw_after]
  generalize he : (if listen = true then s.runT p w #[] else (s.run p w, #[])) = re
  have h1 := hl listen
  rw [he] at h1
  obtain ⟨r, es⟩ := re
  simp only [] at h1 ⊢
  clear he hl
  cases r with
  | ok a w' =>
    have h := ok_drawn h1.symm
    clear h1
    try simp only [gw_after]
    cases a <;> first
      | exact h
      | (simp only []; split <;> exact h)
      | (simp only []; split <;> first | exact h | (split <;> exact h))
  | halt a w' =>
    have h := halt_drawn h1.symm
    clear h1
    try simp only [gw_after]
    cases a <;> first
      | exact h
      | exact Nat.le_trans h (endFatal_drawn _ _ _ _ _ _)
      | (rename_i u; cases u <;> first | exact h | exact Nat.le_trans h (early_drawn _ _ _ _ _ _))

end Go.Proofs.YthnlkijkgnmbhaaDoor
