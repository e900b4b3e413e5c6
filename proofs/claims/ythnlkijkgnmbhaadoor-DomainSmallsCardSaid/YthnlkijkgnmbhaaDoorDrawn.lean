/-
  A run never takes back what it has drawn: the count of draws of a later world is not less. So a world that stands below its size as it stood, and whose streams do, is the old one with blocks behind it and draws more. Nothing is assumed.
-/
import GoSem.Step
import Derived.RunT
import Derived.StepT
import Derived.Lone
import Derived.Listen
import Derived.Calls
namespace Go.Proofs.YthnlkijkgnmbhaaDoor
open Go

def rw_ {α : Type} : Result α → World
  | .ok _ w => w
  | .halt _ w => w

theorem ask_drawn {α : Type} (a : Ask α) : ∀ w : World, w.drawn ≤ (w.ask a).2.drawn := by
  induction a with
  | done a => intro w; exact Nat.le_refl _
  | ask what range k ih =>
    intro w
    simp only [World.ask]
    split
    · exact ih 0 w
    · have h := ih ((Question.extern what range).cut (w.tape w.drawn (Question.extern what range))) { w with drawn := w.drawn + 1 }
      exact Nat.le_trans (Nat.le_succ w.drawn) h
theorem sys_drawn (w : World) (c : Sys) : w.drawn ≤ (w.sys c).2.drawn := by
  unfold World.sys
  have h := ask_drawn (Kernel.perform c w.os) w
  split
  · exact Nat.le_refl _
  · rename_i r os w' he
    rw [he] at h
    exact h
theorem viewStore_drawn (p : Program) (w : World) (a : Addr) (u : TypeId) (k : Addr) (v : Value) (b : Bool) (w' : World) (l : List Addr) (h : w.viewStore p a u k v b = .ok (w', l)) : w'.drawn = w.drawn := by
  unfold World.viewStore at h
  simp only [bind, Except.bind, pure, Except.pure] at h
  repeat' first
    | (simp at h; done)
    | (simp only [Except.ok.injEq, Prod.mk.injEq] at h; obtain ⟨rfl, _⟩ := h; rfl)
    | split at h
theorem farStore_drawn (p : Program) (w : World) (a : Addr) (v : Value) (b : Bool) (w' : World) (l : List Addr) (h : w.farStore p a v b = .ok (w', l)) : w'.drawn = w.drawn := by
  unfold World.farStore at h
  split at h
  · split at h
    · rename_i hv
      simp only [Except.ok.injEq] at h
      rw [h] at hv
      exact viewStore_drawn _ _ _ _ _ _ _ _ _ hv
    · simp at h
  · simp at h
theorem run_drawn {α : Type} (p : Program) (m : Sem α) : ∀ w : World, w.drawn ≤ (rw_ (m.run p w)).drawn := by
  induction m with
  | pure a => intro w; exact Nat.le_refl _
  | load m a k ih =>
    intro w
    unfold Sem.run
    split
    · exact ih _ w
    · split
      · exact ih _ w
      · exact Nat.le_refl _
  | store m a v k ih =>
    intro w
    have key : w.drawn ≤ (rw_ (match w.cell? a with
        | some _ => if w.frozen? a then .halt (.unsupported (.unsafePointer "a write to bytes that a string shares")) w else k.run p (w.setCell a v)
        | none => match w.farStore p a v (m == .atomic) with
          | .ok (w, _) => k.run p w
          | .error h => .halt h w)).drawn := by
      split
      · split
        · exact Nat.le_refl _
        · have h := ih (w.setCell a v)
          exact h
      · split
        · rename_i he
          rw [← farStore_drawn _ _ _ _ _ _ _ he]
          exact ih _
        · exact Nat.le_refl _
    cases v <;> first | exact Nat.le_refl _ | exact key
  | new o k ih =>
    intro w
    have h := ih w.heap.size { w with heap := w.heap.push o }
    exact h
  | shape r k ih => intro w; exact ih _ w
  | freeze a n k ih =>
    intro w
    have h : (w.freeze a n).drawn = w.drawn := by unfold World.freeze; split <;> rfl
    rw [← h]
    exact ih _
  | frozen a k ih => intro w; exact ih _ w
  | getObj r k ih =>
    intro w
    unfold Sem.run
    split
    · exact Nat.le_refl _
    · exact ih _ w
    · exact Nat.le_refl _
  | setObj r o k ih =>
    intro w
    unfold Sem.run
    split
    · exact Nat.le_refl _
    · have h := ih { w with heap := w.heap.setIfInBounds r o }
      exact h
    · exact Nat.le_refl _
  | choose q k ih =>
    intro w
    unfold Sem.run
    split
    · exact ih _ w
    · have h := ih (q.cut (w.tape w.drawn q)) { w with drawn := w.drawn + 1 }
      exact Nat.le_trans (Nat.le_succ w.drawn) h
  | sys c k ih => intro w; exact Nat.le_trans (sys_drawn w c) (ih _ _)
  | program k ih => intro w; exact ih _ w
  | mark m k ih => intro w; exact ih w
  | halt h => intro w; exact Nat.le_refl _

theorem ok_drawn {α : Type} {p : Program} {m : Sem α} {w w' : World} {a : α} (h : m.run p w = .ok a w') : w.drawn ≤ w'.drawn := by
  have := run_drawn p m w
  rw [h] at this
  exact this
theorem halt_drawn {α : Type} {p : Program} {m : Sem α} {w w' : World} {a : Halt} (h : m.run p w = .halt a w') : w.drawn ≤ w'.drawn := by
  have := run_drawn p m w
  rw [h] at this
  exact this
theorem sysr_drawn {w w' : World} {c : Sys} {r : SysRet} (h : w.sys c = (r, w')) : w.drawn ≤ w'.drawn := by
  have := sys_drawn w c
  rw [h] at this
  exact this

def gw : GStep → World
  | .go _ w _ => w
  | .comm _ _ _ _ w _ => w
  | .spawn _ _ w _ => w
  | .count _ w _ => w
  | .timer _ _ w _ => w
  | .alone _ _ w _ => w
  | .newcoro _ _ _ w _ => w
  | .coroswitch _ _ _ w _ => w
  | .collect _ w _ => w
  | .watch _ w _ => w
  | .ended _ w _ => w
theorem gw_after (es : Array Event) (s : GStep) : gw (s.after es) = gw s := by cases s <;> rfl

/-- One step further. -/
macro "dr" : tactic => `(tactic| first
  | exact Nat.le_refl _
  | exact ok_drawn (by assumption)
  | exact halt_drawn (by assumption)
  | exact sysr_drawn (by assumption))

macro "dr2" : tactic => `(tactic| first
  | exact ok_drawn (Eq.symm (by assumption))
  | exact halt_drawn (Eq.symm (by assumption)))

theorem doReturn_drawn (p : Program) (main : Bool) (fr : Frame) (cs : List Frame) (dy : Option Dying) (v : Value) (w : World) : (gw (doReturn p main fr cs dy v w)).drawn = w.drawn := by
  unfold doReturn
  repeat' first
    | rfl
    | split
theorem dieOf_drawn (fr : Frame) (a : List ByteArray) (m : String) (b : Bool) (w : World) : (gw (dieOf fr a m b w)).drawn = w.drawn := rfl
theorem endThrow_drawn (fr : Frame) (m : String) (w : World) : (gw (endThrow fr m w)).drawn = w.drawn := rfl
theorem endPrinting_drawn (p : Program) (fr : Frame) (v : Value) (w : World) : (gw (endPrinting p fr v w)).drawn = w.drawn := by
  unfold endPrinting
  simp only []
  repeat' first
    | rfl
    | split
theorem endWith_drawn (w : World) (fd : Nat) (t : ByteArray) (o : Outcome) : w.drawn ≤ (gw (endWith w fd t o)).drawn := by
  unfold endWith
  simp only []
  repeat' first
    | dr
    | split
theorem endFatal_drawn (p : Program) (fr : Frame) (cs : List Frame) (dy : Option Dying) (m : String) (w : World) : w.drawn ≤ (gw (endFatal p fr cs dy m w)).drawn := by
  have key : ∀ sh : Sem (List (ByteArray × String) × List ByteArray), w.drawn ≤ (gw (match sh.run p w with
      | .ok (texts, tabs) w => dieOf fr (panicPieces texts ++ tabs) m true w
      | .halt (.unsupported u) w => .ended (.unsupported u "") w
      | .halt _ w => .ended (.stuck "the report of a panic" "") w)).drawn := fun sh => by
    split <;> dr
  exact key _
theorem writeOn_drawn (p : Program) (fr : Frame) (d : Dying) (f : Fatal) (w : World) : w.drawn ≤ (gw (writeOn p fr d f w)).drawn := by
  unfold writeOn
  simp only []
  split
  · dr
  · rename_i piece rest _
    have key : ∀ sh : Sem Unit, w.drawn ≤ (gw (match sh.runT p w #[] with
        | (.ok _ w, es) => .go { frame := fr, callers := [], status := .running, dying := some { d with fatal := some { f with pieces := rest, begun := true } } } w es
        | (.halt .blocked w, _) => .go { frame := fr, callers := [], status := .blocked, dying := some { d with fatal := some f } } w #[]
        | (.halt (.unsupported u) w, _) => .ended (.unsupported u "") w
        | (.halt _ w, _) => .ended (.stuck "the report of a fatal error" "") w)).drawn := fun sh => by
      have h := Sem.runT_fst p sh w #[]
      split <;> rename_i he <;> rw [he] at h <;> dr2
    exact key _
set_option maxHeartbeats 1600000 in
theorem die_drawn (p : Program) (fr : Frame) (d : Dying) (w : World) : w.drawn ≤ (gw (die p fr d w)).drawn := by
  unfold die
  split
  · exact writeOn_drawn _ _ _ _ _
  split
  · split
    · dr
    · exact endWith_drawn _ _ _ _
  simp only []
  split
  · dr
  · split <;> dr
  · simp only [Sem.runT_eq, gw_after]
    generalize hr : Sem.run p _ w = r
    cases r with
    | ok a w' =>
      have h := ok_drawn hr
      split <;> first
        | (rename_i he; simp only [Result.ok.injEq] at he; obtain ⟨_, rfl⟩ := he; exact h)
        | (rename_i he; cases he; done)
        | dr
    | halt a w' =>
      have h := halt_drawn hr
      split <;> first
        | (rename_i he; simp only [Result.halt.injEq] at he; obtain ⟨_, rfl⟩ := he; first | exact h | (rw [endPrinting_drawn]; exact h))
        | (rename_i he; cases he; done)
        | dr
  · dr

end Go.Proofs.YthnlkijkgnmbhaaDoor
