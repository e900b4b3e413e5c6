/-
  A step of the machine does not take back draws; so a call doesn't. Nothing is assumed.
-/
import Derived.Test.YthnlkijkgnmbhaaDoorDrawn2
namespace Go.Proofs.YthnlkijkgnmbhaaDoor
open Go

theorem oper_drawn (p : Program) (listen : Bool) (fr : Frame) (cs : List Frame) (dy : Option Dying) (w : World) : w.drawn ≤ (gw (stepG.oper p listen fr cs dy w)).drawn := by
  unfold stepG.oper
  split
  · exact Nat.le_refl _
  · split <;> exact apply_drawn _ _ _ _ _ _ _

set_option maxHeartbeats 6400000 in
theorem exec_drawn (p : Program) (main listen : Bool) (fr : Frame) (cs : List Frame) (dy : Option Dying) (w : World) : w.drawn ≤ (gw (stepG.exec p main listen fr cs dy w)).drawn := by
  have hleave : ∀ (b : Prop) (_ : Decidable b) (jump : Option Code), w.drawn ≤ (gw (match fr.roundOf with
      | none => if b then GStep.go { frame := { fr with mode := .returning }, callers := cs, status := .running, dying := dy } w else .ended (.stuck "exit, goto: no such block or label" (fr.pos p)) w
      | some l => GStep.after (seen p fr.fn ((Instr.endRound l jump).runT p w #[]).snd) (match ((Instr.endRound l jump).runT p w #[]).fst with
        | .ok v w => doReturn p main fr cs dy v w
        | .halt _ w => .ended (.stuck "range over a function: no such loop" (fr.pos p)) w))).drawn := fun b _ jump => by
    split
    · exact ite_gw (Nat.le_refl _) (Nat.le_refl _)
    · simp only [Sem.runT_eq, gw_after]
      split
      · exact le_eq_drawn (ok_drawn (by assumption)) (doReturn_drawn _ _ _ _ _ _ _)
      · dr
  have helim : ∀ {α : Type} (o : Option α) (x : GStep) (f : α → GStep), w.drawn ≤ (gw x).drawn → (∀ a, w.drawn ≤ (gw (f a)).drawn) → w.drawn ≤ (gw (o.elim x f)).drawn := fun o x f hx hf => by
    cases o with
    | none => exact hx
    | some a => exact hf a
  unfold stepG.exec
  simp only []
  split
  all_goals first
    | exact Nat.le_refl _
    | exact apply_drawn _ _ _ _ _ _ _
    | exact hleave _ _ _
    | exact helim _ _ _ (hleave _ _ _) (fun _ => Nat.le_refl _)
    | exact helim _ _ _ (Nat.le_refl _) (fun _ => apply_drawn _ _ _ _ _ _ _)
    | exact ite_gw (oper_drawn _ _ _ _ _ _) (Nat.le_refl _)
    | (refine ite_gw (Nat.le_refl _) ?_; split <;> dr)
    | (split <;> dr)
    | (simp only [Sem.runT_eq, gw_after]; split
       · exact Nat.le_trans (ok_drawn (by assumption)) (apply_drawn _ _ _ _ _ _ _)
       · dr)
    | (simp only [Sem.runT_eq, gw_after]; split <;> dr)

theorem stepG_drawn (p : Program) (main : Bool) (g : Goroutine) (w : World) (listen : Bool) : w.drawn ≤ (gw (stepG p main g w listen)).drawn := by
  unfold stepG
  simp only []
  split
  · exact die_drawn _ _ _ _
  · exact exec_drawn _ _ _ _ _ _ _
  · exact unwind_drawn _ _ _ _ _ _

/-- The world of a machine's step. -/
def sw : Stepped → World
  | .next m => m.world
  | .ended _ w => w

theorem waitingAt_drawn {rest : Rest} {cases : Array CommCase} {w w' : World} (h : waitingAt rest cases w = some w') : w.drawn ≤ w'.drawn := by
  unfold waitingAt at h
  split at h
  · split at h
    · simp only [Option.some.injEq] at h; subst h; exact Nat.le_refl _
    · simp at h
  · simp only [Option.some.injEq] at h; subst h; exact Nat.le_refl _

/-- One, two or three runs one after another. -/
macro "drs" : tactic => `(tactic| (try dsimp only) <;> first
  | exact Nat.le_refl _
  | exact waitingAt_drawn (by assumption)
  | exact ok_drawn (by assumption)
  | exact halt_drawn (by assumption)
  | exact Nat.le_trans (ok_drawn (by assumption)) (halt_drawn (by assumption))
  | (refine Nat.le_trans ?_ (ok_drawn (by assumption)); first | exact ok_drawn (by assumption) | (refine Nat.le_trans ?_ (ok_drawn (by assumption)); exact ok_drawn (by assumption)))
  | (refine Nat.le_trans ?_ (halt_drawn (by assumption)); exact ok_drawn (by assumption)))

set_option maxHeartbeats 6400000 in
theorem communicate_drawn (p : Program) (rest : Rest) (gs : Array Goroutine) (i : Nat) (g : Goroutine) (cases : Array CommCase) (blocking : Bool) (shape : CommShape) (w : World) (m' : Machine)
    (h : (communicate p rest gs i g cases blocking shape w).1 = .next m') : w.drawn ≤ m'.world.drawn := by
  unfold communicate at h
  simp only [] at h
  repeat' first
    | (simp at h; done)
    | (simp only [Stepped.next.injEq] at h; subst h; drs; done)
    | split at h

set_option maxHeartbeats 3200000 in
theorem look_drawn (p : Program) (gs : Array Goroutine) (rest : Rest) (w : World) (m' : Machine) (h : look p gs rest w = .next m') : w.drawn ≤ m'.world.drawn := by
  unfold look at h
  simp only [] at h
  repeat' first
    | (simp at h; done)
    | (simp only [Stepped.next.injEq] at h; subst h; drs; done)
    | split at h

theorem serve_drawn (p : Program) (m m' : Machine) (k : Nat) (h : serve p m k = .next m') : m.world.drawn ≤ m'.world.drawn := by
  unfold serve at h
  simp only [] at h
  repeat' first
    | (simp at h; done)
    | (simp only [Stepped.next.injEq] at h; subst h; exact Nat.le_refl _)
    | split at h

theorem drain_drawn (w : World) (c : Nat) : (drain w c).2.drawn = w.drawn := by
  unfold drain
  split <;> rfl
theorem retime_drawn (m : Machine) (k : Nat) (t : Timer) (a b : Nat) : (retime m k t a b).2.world.drawn = m.world.drawn := by
  unfold retime
  split
  rename_i he
  split at he
  · have := congrArg (fun x => (x.2 : World).drawn) he
    simp only [drain_drawn] at this
    exact this.symm
  · simp only [Prod.mk.injEq] at he
    obtain ⟨_, rfl⟩ := he
    rfl
theorem timerOp_drawn (m m' : Machine) (op : TimerOp) (v : Value) (h : timerOp m op = .ok (v, m')) : m'.world.drawn = m.world.drawn := by
  have hn : ∀ (m0 : Machine) (var : Addr) (f : Nat → Timer → Value × Machine) (m' : Machine) (v : Value), (∀ k t, (f k t).2.world.drawn = m0.world.drawn) → timerOp.named m var f = .ok (v, m') → m'.world.drawn = m0.world.drawn := fun m0 var f m' v hf he => by
    unfold timerOp.named at he
    split at he
    · simp only [Except.ok.injEq] at he
      rename_i k _
      have := hf k (m.rest.timers.getD k default)
      rw [he] at this
      exact this
    · simp at he
  unfold timerOp at h
  split at h
  · split at h
    · simp only [Except.ok.injEq, Prod.mk.injEq] at h; obtain ⟨_, rfl⟩ := h; rfl
    · split at h
      · split at h
        · simp at h
        · simp only [Except.ok.injEq, Prod.mk.injEq] at h; obtain ⟨_, rfl⟩ := h; rfl
      · simp at h
  · exact hn m _ _ _ _ (fun k t => retime_drawn _ _ _ _ _) h
  · split at h
    · rename_i m1 ho
      have e : m1.world.drawn = m.world.drawn := by
        unfold timerOp.opened at ho
        split at ho
        · split at ho
          · simp only [Option.some.injEq] at ho; subst ho; rfl
          · simp at ho
        · simp only [Option.some.injEq] at ho; subst ho; rfl
      rw [← e]
      exact hn m1 _ _ _ _ (fun k t => retime_drawn _ _ _ _ _) h
    · simp at h
  · simp only [Except.ok.injEq, Prod.mk.injEq] at h; obtain ⟨_, rfl⟩ := h; rfl

set_option maxHeartbeats 3200000 in
theorem runT_drawn (p : Program) (m m' : Machine) (i : Nat) (b : Bool) (h : (runT p m i b).1 = .next m') : m.world.drawn ≤ m'.world.drawn := by
  simp only [runT] at h
  revert h
  generalize m.gs.swapAt! _ _ = gg
  have hs := stepG_drawn p (i == 0) gg.1 m.world b
  generalize stepG p _ gg.1 m.world b = s at hs ⊢
  intro h
  cases s <;> simp only [gw] at h hs
  all_goals first
    | (simp at h; done)
    | exact Nat.le_trans hs (communicate_drawn _ _ _ _ _ _ _ _ _ _ h)
    | exact Nat.le_trans hs (look_drawn _ _ _ _ _ h)
    | (simp only [Stepped.next.injEq] at h; subst h; exact hs)
    | (split at h
       · simp at h; done
       · simp only [Stepped.next.injEq] at h; subst h; exact hs)
    | (repeat' first
        | (simp at h; done)
        | (simp only [Stepped.next.injEq] at h; subst h; first | exact hs | exact Nat.le_trans hs (Nat.le_of_eq (timerOp_drawn _ _ _ _ (by assumption)).symm))
        | (simp only [endThrow, dieOf, Stepped.next.injEq] at h; subst h; exact hs)
        | split at h)

/-- Runs one after another, as many as there are. -/
macro "ch" : tactic => `(tactic| repeat' first
  | exact Nat.le_refl _
  | (refine Nat.le_trans ?_ (ok_drawn (by assumption)); try dsimp only [Machine.advanceTo]))
theorem askOn_goroutine_drawn (p : Program) (m m' : Machine) (i : Nat) (h : askOn p m = .goroutine m' i) : m.world.drawn ≤ m'.world.drawn := by
  unfold askOn at h
  simp only [] at h
  repeat' first
    | (simp at h; done)
    | (simp only [Move.goroutine.injEq] at h; obtain ⟨hm, hi⟩ := h; rw [← hm]; (try dsimp only [Machine.advanceTo]); ch; done)
    | split at h
theorem askOn_machine_drawn (p : Program) (m m' : Machine) (ops : Array MemOp) (h : askOn p m = .machine (.next m') ops) : m.world.drawn ≤ m'.world.drawn := by
  unfold askOn at h
  simp only [] at h
  repeat' first
    | (simp at h; done)
    | (simp only [Move.machine.injEq] at h; have h2 := serve_drawn _ _ _ _ h.1; refine Nat.le_trans ?_ h2; (try dsimp only [Machine.advanceTo]); ch; done)
    | (simp only [Move.machine.injEq, Stepped.next.injEq] at h; obtain ⟨rfl, _⟩ := h; (try dsimp only [Machine.advanceTo]); ch; done)
    | split at h

theorem ask_drawnM (p : Program) (m : Machine) : (∃ m₂, m.world.drawn ≤ m₂.world.drawn ∧ ask p m = askOn p m₂) ∨ (∃ o w, ask p m = .machine (.ended o w) #[]) := by
  unfold ask
  split
  · split
    · exact .inr ⟨_, _, rfl⟩
    · rename_i hr
      rename_i world
      show (∃ m₂, m.world.drawn ≤ m₂.world.drawn ∧ (match look p m.gs m.rest world with | .next m => askOn p m | e => Move.machine e) = askOn p m₂) ∨
          (∃ o w, (match look p m.gs m.rest world with | .next m => askOn p m | e => Move.machine e) = .machine (.ended o w) #[])
      cases hl : look p m.gs m.rest world with
      | next m₂ => exact .inl ⟨m₂, Nat.le_trans (ok_drawn hr) (look_drawn _ _ _ _ _ hl), rfl⟩
      | ended o w => exact .inr ⟨o, w, rfl⟩
    · rename_i hr
      exact .inl ⟨_, ok_drawn hr, rfl⟩
  · exact .inl ⟨m, Nat.le_refl _, rfl⟩

theorem move_goroutine_drawn (p : Program) (m m' : Machine) (i : Nat) (h : move p m = .goroutine m' i) : m.world.drawn ≤ m'.world.drawn := by
  have ha : ∀ m₀ : Machine, ask p m₀ = .goroutine m' i → m₀.world.drawn ≤ m'.world.drawn := fun m₀ h => by
    rcases ask_drawnM p m₀ with ⟨m₂, h1, h2⟩ | ⟨o, w, h2⟩
    · rw [h2] at h; exact Nat.le_trans h1 (askOn_goroutine_drawn p m₂ m' i h)
    · rw [h2] at h; cases h
  unfold move at h
  repeat' first
    | (simp at h; done)
    | (have hh := ha _ h; exact hh)
    | (simp only [Move.goroutine.injEq] at h; obtain ⟨hm, hi⟩ := h; rw [← hm]; exact Nat.le_refl _)
    | split at h
theorem move_machine_drawn (p : Program) (m m' : Machine) (ops : Array MemOp) (h : move p m = .machine (.next m') ops) : m.world.drawn ≤ m'.world.drawn := by
  have ha : ∀ m₀ : Machine, ask p m₀ = .machine (.next m') ops → m₀.world.drawn ≤ m'.world.drawn := fun m₀ h => by
    rcases ask_drawnM p m₀ with ⟨m₂, h1, h2⟩ | ⟨o, w, h2⟩
    · rw [h2] at h; exact Nat.le_trans h1 (askOn_machine_drawn p m₂ m' ops h)
    · rw [h2] at h; simp at h
  unfold move at h
  repeat' first
    | (simp at h; done)
    | (have hh := ha _ h; exact hh)
    | split at h
theorem step_drawn (p : Program) (m m' : Machine) (h : step p m = .next m') : m.world.drawn ≤ m'.world.drawn := by
  unfold step at h
  simp only [stepT] at h
  split at h
  · rename_i m₁ i hm
    exact Nat.le_trans (move_goroutine_drawn p m m₁ i hm) (runT_drawn p m₁ m' i true h)
  · rename_i s ops hm
    simp only [] at h
    subst h
    exact move_machine_drawn p m m' ops hm
theorem runN_drawn (p : Program) : ∀ (n : Nat) (m m' : Machine), runN p n m = .next m' → m.world.drawn ≤ m'.world.drawn
  | 0, m, m', h => by simp only [runN, Stepped.next.injEq] at h; rw [h]; exact Nat.le_refl _
  | n + 1, m, m', h => by
    simp only [runN] at h
    split at h
    · rename_i m₁ hs
      exact Nat.le_trans (step_drawn p m m₁ hs) (runN_drawn p n m₁ m' h)
    · rename_i hne
      exact absurd h (hne m')

/-- What a call does not take back: its draws. -/
theorem calls_drawn {P : Program} {f : FuncId} {args : Array Value} {w : World} {R : Ending → World → Prop} (h : Calls P f args w R) (hr : ∀ w', ¬ R .outgrown w') : Calls P f args w fun e w' => R e w' ∧ w.drawn ≤ w'.drawn := fun cs => by
  obtain ⟨e, w', fr, h1, h2, h3⟩ := h cs
  refine ⟨e, w', fr, ⟨h1, ?_⟩, h2, h3⟩
  cases e with
  | returned v => obtain ⟨n, hn⟩ := h2; exact runN_drawn P n _ _ hn
  | panicked c => obtain ⟨n, hn⟩ := h2; exact runN_drawn P n _ _ hn
  | outgrown => exact absurd h1 (hr w')

end Go.Proofs.YthnlkijkgnmbhaaDoor
