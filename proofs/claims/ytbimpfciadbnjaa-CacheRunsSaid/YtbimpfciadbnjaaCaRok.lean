/-
  A range over a function whose body always goes on, where the iterator says of each thing that it hands over how it follows those before it (out of the texts of layer 19; printed by gen/ca0.py). Nothing is assumed.
-/
import Derived.Test.YtbimpfciadbnjaaScopeIn
import Derived.RangeFuncBox
import Derived.RangeFuncBound
import Derived.RangeFuncNested
import Derived.RangeFuncLeaves
import Derived.Shelf.Abstract
import Derived.Shelf.RegionOpen
import Derived.WalkKit
import Derived.OwnWalkIn
import Derived.TacticsInMore
import Derived.LoopNIn
import Derived.LoopIn
import Derived.Sort.QuietTacIn
import Derived.Sort.LoopGhostIn
import Derived.Lib.QuietBelow
namespace Go.Proofs.Ytbimpfciadbnjaa
open Go.RowKit Go.Shelf

/-- What a round over the axes keeps: the blocks below B, and one block beside. -/
def Kb (B bx : Nat) (A C : World) : Prop := Below B A C ∧ C.heap[bx]? = A.heap[bx]?
theorem Kb.refl (B bx : Nat) (A : World) : Kb B bx A A := ⟨Below.refl _ _, rfl⟩
theorem Kb.trans {B bx : Nat} {A C D : World} (h : Kb B bx A C) (k : Kb B bx C D) : Kb B bx A D := ⟨h.1.trans k.1, k.2.trans h.2⟩
theorem Kb.cell {B bx : Nat} {A C : World} (h : Kb B bx A C) (o : Nat) : C.cell? ⟨bx, o, none⟩ = A.cell? ⟨bx, o, none⟩ := World.cell?_of_block h.2
theorem Kb.put {B bx : Nat} {w : World} (hB : B ≤ w.heap.size) (hx : bx < w.heap.size) (W : World) (l : Nat) (o o' : Obj) (hl : w.heap.size ≤ l) (h : W.heap[l]? = some o) (_ : o.isCells = false) : Kb B bx W (W.putObj l o') :=
  ⟨(Below.refl B W).grown (grownBy_putObj' W l o') (by have := (Array.getElem?_eq_some_iff.1 h).1; omega) (fun k e => by cases e; omega), World.putObj_heap_other (by omega)⟩
/-- The record of a loop in a state. -/
def recL (fn : FuncId) (tmps : Array Value) (ps : Array Tmp) (assign body : Code) (d : Nat) (st : LoopState) (pe : Option Code) : Loop :=
  { state := st, pending := pe, fn := fn, tmps := tmps, params := ps, assign := assign, body := body, defers := d }
/-- What the two blocks of book-keeping hold. -/
def Books (d : Nat) (r : Loop) (W : World) : Prop := W.heap[d + 1]? = some (.loop r) ∧ W.heap[d]? = some (.deferred (some []))
theorem Books.from {d : Nat} {r : Loop} {A B : World} (h : Books d r A) (k : KeepsFrom d A B) : Books d r B := ⟨k.same _ _ (by omega) h.1 rfl, k.same _ _ (Nat.le_refl _) h.2 rfl⟩
theorem Books.below {d : Nat} {r : Loop} {A B : World} (h : Books d r A) (k : Below A.heap.size A B) : Books d r B :=
  ⟨(k.block _ (Array.getElem?_eq_some_iff.1 h.1).1).trans h.1, (k.block _ (Array.getElem?_eq_some_iff.1 h.2).1).trans h.2⟩
theorem Books.put {d : Nat} {r : Loop} {A : World} (h : Books d r A) (r' : Loop) : Books d r' (A.putObj (d + 1) (.loop r')) :=
  ⟨World.putObj_heap_same (Array.getElem?_eq_some_iff.1 h.1).1, (World.putObj_heap_other (by omega)).trans h.2⟩
theorem wpIn_range_ok {F : Fence} {n : Nat} {P : Program} {α : Type} {g : Operand} {ps : Array Tmp} {assign body : Code} {Q : Exit → Act → World → Prop} {a : Act} {w : World} (hro : F.round = none) (h1 : 1 ≤ n) {gf : Nat} {lb : Array Value}
    (hg : a.eval g = .func (.func gf) #[] lb) (hF : F.fn gf) (eg : ∀ args w, (callFunc gf args).run P w = .ok (.enter gf args) w) (encs : α → Array Value) (hps : ∀ x, (encs x).size = ps.size) (Ok : List α → α → Prop) (MS : List α) (Kp : World → World → Prop) (hKt : ∀ {A B C : World}, Kp A B → Kp B C → Kp A C) (hKb : ∀ (W : World) (l : Nat) (o o' : Obj), w.heap.size ≤ l → W.heap[l]? = some o → o.isCells = false → Kp W (W.putObj l o'))
    (hseq : ∀ (l : Nat) (J : List α → World → Prop) (W : World), Below w.heap.size w W → (∀ p A B, J p A → Below A.heap.size A B → J p B) →
      (∀ pre x A, J pre A → Ok pre x → YieldAt F (n - 1 - 1) P l (encs x) A fun e B => e = .returned (.bool true) ∧ J (pre ++ [x]) B ∧ Kp A B) → J [] W →
      CallsIn F (n - 1) P gf (#[.func (.yield l) #[] #[]] ++ lb) W fun e B => (∃ v, e = .returned v) ∧ J MS B)
    (I : List α → World → Prop) (hIb : ∀ p A B, I p A → Below A.heap.size A B → I p B) (hIo : ∀ p A l o o', I p A → w.heap.size ≤ l → A.heap[l]? = some o → o.isCells = false → I p (A.putObj l o')) (h0 : I [] w)
    (Ax : α → Act → World → Prop) (hAo : ∀ x a' A l o o', Ax x a' A → w.heap.size ≤ l → A.heap[l]? = some o → o.isCells = false → Ax x a' (A.putObj l o'))
    (hassign : ∀ (l : Nat) (pre : List α) (x : α) (A : World) (K : Act → World → Prop), I pre A → (∀ a' B, KeepsFrom w.heap.size A B → Kp A B → I pre B → Ax x a' B → K a' B) →
      assign.wpIn (F.inRound l) (n - 1 - 1) P (Exit.then K (fun _ _ _ => False)) { tmps := (ps.zip (encs x)).foldl (fun t (p, v) => t.setIfInBounds p v) a.tmps, defers := [] } A)
    (hbody : ∀ (l : Nat) (pre : List α) (x : α) (a' : Act) (A : World), I pre A → Ok pre x → Ax x a' A →
      body.wpIn (F.inRound l) (n - 1 - 1) P (fun e _ B => e = .normal ∧ KeepsFrom w.heap.size A B ∧ Kp A B ∧ I (pre ++ [x]) B) a' A)
    (hdone : ∀ W : World, I MS W → W.heap[w.heap.size]? = some (.deferred (some [])) → Q .normal { a with defers := { target := .collected w.heap.size, args := #[] } :: a.defers } W) :
    (Code.rangeFunc g ps assign body).wpIn F n P Q a w := by
  refine wpIn_rangeFunc fun fn hfn => ?_
  rw [hro]
  have hrec : ∀ st pe, recL fn a.tmps ps assign body w.heap.size st pe = { state := st, pending := pe, fn := fn, tmps := a.tmps, params := ps, assign := assign, body := body, defers := w.heap.size } := fun _ _ => rfl
  obtain ⟨W1, hW1⟩ : ∃ W1, (w.alloc (.deferred (some []))).alloc (.loop (recL fn a.tmps ps assign body w.heap.size .ready none)) = W1 := ⟨_, rfl⟩
  have hb1 : Below w.heap.size w W1 := by rw [← hW1]; exact ((Below.refl _ w).alloc (Nat.le_refl _) _).alloc (by simp) _
  have hk1 : Books w.heap.size (recL fn a.tmps ps assign body w.heap.size .ready none) W1 := by
    rw [← hW1]
    refine ⟨?_, (Below.heap_alloc _ _ _ (by simp)).trans (World.alloc_heap_new w _)⟩
    have := World.alloc_heap_new (w.alloc (.deferred (some []))) (.loop (recL fn a.tmps ps assign body w.heap.size .ready none))
    rwa [World.size_alloc] at this
  refine ⟨w.heap.size + 1, [{ target := .collected w.heap.size, args := #[] }], W1, { target := .fn (.func gf) lb, args := #[.func (.yield (w.heap.size + 1)) #[] #[]] }, W1, gf, #[.func (.yield (w.heap.size + 1)) #[] #[]] ++ lb, W1, ?_, ?_, ?_, ?_, fun _ => h1, ?_⟩
  · rw [← hW1]; exact run_enterLoop_outer _ _ _ _ _
  · simp only [resolve, hg]
    simp [go_sem]
  · intro f' hf'
    simp [Target.leads] at hf'
    exact hf' ▸ hF
  · simp [invoke, go_sem, eg]
  refine (hseq (w.heap.size + 1) (fun pre W => I pre W ∧ Books w.heap.size (recL fn a.tmps ps assign body w.heap.size .ready none) W) _ hb1 (fun p A B h k => ⟨hIb p A B h.1 k, h.2.below k⟩) ?_ ⟨hIb _ _ _ h0 (hb1), hk1⟩).mono ?_
  · rintro pre x A ⟨hi, hk⟩ hok
    refine ⟨_, _, _, _, run_yield hk.1 (hps x), roundIn_of_wpIn hfn (hassign _ pre x A _ hi fun a' B hkf hbB hiB hax => ?_)⟩
    have hkB := hk.from hkf
    refine ⟨_, run_beginRound hkB.1 rfl, ?_⟩
    have hkC := hkB.put (recL fn a.tmps ps assign body w.heap.size .busy none)
    have hbC : Kp B (B.putObj (w.heap.size + 1) (.loop (recL fn a.tmps ps assign body w.heap.size .busy none))) := hKb B _ _ _ (by omega) hkB.1 rfl
    refine wpIn_mono (hbody _ pre x a' _ (hIo _ _ _ _ _ hiB (by omega) hkB.1 rfl) hok (hAo _ _ _ _ _ _ hax (by omega) hkB.1 rfl)) ?_
    rintro e a3 C ⟨rfl, hkf2, hb2, hi2⟩
    have hkD := hkC.from hkf2
    refine ⟨_, _, run_endRound none hkD.1, rfl, ⟨hIo _ _ _ _ _ hi2 (by omega) hkD.1 rfl, hkD.put _⟩, ?_⟩
    exact hKt (hKt (hKt hbB hbC) hb2) (hKb C _ _ _ (by omega) hkD.1 rfl)
  · rintro e B ⟨⟨v, rfl⟩, hi, hk⟩
    exact ⟨none, _, run_endLoop hk.1 (by simp [recL]), hdone _ (hIo _ _ _ _ _ hi (by omega) hk.1 rfl) ((World.putObj_heap_other (by omega)).trans hk.2)⟩
end Go.Proofs.Ytbimpfciadbnjaa
