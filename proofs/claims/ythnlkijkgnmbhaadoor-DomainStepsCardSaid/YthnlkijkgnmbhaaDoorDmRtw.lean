/-
  A range over a function whose body may return; and one whose iterator makes new memory for each thing that it hands over. Nothing is assumed.
-/
import Derived.Test.YthnlkijkgnmbhaaDoorDmRok
namespace Go.Proofs.YthnlkijkgnmbhaaDoor
open Go.RowKit Go.Shelf

theorem wpIn_range_two {F : Fence} {n : Nat} {P : Program} {α : Type} {g : Operand} {ps : Array Tmp} {assign body : Code} {Q : Exit → Act → World → Prop} {a : Act} {w : World} (hro : F.round = none) (h1 : 1 ≤ n) {gf : Nat} {lb : Array Value}
    (hg : a.eval g = .func (.func gf) #[] lb) (hF : F.fn gf) (eg : ∀ args w, (callFunc gf args).run P w = .ok (.enter gf args) w) (encs : α → Array Value) (hps : ∀ x, (encs x).size = ps.size) (Ok : List α → α → Prop) (MS : List α) (Kp : World → World → Prop) (hKt : ∀ {A B C : World}, Kp A B → Kp B C → Kp A C) (hKb : ∀ (W : World) (l : Nat) (o o' : Obj), w.heap.size ≤ l → W.heap[l]? = some o → o.isCells = false → Kp W (W.putObj l o'))
    (hseq : ∀ (l : Nat) (J Jx : List α → World → Prop) (W : World), Below w.heap.size w W → (∀ p A B, J p A → Below A.heap.size A B → J p B) →
      (∀ pre x A, J pre A → Ok pre x → YieldAt F (n - 1 - 1) P l (encs x) A fun e B => (e = .returned (.bool true) ∧ J (pre ++ [x]) B ∧ Kp A B) ∨ (e = .returned (.bool false) ∧ Jx (pre ++ [x]) B)) → J [] W →
      CallsIn F (n - 1) P gf (#[.func (.yield l) #[] #[]] ++ lb) W fun e B => (∃ v, e = .returned v) ∧ (J MS B ∨ ∃ pre, Jx pre B))
    (I Ix : List α → World → Prop) (hIb : ∀ p A B, I p A → Below A.heap.size A B → I p B) (hIo : ∀ p A l o o', I p A → w.heap.size ≤ l → A.heap[l]? = some o → o.isCells = false → I p (A.putObj l o')) (hXo : ∀ p A l o o', Ix p A → w.heap.size ≤ l → A.heap[l]? = some o → o.isCells = false → Ix p (A.putObj l o')) (h0 : I [] w)
    (Ax : α → Act → World → Prop) (hAo : ∀ x a' A l o o', Ax x a' A → w.heap.size ≤ l → A.heap[l]? = some o → o.isCells = false → Ax x a' (A.putObj l o'))
    (hassign : ∀ (l : Nat) (pre : List α) (x : α) (A : World) (K : Act → World → Prop), I pre A → (∀ a' B, KeepsFrom w.heap.size A B → Kp A B → I pre B → Ax x a' B → K a' B) →
      assign.wpIn (F.inRound l) (n - 1 - 1) P (Exit.then K (fun _ _ _ => False)) { tmps := (ps.zip (encs x)).foldl (fun t (p, v) => t.setIfInBounds p v) a.tmps, defers := [] } A)
    (hbody : ∀ (l : Nat) (pre : List α) (x : α) (a' : Act) (A : World), I pre A → Ok pre x → Ax x a' A →
      body.wpIn (F.inRound l) (n - 1 - 1) P (fun e _ B => (e = .normal ∧ KeepsFrom w.heap.size A B ∧ Kp A B ∧ I (pre ++ [x]) B) ∨ (e = .ret ∧ KeepsFrom w.heap.size A B ∧ Ix (pre ++ [x]) B)) a' A)
    (hdone : ∀ W : World, I MS W → W.heap[w.heap.size]? = some (.deferred (some [])) → Q .normal { a with defers := { target := .collected w.heap.size, args := #[] } :: a.defers } W)
    (hstop : ∀ (pre : List α) (W : World), Ix pre W → W.heap[w.heap.size]? = some (.deferred (some [])) → Code.ret.wpIn F n P Q { a with defers := { target := .collected w.heap.size, args := #[] } :: a.defers } W) :
    (Code.rangeFunc g ps assign body).wpIn F n P Q a w := by
  refine wpIn_rangeFunc fun fn hfn => ?_
  rw [hro]
  obtain ⟨W1, hW1⟩ : ∃ W1, (w.alloc (.deferred (some []))).alloc (.loop (recL fn a.tmps ps assign body w.heap.size .ready none)) = W1 := ⟨_, rfl⟩
  have hb1 : Below w.heap.size w W1 := by rw [← hW1]; exact ((Below.refl _ w).alloc (Nat.le_refl _) _).alloc (by simp) _
  have hk1 : Books w.heap.size (recL fn a.tmps ps assign body w.heap.size .ready none) W1 := by
    rw [← hW1]
    refine ⟨?_, (Below.heap_alloc _ _ _ (by simp)).trans (World.alloc_heap_new w _)⟩
    have := World.alloc_heap_new (w.alloc (.deferred (some []))) (.loop (recL fn a.tmps ps assign body w.heap.size .ready none))
    rwa [World.size_alloc] at this
  refine ⟨w.heap.size + 1, [{ target := .collected w.heap.size, args := #[] }], W1, { target := .fn (.func gf) lb, args := #[.func (.yield (w.heap.size + 1)) #[] #[]] }, W1, gf, #[.func (.yield (w.heap.size + 1)) #[] #[]] ++ lb, W1, ?_, ?_, ?_, ?_, fun _ => h1, ?_⟩
  · rw [← hW1]; exact run_enterLoop_outer _ _ _ _ _
  · simp only [resolve, hg]
    simp [go_sem]
  · intro f' hf'
    simp [Target.leads] at hf'
    exact hf' ▸ hF
  · simp [invoke, go_sem, eg]
  refine (hseq (w.heap.size + 1) (fun pre W => I pre W ∧ Books w.heap.size (recL fn a.tmps ps assign body w.heap.size .ready none) W) (fun pre W => Ix pre W ∧ Books w.heap.size (recL fn a.tmps ps assign body w.heap.size .done (some .ret)) W) _ hb1 (fun p A B h k => ⟨hIb p A B h.1 k, h.2.below k⟩) ?_ ⟨hIb _ _ _ h0 (hb1), hk1⟩).mono ?_
  · rintro pre x A ⟨hi, hk⟩ hok
    refine ⟨_, _, _, _, run_yield hk.1 (hps x), roundIn_of_wpIn hfn (hassign _ pre x A _ hi fun a' B hkf hbB hiB hax => ?_)⟩
    have hkB := hk.from hkf
    refine ⟨_, run_beginRound hkB.1 rfl, ?_⟩
    have hkC := hkB.put (recL fn a.tmps ps assign body w.heap.size .busy none)
    have hbC : Kp B (B.putObj (w.heap.size + 1) (.loop (recL fn a.tmps ps assign body w.heap.size .busy none))) := hKb B _ _ _ (by omega) hkB.1 rfl
    refine wpIn_mono (hbody _ pre x a' _ (hIo _ _ _ _ _ hiB (by omega) hkB.1 rfl) hok (hAo _ _ _ _ _ _ hax (by omega) hkB.1 rfl)) ?_
    rintro e a3 C (⟨rfl, hkf2, hb2, hi2⟩ | ⟨rfl, hkf2, hi2⟩)
    · have hkD := hkC.from hkf2
      exact ⟨_, _, run_endRound none hkD.1, .inl ⟨rfl, ⟨hIo _ _ _ _ _ hi2 (by omega) hkD.1 rfl, hkD.put _⟩, hKt (hKt (hKt hbB hbC) hb2) (hKb C _ _ _ (by omega) hkD.1 rfl)⟩⟩
    · have hkD := hkC.from hkf2
      exact ⟨_, _, run_endRound (some .ret) hkD.1, .inr ⟨rfl, hXo _ _ _ _ _ hi2 (by omega) hkD.1 rfl, hkD.put _⟩⟩
  · rintro e B ⟨⟨v, rfl⟩, (⟨hi, hk⟩ | ⟨pre, hi, hk⟩)⟩
    · exact ⟨none, _, run_endLoop hk.1 (by simp [recL]), hdone _ (hIo _ _ _ _ _ hi (by omega) hk.1 rfl) ((World.putObj_heap_other (by omega)).trans hk.2)⟩
    · exact ⟨some .ret, _, run_endLoop hk.1 (by simp [recL]), hstop _ _ (hXo _ _ _ _ _ hi (by omega) hk.1 rfl) ((World.putObj_heap_other (by omega)).trans hk.2)⟩

/-- A body that always goes on; the iterator makes each thing anew (Ok says how it lies in the world A, which is later than A0), has a block g of its own that it changes between two rounds, and in the end it has handed over a list of which it says something. -/
theorem wpIn_range_priv {F : Fence} {n : Nat} {P : Program} {α : Type} {g : Operand} {ps : Array Tmp} {assign body : Code} {Q : Exit → Act → World → Prop} {a : Act} {w : World} (hro : F.round = none) (h1 : 1 ≤ n) {gf : Nat} {lb : Array Value}
    (hg : a.eval g = .func (.func gf) #[] lb) (hF : F.fn gf) (eg : ∀ args w, (callFunc gf args).run P w = .ok (.enter gf args) w) (encs : α → Array Value) (hps : ∀ x, (encs x).size = ps.size) (Ok : List α → α → World → World → Prop) (Fin : List α → Prop) (Kp : Nat → World → World → Prop) (hKt : ∀ {g : Nat} {A B C : World}, Kp g A B → Kp g B C → Kp g A C)
    (hKb : ∀ (g : Nat) (W : World) (o o' : Obj), w.heap.size + 2 ≤ g → W.heap[w.heap.size + 1]? = some o → Kp g W (W.putObj (w.heap.size + 1) o'))
    (hseq : ∀ (l : Nat) (J : Nat → List α → World → Prop) (W : World), Below w.heap.size w W → w.heap.size + 2 ≤ W.heap.size →
      (∀ g p A B, W.heap.size ≤ g → J g p A → (∀ b, b < A.heap.size → b ≠ g → B.heap[b]? = A.heap[b]?) → Below g A B → J g p B) →
      (∀ g pre x A0 A, W.heap.size ≤ g → g < A0.heap.size → J g pre A0 → Below A0.heap.size A0 A → Ok pre x A0 A → YieldAt F (n - 1 - 1) P l (encs x) A fun e B => e = .returned (.bool true) ∧ J g (pre ++ [x]) B ∧ Kp g A B) →
      (∀ g A, W.heap.size ≤ g → Below W.heap.size W A → J g [] A) →
      CallsIn F (n - 1) P gf (#[.func (.yield l) #[] #[]] ++ lb) W fun e B => (∃ v, e = .returned v) ∧ ∃ g MS, W.heap.size ≤ g ∧ Fin MS ∧ J g MS B)
    (I : Nat → List α → World → Prop) (hIb : ∀ g p A B, w.heap.size + 2 ≤ g → I g p A → (∀ b, b < A.heap.size → b ≠ g → B.heap[b]? = A.heap[b]?) → Below g A B → I g p B)
    (hIo : ∀ g p A o', w.heap.size + 2 ≤ g → I g p A → I g p (A.putObj (w.heap.size + 1) o')) (h0 : ∀ g A, w.heap.size + 2 ≤ g → Below w.heap.size w A → I g [] A)
    (Ax : Nat → List α → α → Act → World → Prop) (hAo : ∀ g p x a' A o o', Ax g p x a' A → A.heap[w.heap.size + 1]? = some o → o.isCells = false → Ax g p x a' (A.putObj (w.heap.size + 1) o'))
    (hassign : ∀ (l g : Nat) (pre : List α) (x : α) (A0 A : World) (K : Act → World → Prop), w.heap.size + 2 ≤ g → g < A0.heap.size → I g pre A0 → I g pre A → Below A0.heap.size A0 A → Ok pre x A0 A → (∀ a' B, KeepsFrom w.heap.size A B → Kp g A B → I g pre B → Ax g pre x a' B → K a' B) →
      assign.wpIn (F.inRound l) (n - 1 - 1) P (Exit.then K (fun _ _ _ => False)) { tmps := (ps.zip (encs x)).foldl (fun t (p, v) => t.setIfInBounds p v) a.tmps, defers := [] } A)
    (hbody : ∀ (l g : Nat) (pre : List α) (x : α) (a' : Act) (A : World), w.heap.size + 2 ≤ g → I g pre A → Ax g pre x a' A →
      body.wpIn (F.inRound l) (n - 1 - 1) P (fun e _ B => e = .normal ∧ KeepsFrom w.heap.size A B ∧ Kp g A B ∧ I g (pre ++ [x]) B) a' A)
    (hdone : ∀ (g : Nat) (MS : List α) (W : World), w.heap.size + 2 ≤ g → Fin MS → I g MS W → W.heap[w.heap.size]? = some (.deferred (some [])) → Q .normal { a with defers := { target := .collected w.heap.size, args := #[] } :: a.defers } W) :
    (Code.rangeFunc g ps assign body).wpIn F n P Q a w := by
  refine wpIn_rangeFunc fun fn hfn => ?_
  rw [hro]
  obtain ⟨W1, hW1⟩ : ∃ W1, (w.alloc (.deferred (some []))).alloc (.loop (recL fn a.tmps ps assign body w.heap.size .ready none)) = W1 := ⟨_, rfl⟩
  have hb1 : Below w.heap.size w W1 := by rw [← hW1]; exact ((Below.refl _ w).alloc (Nat.le_refl _) _).alloc (by simp) _
  have hs1 : W1.heap.size = w.heap.size + 2 := by rw [← hW1]; simp
  have hk1 : Books w.heap.size (recL fn a.tmps ps assign body w.heap.size .ready none) W1 := by
    rw [← hW1]
    refine ⟨?_, (Below.heap_alloc _ _ _ (by simp)).trans (World.alloc_heap_new w _)⟩
    have := World.alloc_heap_new (w.alloc (.deferred (some []))) (.loop (recL fn a.tmps ps assign body w.heap.size .ready none))
    rwa [World.size_alloc] at this
  refine ⟨w.heap.size + 1, [{ target := .collected w.heap.size, args := #[] }], W1, { target := .fn (.func gf) lb, args := #[.func (.yield (w.heap.size + 1)) #[] #[]] }, W1, gf, #[.func (.yield (w.heap.size + 1)) #[] #[]] ++ lb, W1, ?_, ?_, ?_, ?_, fun _ => h1, ?_⟩
  · rw [← hW1]; exact run_enterLoop_outer _ _ _ _ _
  · simp only [resolve, hg]
    simp [go_sem]
  · intro f' hf'
    simp [Target.leads] at hf'
    exact hf' ▸ hF
  · simp [invoke, go_sem, eg]
  refine (hseq (w.heap.size + 1) (fun g pre W => I g pre W ∧ Books w.heap.size (recL fn a.tmps ps assign body w.heap.size .ready none) W) _ hb1 (by omega) (fun g p A B hg2 h k1 k2 => ⟨hIb g p A B (by omega) h.1 k1 k2,
      ⟨(k1 _ (Array.getElem?_eq_some_iff.1 h.2.1).1 (by omega)).trans h.2.1, (k1 _ (Array.getElem?_eq_some_iff.1 h.2.2).1 (by omega)).trans h.2.2⟩⟩) ?_ (fun g A hg2 hb => ⟨h0 g A (by omega) (hb1.trans (hb.mono (by omega))), (hk1.below (hb.mono (by omega)))⟩)).mono ?_
  · rintro g pre x A0 A hg2 hgl ⟨hi, hk0⟩ hbA hok
    have hk := hk0.below hbA
    refine ⟨_, _, _, _, run_yield hk.1 (hps x), roundIn_of_wpIn hfn (hassign _ g pre x A0 A _ (by omega) hgl hi (hIb g pre A0 A (by omega) hi (fun b h1 _ => hbA.block b h1) (hbA.mono (by omega))) hbA hok fun a' B hkf hbB hiB hax => ?_)⟩
    have hkB := hk.from hkf
    refine ⟨_, run_beginRound hkB.1 rfl, ?_⟩
    have hkC := hkB.put (recL fn a.tmps ps assign body w.heap.size .busy none)
    have hbC : Kp g B (B.putObj (w.heap.size + 1) (.loop (recL fn a.tmps ps assign body w.heap.size .busy none))) := hKb g B _ _ (by omega) hkB.1
    refine wpIn_mono (hbody _ g pre x a' _ (by omega) (hIo _ _ _ _ (by omega) hiB) (hAo _ _ _ _ _ _ _ hax hkB.1 rfl)) ?_
    rintro e a3 C ⟨rfl, hkf2, hb2, hi2⟩
    have hkD := hkC.from hkf2
    refine ⟨_, _, run_endRound none hkD.1, rfl, ⟨hIo _ _ _ _ (by omega) hi2, hkD.put _⟩, ?_⟩
    exact hKt (hKt (hKt hbB hbC) hb2) (hKb g C _ _ (by omega) hkD.1)
  · rintro e B ⟨⟨v, rfl⟩, g, MS, hg2, hfin, hi, hk⟩
    exact ⟨none, _, run_endLoop hk.1 (by simp [recL]), hdone g _ _ (by omega) hfin (hIo _ _ _ _ (by omega) hi) ((World.putObj_heap_other (by omega)).trans hk.2)⟩

end Go.Proofs.YthnlkijkgnmbhaaDoor
