/-
  A call that keeps all that lay leaves the old world with draws more and blocks behind; so Compare at two terms fits what SortFunc asks of its comparison. Nothing is assumed.
-/
import Derived.Test.YtdfhfljmcakilaaDrawn3
import Derived.Test.YtdfhfljmcakilaaTmCmp
import Derived.Sort.Grow
import Derived.Deep.Draws
namespace Go.Proofs.Ytdfhfljmcakilaa
open Go.RowKit Go.Sort

theorem grow_of {S w' : World} (hb : Below S.heap.size S w') (hd : S.drawn ≤ w'.drawn) : ∃ (q : Nat) (os' : Array Obj), w' = grow (S.drewN q) os' := by
  refine ⟨w'.drawn - S.drawn, w'.heap.extract S.heap.size w'.heap.size, ?_⟩
  have h1 : w'.heap = S.heap ++ w'.heap.extract S.heap.size w'.heap.size := by
    apply Array.ext_getElem?
    intro i
    rcases Nat.lt_or_ge i S.heap.size with h | h
    · rw [Array.getElem?_append_left h]; exact hb.block i h
    · rw [Array.getElem?_append_right h, Array.getElem?_extract]
      have hs := hb.size
      split
      · congr 1; omega
      · rw [Array.getElem?_eq_none (by omega)]
  obtain ⟨heap, tape, drawn, os, output⟩ := w'
  have h2 : tape = S.tape := hb.tape
  have h3 : os = S.os := hb.os
  have h4 : output = S.output := hb.output
  simp only [] at h1 hd
  unfold grow World.drewN
  simp only [World.mk.injEq]
  exact ⟨h1, h2, by omega, h3, h4⟩

theorem compare_lays (a b : T) (sa sb : Value) (w : World) (B : Nat) (hra : Rep w B sa a.l) (hrb : Rep w B sb b.l) (hB : B ≤ w.heap.size) (hsa : a.size ≤ 1000) (hsb : b.size ≤ 1000) :
    Calls Try.prog 19 #[.agg #[.int .i64 a.r, sa], .agg #[.int .i64 b.r, sb]] w fun e w' => e = .returned (.int .i64 (a.cmp b)) ∧ ∃ (q : Nat) (os' : Array Obj), w' = grow (w.drewN q) os' :=
  (calls_drawn (compare_any a b sa sb w B hra hrb hB hsa hsb) (fun w' h => by cases h.1)).mono fun _ _ ⟨⟨he, hb⟩, hd⟩ => ⟨he, grow_of hb hd⟩

end Go.Proofs.Ytdfhfljmcakilaa
