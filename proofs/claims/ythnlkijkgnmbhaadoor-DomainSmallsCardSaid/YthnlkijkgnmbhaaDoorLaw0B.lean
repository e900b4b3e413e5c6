/-
  A boxed value. Nothing is assumed.
-/
import Derived.Test.YthnlkijkgnmbhaaDoorRep
namespace Go.Proofs.YthnlkijkgnmbhaaDoor
open Go.RowKit

theorem box_at {w w1 : World} {n : Nat} {a b c d : Value} {t : Nat} (hn : w.heap.size = n) (h : Below (n + 1) (w.alloc (.cells #[a, b, c, d] t)) w1) :
    w1.cell? ⟨n, 0, none⟩ = some a ∧ w1.cell? ⟨n, 1, none⟩ = some b ∧ w1.cell? ⟨n, 2, none⟩ = some c ∧ w1.cell? ⟨n, 3, none⟩ = some d := by
  subst hn
  exact box_later h

/-- A boxed value at block n. -/
def Box (w : World) (n : Nat) (v : V) (sl : Value) : Prop :=
  w.cell? ⟨n, 0, none⟩ = some (.int .i64 v.t) ∧ w.cell? ⟨n, 1, none⟩ = some (.int .i64 v.n) ∧ w.cell? ⟨n, 2, none⟩ = some (.string v.s) ∧ w.cell? ⟨n, 3, none⟩ = some sl
theorem Box.later {w w1 : World} {n B : Nat} {v : V} {sl : Value} (h : Box w n v sl) (hb : Below B w w1) (hn : n < B) : Box w1 n v sl := by
  obtain ⟨h0, h1, h2, h3⟩ := h
  exact ⟨(hb.cell (p := ⟨n, _, none⟩) hn).trans h0, (hb.cell (p := ⟨n, _, none⟩) hn).trans h1, (hb.cell (p := ⟨n, _, none⟩) hn).trans h2, (hb.cell (p := ⟨n, _, none⟩) hn).trans h3⟩
theorem Box.new {w : World} {n : Nat} (v : V) (sl : Value) (t : Nat) (hn : w.heap.size = n) : Box (w.alloc (.cells #[.int .i64 v.t, .int .i64 v.n, .string v.s, sl] t)) n v sl :=
  box_at hn (Below.refl _ _)

end Go.Proofs.YthnlkijkgnmbhaaDoor
