/-
  clear at terms. Nothing is assumed.
-/
import Derived.Test.YtdfhfljmcakilaaTmRow
import Derived.Laws.IdiomCopy
import Derived.Deep.Upon
namespace Go.Proofs.Ytdfhfljmcakilaa
open Go.RowKit

theorem run_clear2 (w : World) (g o n c : Nat) (hn : 0 < n) (hc : ∀ j, j < n * 2 → (w.cell? ⟨g, o + j, none⟩).isSome = true) (hf : ∀ j, j < n * 2 → w.frozen? ⟨g, o + j, none⟩ = false) :
    ∃ vs : List Value, vs.length = n * 2 ∧ ∀ ty, (Builtin.clear_ #[22] ty #[.slice (some ⟨g, o, none⟩) n c]).run Try.prog w = .ok (.tuple #[]) (w.setCells g o vs) := by
  have hz : ∀ w, (zeroValue 24).run Try.prog w = .ok (.agg #[.int .i64 0, .slice none 0 0]) w := Try.zeroValue24
  have hlen : (Builtin.zeroCells #[Value.int .i64 0, .slice none 0 0] n).toList.length = n * 2 := by simp [Builtin.zeroCells]
  have h1 : ∀ v ∈ (Builtin.zeroCells #[Value.int .i64 0, .slice none 0 0] n).toList, v.oneCell' = true := fun v hv => by
    simp [Builtin.zeroCells] at hv
    obtain ⟨a, _, rfl⟩ := hv
    rcases Nat.mod_two_eq_zero_or_one a with h | h <;> rw [h] <;> rfl
  have hst := run_storeCells_cells (P := Try.prog) g o _ 0 w (by rw [hlen]; simpa using hc) (by rw [hlen]; simpa using hf) h1
  simp only [Nat.add_zero] at hst
  refine ⟨_, hlen, fun ty => ?_⟩
  obtain ⟨m, rfl⟩ : ∃ m, n = m + 1 := ⟨n - 1, by omega⟩
  simp [Builtin.clear_, run_underlying Try.underlying22, hz, hst, Value.cells]

theorem size_setCellsT (b : Nat) : ∀ (vs : List Value) (o : Nat) (w : World), (w.setCells b o vs).heap.size = w.heap.size
  | [], _, _ => rfl
  | v :: vs, o, w => (size_setCellsT b vs (o + 1) (w.setCell ⟨b, o, none⟩ v)).trans (World.size_setCell ..)
theorem below_setCellsT {B : Nat} {a : World} (b : Nat) (hb : B ≤ b) : ∀ (vs : List Value) (o : Nat) {w : World}, Below B a w → Below B a (w.setCells b o vs)
  | [], _, _, h => h
  | v :: vs, o, _, h => below_setCellsT b hb vs (o + 1) (h.setCell (p := ⟨b, o, none⟩) hb v)
/-- What clear leaves of the row. -/
theorem RowT.cleared {w : World} {P : Nat → Prop} {g k i : Nat} {u : T} (h : RowT w P g i u) (vs : List Value) (hik : i < k) (hP : ∀ q, P q → q < w.heap.size ∧ q ≠ g) : RowT (w.setCells g (k * 2) vs) P g i u := by
  obtain ⟨o, c, h1, h2, h3⟩ := h
  refine ⟨o, c, ?_, ?_, h3.keep fun q hq => ⟨hq, World.heap_setCells_other w g _ vs (hP q hq).1 (hP q hq).2⟩⟩
  · rw [World.cell?_setCells_out g vs (k * 2) w _ (fun _ _ => .inl (by show i * 2 < k * 2; omega))]; exact h1
  · rw [World.cell?_setCells_out g vs (k * 2) w _ (fun _ _ => .inl (by show i * 2 + 1 < k * 2; omega))]; exact h2
theorem But.clear {g : Nat} (w : World) (o : Nat) (vs : List Value) : But g w (w.setCells g o vs) := ⟨by rw [size_setCellsT]; exact Nat.le_refl _, fun _ hk hg => World.heap_setCells_other w g o vs hk hg⟩

end Go.Proofs.Ytdfhfljmcakilaa
