/-
  How an argument that is a table opens. Nothing is assumed.
-/
import Derived.Test.YtampofpllijfhaaTbBase
import Derived.Test.YtampofpllijfhaaEnd
import Derived.Deep.Strs
import Derived.HandedShaped
namespace Go.Proofs.Ytampofpllijfhaa
open Go.ChangeShapes Go.WideShapes Go.ChangeAt Go.RowKit Go.Deep

theorem cTextF : Try.prog.cellsOf 9 = 1 := by kernel_rfl
theorem cTextsF : Try.prog.cellsOf 29 = 1 := by kernel_rfl
theorem spot_none {W : World} {a : Addr} {v : Value} (h : W.cell? (a.add 0) = some v) : a.spot = none := by
  have := World.cell?_spot h
  simpa [Addr.add] using this
theorem cell_off {W : World} {b off i : Nat} {v : Value} (h : W.cell? ((⟨b, off, none⟩ : Addr).add i) = some v) : W.cell? ⟨b, off + i, none⟩ = some v := by
  unfold Addr.add at h
  split at h
  · rename_i h0
    subst h0
    exact h
  · exact h

section
variable {H : Type} {enc : TypeId × Value → H} {W : World}
theorem opens_row {v : Value} {fuel : Nat} {x : DataW H × List MemPlace} (h : DataW.trod enc Try.prog W 0 (fun _ => true) true fuel 29 [v] = some x) : ∃ l : List ByteArray, HoldsS W (· < W.heap.size) v l := by
  rcases open_strs Try.underlying29 Try.underlying9 cTextF h with ⟨hcs, _⟩ | ⟨a, len, cap, m, Sx, hcs, _, hl, hm, hmm, _, hcell⟩
  · obtain rfl : v = .slice none 0 0 := by simpa using hcs
    exact ⟨[], HoldsS.nil _ _⟩
  · obtain rfl : v = .slice (some a) len cap := by simpa using hcs
    rw [if_pos rfl] at hmm
    by_cases hz : len = 0
    · subst hz
      exact ⟨[], _, cap, rfl, hl, by unfold maxLen at hm; omega, fun i z hi => by simp at hi⟩
    · have h0 := (hcell 0 (by omega)).1
      obtain ⟨b, off, spot⟩ := a
      obtain rfl : spot = none := spot_none h0
      refine ⟨(List.range len).map Sx, some ⟨b, off, none⟩, cap, by simp, by simpa using hl, by unfold maxLen at hm; omega, fun i z hi => ?_⟩
      have hlt : i < len := by
        have := (List.getElem?_eq_some_iff.1 hi).1
        simpa using this
      rw [List.getElem?_map, List.getElem?_range hlt] at hi
      simp at hi
      subst hi
      have hc := cell_off (hcell i (by omega)).1
      exact ⟨b, off, rfl, World.block_lt_of_cell? _ _ hc, hc⟩
theorem opens_table {v : Value} {fuel : Nat} {x : DataW H × List MemPlace} (h : DataW.trod enc Try.prog W 0 (fun _ => true) true fuel 22 [v] = some x) : ∃ t : List (List ByteArray), HoldsT W (· < W.heap.size) v t := by
  rcases open_slice1 Try.underlying22 cTextsF h with ⟨hcs, _⟩ | ⟨a, len, cap, m, n, V, D, Pl, hcs, _, hl, hm, hmm, _, hcell⟩
  · obtain rfl : v = .slice none 0 0 := by simpa using hcs
    exact ⟨[], HoldsT.nil _ _⟩
  · obtain rfl : v = .slice (some a) len cap := by simpa using hcs
    rw [if_pos rfl] at hmm
    by_cases hz : len = 0
    · subst hz
      exact ⟨[], _, cap, rfl, hl, by unfold maxLen at hm; omega, fun i z hi => by simp at hi⟩
    · have h0 := (hcell 0 (by omega)).1
      obtain ⟨b, off, spot⟩ := a
      obtain rfl : spot = none := spot_none h0
      have hrow : ∀ i, ∃ l : List ByteArray, i < len → HoldsS W (· < W.heap.size) (V i) l := fun i => by
        by_cases hi : i < len
        · obtain ⟨l, hl2⟩ := opens_row (hcell i (by omega)).2
          exact ⟨l, fun _ => hl2⟩
        · exact ⟨[], fun h => absurd h hi⟩
      refine ⟨(List.range len).map fun i => (hrow i).choose, some ⟨b, off, none⟩, cap, by simp, by simpa using hl, by unfold maxLen at hm; omega, fun i z hi => ?_⟩
      have hlt : i < len := by
        have := (List.getElem?_eq_some_iff.1 hi).1
        simpa using this
      rw [List.getElem?_map, List.getElem?_range hlt] at hi
      simp at hi
      subst hi
      have hc := cell_off (hcell i (by omega)).1
      exact ⟨b, off, V i, rfl, World.block_lt_of_cell? _ _ hc, hc, (hrow i).choose_spec hlt⟩
end
theorem open_table {H : Type} {enc : TypeId × Value → H} {W : World} {base : Nat} {v0 : Value} {d0 : DataW H} {p0 : List MemPlace} (hv : Value.okWide Try.prog W .any base 22 v0)
    (h : DataW.Trod enc Try.prog W 0 (fun _ => true) true 22 v0 d0 p0) : ∃ t : List (List ByteArray), HoldsT W (· < W.heap.size) v0 t := by
  obtain ⟨a0, len, cap, rfl⟩ := okWide_slice Try.underlying22 hv
  obtain ⟨fuel, hf⟩ := h
  exact opens_table hf
theorem i64_of {x : Int} (h : (Lit.int .i64 x).wf = true) : -9223372036854775808 ≤ x ∧ x ≤ 9223372036854775807 := by
  simp [Lit.wf, IntKind.min, IntKind.max, IntKind.bits, IntKind.signed] at h
  omega

end Go.Proofs.Ytampofpllijfhaa
