/-
  How an argument that is a list of values opens, at a literal seat. Nothing is assumed.
-/
import Derived.Test.YtmbmlcnipncgnaaDoorLtFrameV
namespace Go.Proofs.YtmbmlcnipncgnaaDoor
open Go.ChangeShapes Go.WideShapes Go.ChangeAt Go.RowKit Go.Deep

set_option maxRecDepth 100000 in
/-- An argument of the type []Value. -/
theorem open_values {H : Type} {enc : TypeId × Value → H} {W : World} {base : Nat} {v0 : Value} {d0 : DataW H} {p0 : List MemPlace} (hv : Value.okWide Tryd.prog W .any base 22 v0)
    (h : DataW.Trod enc Tryd.prog W 0 (fun _ => true) true 22 v0 d0 p0) : ∃ l : List V, Rep W W.heap.size v0 l := by
  obtain ⟨a0, len0, cap0, rfl⟩ := okWide_slice Tryd.underlying22 hv
  obtain ⟨fuel, hf⟩ := h
  rcases DataW.trod_slice Tryd.underlying22 hf with ⟨e3, _⟩ | ⟨a, len, cap, elems, rest, k, hk, e3, _, hb, hlc, hm, hle, hel, _, _⟩
  · have e3' : Value.slice a0 len0 cap0 = .slice none 0 0 := by simpa [Value.cells] using e3
    rw [e3']
    exact ⟨[], Rep.nil⟩
  · have e3' : Value.slice a0 len0 cap0 = .slice (some a) len cap := by simpa [Value.cells] using e3
    rw [e3']
    rw [cValue] at hel
    have step : ∀ i, i < len → ∃ vs : V × Value, W.cell? (a.add (i * 4)) = some (.int .i64 vs.1.t) ∧ W.cell? (a.add (i * 4 + 1)) = some (.int .i64 vs.1.n) ∧ W.cell? (a.add (i * 4 + 2)) = some (.string vs.1.s) ∧
        W.cell? (a.add (i * 4 + 3)) = some vs.2 ∧ Rep W W.heap.size vs.2 vs.1.l := by
      intro i hi
      have h := hel i hi
      rw [List.getElem?_eq_getElem (by omega)] at h
      obtain ⟨cs', hc', ht'⟩ := Option.bind_eq_some_iff.1 h
      obtain ⟨v, sl, rfl, hR⟩ := open_cells_gen Tryd.underlying24 Tryd.underlying3 Tryd.underlying2 Tryd.underlying9 Tryd.underlying22 rfl rfl rfl rfl cInt cInt64 cString cValues cValue k cs' _ ht'
      obtain ⟨_, _, hcell⟩ := World.cells?_some hc'
      have k0 := hcell 0 (by omega)
      have k1 := hcell 1 (by omega)
      have k2 := hcell 2 (by omega)
      have k3 := hcell 3 (by omega)
      rw [add_add] at k0 k1 k2 k3
      exact ⟨(v, sl), k0, k1, k2, k3, hR⟩
    obtain ⟨l, hll, hall⟩ := vals_of len (fun i (vs : V × Value) => W.cell? (a.add (i * 4)) = some (.int .i64 vs.1.t) ∧ W.cell? (a.add (i * 4 + 1)) = some (.int .i64 vs.1.n) ∧ W.cell? (a.add (i * 4 + 2)) = some (.string vs.1.s) ∧
        W.cell? (a.add (i * 4 + 3)) = some vs.2 ∧ Rep W W.heap.size vs.2 vs.1.l) step
    refine ⟨l.map (·.1), ?_⟩
    by_cases hz : len = 0
    · subst hz
      obtain rfl := List.eq_nil_of_length_eq_zero hll
      exact .empty _ _
    · obtain ⟨b, off, spot⟩ := a
      have hfirst := hall 0 _ (List.getElem?_eq_getElem (by omega))
      have hspot : spot = none := by
        have := World.cell?_spot hfirst.1
        simpa [Addr.add] using this
      subst hspot
      have hblt : b < W.heap.size := by
        have := World.block_lt_of_cell? _ _ hfirst.1
        simpa [Addr.add] using this
      have key : (l.map (·.1)).length = len := by simpa using hll
      rw [← key]
      refine .arr b off cap (l.map (·.1)) (fun i => ((l[i]?).map (·.2)).getD .nilIface) hblt (by omega) (by unfold maxLen at hm; omega) (fun i v hv => ?_) (fun i v hv => ?_)
      · simp only [List.getElem?_map, Option.map_eq_some_iff] at hv
        obtain ⟨vs, hvs, rfl⟩ := hv
        obtain ⟨k0, k1, k2, k3, _⟩ := hall i vs hvs
        rw [add_plain] at k0 k1 k2 k3
        simp only [hvs, Option.map_some, Option.getD_some]
        exact ⟨k0, k1, k2, k3⟩
      · simp only [List.getElem?_map, Option.map_eq_some_iff] at hv
        obtain ⟨vs, hvs, rfl⟩ := hv
        simp only [hvs, Option.map_some, Option.getD_some]
        exact (hall i vs hvs).2.2.2.2

end Go.Proofs.YtmbmlcnipncgnaaDoor
