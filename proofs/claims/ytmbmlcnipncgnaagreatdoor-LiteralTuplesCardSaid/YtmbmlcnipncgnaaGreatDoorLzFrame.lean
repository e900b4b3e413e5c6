/-
  How arguments that are values or lists of values open, at a literal seat. Nothing is assumed.
-/
import Derived.Test.YtmbmlcnipncgnaaGreatDoorLtFrame
import Derived.Deep.Slices
import Derived.Lib.SmallJoins
namespace Go.Proofs.YtmbmlcnipncgnaaGreatDoor

section
open Go.ChangeShapes Go.WideShapes Go.ChangeAt Go.RowKit Go.Deep

theorem cString : Tryz.prog.cellsOf 9 = 1 := by kernel_rfl
theorem cInt : Tryz.prog.cellsOf 3 = 1 := by kernel_rfl
theorem cInt64 : Tryz.prog.cellsOf 2 = 1 := by kernel_rfl
theorem cValues : Tryz.prog.cellsOf 22 = 1 := by kernel_rfl
theorem cValue : Tryz.prog.cellsOf 34 = 4 := by kernel_rfl


section
variable {H : Type} {enc : TypeId × Value → H} {P : Program} {w : World} {base : Nat} {sp : Nat → Bool} {held : Bool} {tv tl t0 t1 t2 : TypeId} {f0 f1 f2 f3 : Field}
theorem vals_of (n : Nat) {α : Type} [Inhabited α] (q : Nat → α → Prop) (h : ∀ i, i < n → ∃ x, q i x) : ∃ l : List α, l.length = n ∧ ∀ i x, l[i]? = some x → q i x := by
  obtain ⟨f, hf⟩ := choose_lt h
  refine ⟨(List.range n).map f, by simp, fun i x hx => ?_⟩
  simp only [List.getElem?_map, Option.map_eq_some_iff] at hx
  obtain ⟨j, hj, rfl⟩ := hx
  obtain ⟨hj1, hj2⟩ := List.getElem?_eq_some_iff.1 hj
  simp at hj1 hj2
  subst hj2
  exact hf i hj1

instance : Inhabited V := ⟨.mk 0 0 ⟨#[]⟩ []⟩

theorem open_cells_gen (hs : P.underlying tv = some (.struct #[f0, f1, f2, f3])) (h0 : P.underlying f0.type = some (.int .i64)) (h1 : P.underlying f1.type = some (.int .i64)) (h2 : P.underlying f2.type = some .string)
    (h3 : P.underlying f3.type = some (.slice tv)) (o0 : f0.offset = 0) (o1 : f1.offset = 1) (o2 : f2.offset = 2) (o3 : f3.offset = 3)
    (c0 : P.cellsOf f0.type = 1) (c1 : P.cellsOf f1.type = 1) (c2 : P.cellsOf f2.type = 1) (c3 : P.cellsOf f3.type = 1) (c4 : P.cellsOf tv = 4) :
    ∀ (fuel : Nat) (cs : List Value) (x : DataW H × List MemPlace), DataW.trod enc P w base sp held fuel tv cs = some x →
    ∃ (v : V) (sl : Value), cs = [.int .i64 v.t, .int .i64 v.n, .string v.s, sl] ∧ Rep w w.heap.size sl v.l := by
  intro fuel
  induction fuel using Nat.strongRecOn with
  | _ fuel ih =>
    intro cs x h
    obtain ⟨xs, n, hfu, rfl, hl, hlen, hf⟩ := DataW.trod_struct hs h
    rw [c4] at hl
    match cs, hl with
    | [a0, a1, a2, a3], _ =>
      have hx : xs.length = 4 := hlen
      match xs, hx with
      | [x0, x1, x2, x3], _ =>
        have g0 := hf 0 f0 rfl
        have g1 := hf 1 f1 rfl
        have g2 := hf 2 f2 rfl
        have g3 := hf 3 f3 rfl
        rw [o0, c0] at g0
        rw [o1, c1] at g1
        rw [o2, c2] at g2
        rw [o3, c3] at g3
        obtain ⟨t, e0, _, _⟩ := DataW.trod_int h0 g0
        obtain ⟨m, e1, _, _⟩ := DataW.trod_int h1 g1
        obtain ⟨s, e2, _, _⟩ := DataW.trod_string h2 g2
        have e0' : a0 = .int .i64 t := by simpa using e0
        have e1' : a1 = .int .i64 m := by simpa using e1
        have e2' : a2 = .string s := by simpa using e2
        subst e0' e1' e2'
        rcases DataW.trod_slice h3 g3 with ⟨e3, _⟩ | ⟨a, len, cap, elems, rest, k, hk, e3, _, hb, hlc, hm, hle, hel, _, _⟩
        · have e3' : a3 = .slice none 0 0 := by simpa using e3
          subst e3'
          exact ⟨.mk t m s [], _, rfl, Rep.nil⟩
        · have e3' : a3 = .slice (some a) len cap := by simpa using e3
          subst e3'
          rw [c4] at hel
          have step : ∀ i, i < len → ∃ vs : V × Value, w.cell? (a.add (i * 4)) = some (.int .i64 vs.1.t) ∧ w.cell? (a.add (i * 4 + 1)) = some (.int .i64 vs.1.n) ∧ w.cell? (a.add (i * 4 + 2)) = some (.string vs.1.s) ∧
              w.cell? (a.add (i * 4 + 3)) = some vs.2 ∧ Rep w w.heap.size vs.2 vs.1.l := by
            intro i hi
            have h := hel i hi
            rw [List.getElem?_eq_getElem (by omega)] at h
            obtain ⟨cs', hc', ht'⟩ := Option.bind_eq_some_iff.1 h
            obtain ⟨v, sl, rfl, hR⟩ := ih k (by omega) cs' _ ht'
            obtain ⟨_, _, hcell⟩ := World.cells?_some hc'
            have k0 := hcell 0 (by omega)
            have k1 := hcell 1 (by omega)
            have k2 := hcell 2 (by omega)
            have k3 := hcell 3 (by omega)
            rw [add_add] at k0 k1 k2 k3
            exact ⟨(v, sl), k0, k1, k2, k3, hR⟩
          obtain ⟨l, hll, hall⟩ := vals_of len (fun i (vs : V × Value) => w.cell? (a.add (i * 4)) = some (.int .i64 vs.1.t) ∧ w.cell? (a.add (i * 4 + 1)) = some (.int .i64 vs.1.n) ∧ w.cell? (a.add (i * 4 + 2)) = some (.string vs.1.s) ∧
              w.cell? (a.add (i * 4 + 3)) = some vs.2 ∧ Rep w w.heap.size vs.2 vs.1.l) step
          refine ⟨.mk t m s (l.map (·.1)), _, rfl, ?_⟩
          show Rep w w.heap.size (.slice (some a) len cap) (l.map (·.1))
          by_cases hz : len = 0
          · subst hz
            obtain rfl := List.eq_nil_of_length_eq_zero hll
            exact .empty _ _
          · obtain ⟨b, off, spot⟩ := a
            have hfirst := hall 0 _ (List.getElem?_eq_getElem (by omega))
            have hspot : spot = none := by
              have := World.cell?_spot hfirst.1
              simpa [Addr.add] using this
            subst hspot
            have hblt : b < w.heap.size := by
              have := World.block_lt_of_cell? _ _ hfirst.1
              simpa [Addr.add] using this
            have key : (l.map (·.1)).length = len := by simpa using hll
            rw [← key]
            refine .arr b off cap (l.map (·.1)) (fun i => ((l[i]?).map (·.2)).getD .nilIface) hblt (by omega) (by unfold maxLen at hm; omega) (fun i v hv => ?_) (fun i v hv => ?_)
            · simp only [List.getElem?_map, Option.map_eq_some_iff] at hv
              obtain ⟨vs, hvs, rfl⟩ := hv
              obtain ⟨k0, k1, k2, k3, _⟩ := hall i vs hvs
              rw [add_plain] at k0 k1 k2 k3
              simp only [hvs, Option.map_some, Option.getD_some]
              exact ⟨k0, k1, k2, k3⟩
            · simp only [List.getElem?_map, Option.map_eq_some_iff] at hv
              obtain ⟨vs, hvs, rfl⟩ := hv
              simp only [hvs, Option.map_some, Option.getD_some]
              exact (hall i vs hvs).2.2.2.2
end

set_option maxRecDepth 100000 in
/-- An argument of the type Value. -/
theorem open_value {H : Type} {enc : TypeId × Value → H} {W : World} {base : Nat} {v0 : Value} {d0 : DataW H} {p0 : List MemPlace} (hv : Value.okWide Tryz.prog W .any base 34 v0)
    (h : DataW.Trod enc Tryz.prog W 0 (fun _ => true) true 34 v0 d0 p0) :
    ∃ (v : V) (sl : Value), v0 = .agg #[.int .i64 v.t, .int .i64 v.n, .string v.s, sl] ∧ Rep W W.heap.size sl v.l := by
  obtain ⟨cs, rfl, _⟩ := okWide_struct Tryz.underlying34 hv
  obtain ⟨fuel, hf⟩ := h
  obtain ⟨v, sl, hcs, hR⟩ := open_cells_gen Tryz.underlying34 Tryz.underlying3 Tryz.underlying2 Tryz.underlying9 Tryz.underlying22 rfl rfl rfl rfl cInt cInt64 cString cValues cValue fuel _ _ hf
  have hcs' : cs.toList = [.int .i64 v.t, .int .i64 v.n, .string v.s, sl] := hcs
  exact ⟨v, sl, by rw [← Array.toArray_toList (xs := cs), hcs'], hR⟩
end

section
open Go.ChangeShapes Go.WideShapes Go.ChangeAt Go.RowKit Go.Deep

set_option maxRecDepth 100000 in
/-- An argument of the type []Value. -/
theorem open_values {H : Type} {enc : TypeId × Value → H} {W : World} {base : Nat} {v0 : Value} {d0 : DataW H} {p0 : List MemPlace} (hv : Value.okWide Tryz.prog W .any base 22 v0)
    (h : DataW.Trod enc Tryz.prog W 0 (fun _ => true) true 22 v0 d0 p0) : ∃ l : List V, Rep W W.heap.size v0 l := by
  obtain ⟨a0, len0, cap0, rfl⟩ := okWide_slice Tryz.underlying22 hv
  obtain ⟨fuel, hf⟩ := h
  rcases DataW.trod_slice Tryz.underlying22 hf with ⟨e3, _⟩ | ⟨a, len, cap, elems, rest, k, hk, e3, _, hb, hlc, hm, hle, hel, _, _⟩
  · have e3' : Value.slice a0 len0 cap0 = .slice none 0 0 := by simpa [Value.cells] using e3
    rw [e3']
    exact ⟨[], Rep.nil⟩
  · have e3' : Value.slice a0 len0 cap0 = .slice (some a) len cap := by simpa [Value.cells] using e3
    rw [e3']
    rw [cValue] at hel
    have step : ∀ i, i < len → ∃ vs : V × Value, W.cell? (a.add (i * 4)) = some (.int .i64 vs.1.t) ∧ W.cell? (a.add (i * 4 + 1)) = some (.int .i64 vs.1.n) ∧ W.cell? (a.add (i * 4 + 2)) = some (.string vs.1.s) ∧
        W.cell? (a.add (i * 4 + 3)) = some vs.2 ∧ Rep W W.heap.size vs.2 vs.1.l := by
      intro i hi
      have h := hel i hi
      rw [List.getElem?_eq_getElem (by omega)] at h
      obtain ⟨cs', hc', ht'⟩ := Option.bind_eq_some_iff.1 h
      obtain ⟨v, sl, rfl, hR⟩ := open_cells_gen Tryz.underlying34 Tryz.underlying3 Tryz.underlying2 Tryz.underlying9 Tryz.underlying22 rfl rfl rfl rfl cInt cInt64 cString cValues cValue k cs' _ ht'
      obtain ⟨_, _, hcell⟩ := World.cells?_some hc'
      have k0 := hcell 0 (by omega)
      have k1 := hcell 1 (by omega)
      have k2 := hcell 2 (by omega)
      have k3 := hcell 3 (by omega)
      rw [add_add] at k0 k1 k2 k3
      exact ⟨(v, sl), k0, k1, k2, k3, hR⟩
    obtain ⟨l, hll, hall⟩ := vals_of len (fun i (vs : V × Value) => W.cell? (a.add (i * 4)) = some (.int .i64 vs.1.t) ∧ W.cell? (a.add (i * 4 + 1)) = some (.int .i64 vs.1.n) ∧ W.cell? (a.add (i * 4 + 2)) = some (.string vs.1.s) ∧
        W.cell? (a.add (i * 4 + 3)) = some vs.2 ∧ Rep W W.heap.size vs.2 vs.1.l) step
    refine ⟨l.map (·.1), ?_⟩
    by_cases hz : len = 0
    · subst hz
      obtain rfl := List.eq_nil_of_length_eq_zero hll
      exact .empty _ _
    · obtain ⟨b, off, spot⟩ := a
      have hfirst := hall 0 _ (List.getElem?_eq_getElem (by omega))
      have hspot : spot = none := by
        have := World.cell?_spot hfirst.1
        simpa [Addr.add] using this
      subst hspot
      have hblt : b < W.heap.size := by
        have := World.block_lt_of_cell? _ _ hfirst.1
        simpa [Addr.add] using this
      have key : (l.map (·.1)).length = len := by simpa using hll
      rw [← key]
      refine .arr b off cap (l.map (·.1)) (fun i => ((l[i]?).map (·.2)).getD .nilIface) hblt (by omega) (by unfold maxLen at hm; omega) (fun i v hv => ?_) (fun i v hv => ?_)
      · simp only [List.getElem?_map, Option.map_eq_some_iff] at hv
        obtain ⟨vs, hvs, rfl⟩ := hv
        obtain ⟨k0, k1, k2, k3, _⟩ := hall i vs hvs
        rw [add_plain] at k0 k1 k2 k3
        simp only [hvs, Option.map_some, Option.getD_some]
        exact ⟨k0, k1, k2, k3⟩
      · simp only [List.getElem?_map, Option.map_eq_some_iff] at hv
        obtain ⟨vs, hvs, rfl⟩ := hv
        simp only [hvs, Option.map_some, Option.getD_some]
        exact (hall i vs hvs).2.2.2.2
end

end Go.Proofs.YtmbmlcnipncgnaaGreatDoor
