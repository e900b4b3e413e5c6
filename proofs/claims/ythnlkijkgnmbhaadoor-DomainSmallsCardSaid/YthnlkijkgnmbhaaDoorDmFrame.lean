/-
  How the arguments of the laws of layer 19 open: a domain, a list of values, of numbers, of truth values. Nothing is assumed.
-/
import Derived.Test.YthnlkijkgnmbhaaDoorFrame
import Derived.Test.YthnlkijkgnmbhaaDoorDmSize
import Derived.Test.YthnlkijkgnmbhaaDoorLst
namespace Go.Proofs.YthnlkijkgnmbhaaDoor
open Go.ChangeShapes Go.WideShapes Go.ChangeAt Go.RowKit Go.Deep

section
variable {H : Type} {enc : TypeId × Value → H} {P : Program} {w : World} {base : Nat} {sp : Nat → Bool} {held : Bool} {tl te : TypeId}

theorem open_lst {α : Type} [Inhabited α] {R : World → Nat → Value → α → Prop} (hs : P.underlying tl = some (.slice te)) (hc : P.cellsOf te = 1)
    (hR : ∀ (fuel : Nat) (cs : List Value) (x : DataW H × List MemPlace), DataW.trod enc P w base sp held fuel te cs = some x → cs.length = 1 → ∃ (c : Value) (a : α), cs = [c] ∧ R w w.heap.size c a)
    (fuel : Nat) (cs : List Value) (x : DataW H × List MemPlace) (h : DataW.trod enc P w base sp held fuel tl cs = some x) :
    ∃ (oa : Option Addr) (cap : Nat) (l : List α), cs = [.slice oa l.length cap] ∧ l.length ≤ cap ∧ l.length ≤ 9223372036854775807 ∧
      ∀ i a, l[i]? = some a → ∃ (b off : Nat) (c : Value), oa = some ⟨b, off, none⟩ ∧ b < w.heap.size ∧ w.cell? ⟨b, off + i, none⟩ = some c ∧ R w w.heap.size c a := by
  rcases DataW.trod_slice hs h with ⟨rfl, _⟩ | ⟨a, len, cap, elems, rest, k, hk, rfl, _, hb, hlc, hm, hle, hel, _, _⟩
  · exact ⟨none, 0, [], rfl, Nat.le_refl _, by simp, fun i a ha => by simp at ha⟩
  · rw [hc] at hel
    have step : ∀ i, i < len → ∃ ca : Value × α, w.cell? (a.add (i * 1)) = some ca.1 ∧ R w w.heap.size ca.1 ca.2 := by
      intro i hi
      have h := hel i hi
      rw [List.getElem?_eq_getElem (by omega)] at h
      obtain ⟨cs', hc', ht'⟩ := Option.bind_eq_some_iff.1 h
      obtain ⟨_, hlen, hcell⟩ := World.cells?_some hc'
      obtain ⟨c, x, rfl, hr⟩ := hR k cs' _ ht' hlen
      have k0 := hcell 0 (by omega)
      rw [add_add] at k0
      exact ⟨(c, x), k0, hr⟩
    obtain ⟨l, hll, hall⟩ := vals_of len (fun i (ca : Value × α) => w.cell? (a.add (i * 1)) = some ca.1 ∧ R w w.heap.size ca.1 ca.2) step
    refine ⟨some a, cap, l.map (·.2), by rw [List.length_map, hll], by rw [List.length_map, hll]; omega, by rw [List.length_map, hll]; unfold maxLen at hm; omega, fun i y hy => ?_⟩
    simp only [List.getElem?_map, Option.map_eq_some_iff] at hy
    obtain ⟨ca, hca, rfl⟩ := hy
    obtain ⟨h1, h2⟩ := hall i ca hca
    obtain ⟨b, off, spot⟩ := a
    have hspot : spot = none := by
      have hi := (List.getElem?_eq_some_iff.1 hca).1
      have := World.cell?_spot (hall 0 _ (List.getElem?_eq_getElem (by omega))).1
      simpa [Addr.add] using this
    subst hspot
    rw [add_plain, Nat.mul_one] at h1
    exact ⟨b, off, ca.1, rfl, World.block_lt_of_cell? _ _ h1, h1, h2⟩
/-- A value that lies in four cells, in a slice. -/
theorem open_vals {tv : TypeId} (hs : P.underlying tl = some (.slice tv)) (hc : P.cellsOf tv = 4)
    (hR : ∀ (fuel : Nat) (cs : List Value) (x : DataW H × List MemPlace), DataW.trod enc P w base sp held fuel tv cs = some x → ∃ (v : V) (sl : Value), cs = [.int .i64 v.t, .int .i64 v.n, .string v.s, sl] ∧ Rep w w.heap.size sl v.l)
    (fuel : Nat) (cs : List Value) (x : DataW H × List MemPlace) (h : DataW.trod enc P w base sp held fuel tl cs = some x) : ∃ (c : Value) (l : List V), cs = [c] ∧ Rep w w.heap.size c l := by
  rcases DataW.trod_slice hs h with ⟨rfl, _⟩ | ⟨a, len, cap, elems, rest, k, hk, rfl, _, hb, hlc, hm, hle, hel, _, _⟩
  · exact ⟨_, [], rfl, Rep.nil⟩
  · rw [hc] at hel
    have step : ∀ i, i < len → ∃ vs : V × Value, w.cell? (a.add (i * 4)) = some (.int .i64 vs.1.t) ∧ w.cell? (a.add (i * 4 + 1)) = some (.int .i64 vs.1.n) ∧ w.cell? (a.add (i * 4 + 2)) = some (.string vs.1.s) ∧
        w.cell? (a.add (i * 4 + 3)) = some vs.2 ∧ Rep w w.heap.size vs.2 vs.1.l := by
      intro i hi
      have h := hel i hi
      rw [List.getElem?_eq_getElem (by omega)] at h
      obtain ⟨cs', hc', ht'⟩ := Option.bind_eq_some_iff.1 h
      obtain ⟨v, sl, rfl, hR⟩ := hR k cs' _ ht'
      obtain ⟨_, _, hcell⟩ := World.cells?_some hc'
      have k0 := hcell 0 (by omega)
      have k1 := hcell 1 (by omega)
      have k2 := hcell 2 (by omega)
      have k3 := hcell 3 (by omega)
      rw [add_add] at k0 k1 k2 k3
      exact ⟨(v, sl), k0, k1, k2, k3, hR⟩
    obtain ⟨l, hll, hall⟩ := vals_of len (fun i (vs : V × Value) => w.cell? (a.add (i * 4)) = some (.int .i64 vs.1.t) ∧ w.cell? (a.add (i * 4 + 1)) = some (.int .i64 vs.1.n) ∧ w.cell? (a.add (i * 4 + 2)) = some (.string vs.1.s) ∧
        w.cell? (a.add (i * 4 + 3)) = some vs.2 ∧ Rep w w.heap.size vs.2 vs.1.l) step
    refine ⟨_, l.map (·.1), rfl, ?_⟩
    by_cases hz : len = 0
    · subst hz
      obtain rfl := List.eq_nil_of_length_eq_zero hll
      exact .empty _ _
    · obtain ⟨b, off, spot⟩ := a
      have hfirst := hall 0 _ (List.getElem?_eq_getElem (by omega))
      have hspot : spot = none := by
        have := World.cell?_spot hfirst.1
        simpa [Addr.add] using this
      subst hspot
      have hblt : b < w.heap.size := by
        have := World.block_lt_of_cell? _ _ hfirst.1
        simpa [Addr.add] using this
      have key : (l.map (·.1)).length = len := by simpa using hll
      rw [← key]
      refine .arr b off cap (l.map (·.1)) (fun i => ((l[i]?).map (·.2)).getD .nilIface) hblt (by omega) (by unfold maxLen at hm; omega) (fun i v hv => ?_) (fun i v hv => ?_)
      · simp only [List.getElem?_map, Option.map_eq_some_iff] at hv
        obtain ⟨vs, hvs, rfl⟩ := hv
        obtain ⟨k0, k1, k2, k3, _⟩ := hall i vs hvs
        rw [add_plain] at k0 k1 k2 k3
        simp only [hvs, Option.map_some, Option.getD_some]
        exact ⟨k0, k1, k2, k3⟩
      · simp only [List.getElem?_map, Option.map_eq_some_iff] at hv
        obtain ⟨vs, hvs, rfl⟩ := hv
        simp only [hvs, Option.map_some, Option.getD_some]
        exact (hall i vs hvs).2.2.2.2
end

theorem cAxes : Tryd.prog.cellsOf 22 = 1 := by kernel_rfl
theorem cInt1 : Tryd.prog.cellsOf 3 = 1 := by kernel_rfl
theorem cBool1 : Tryd.prog.cellsOf 4 = 1 := by kernel_rfl

section
variable {H : Type} {enc : TypeId × Value → H} {w : World} {base : Nat} {sp : Nat → Bool} {held : Bool}
theorem trod_vals (fuel : Nat) (cs : List Value) (x : DataW H × List MemPlace) (h : DataW.trod enc Tryd.prog w base sp held fuel 33 cs = some x) : ∃ (c : Value) (l : List V), cs = [c] ∧ Rep w w.heap.size c l :=
  open_vals Tryd.underlying33 cValue (fun fuel cs x h => open_cells_gen Tryd.underlying48 Tryd.underlying3 Tryd.underlying2 Tryd.underlying9 Tryd.underlying33 rfl rfl rfl rfl cInt cInt64 cString cValues cValue fuel cs x h) fuel cs x h
theorem trod_axes (fuel : Nat) (cs : List Value) (x : DataW H × List MemPlace) (h : DataW.trod enc Tryd.prog w base sp held fuel 22 cs = some x) : ∃ (c : Value) (l : List (List V)), cs = [c] ∧ LAx w w.heap.size c l := by
  obtain ⟨oa, cap, l, h1, h2, h3, h4⟩ := open_lst (R := Rep) Tryd.underlying22 cValues (fun fuel cs x h _ => trod_vals fuel cs x h) fuel cs x h
  refine ⟨_, l, h1, oa, cap, rfl, h2, h3, fun i a ha => ?_⟩
  obtain ⟨b, off, c, k1, k2, k3, k4⟩ := h4 i a ha
  obtain ⟨oe, ce, rfl, _⟩ := k4.slice
  exact ⟨b, off, oe, ce, k1, k2, k3, k4⟩
end

set_option maxRecDepth 100000 in
/-- An argument of the type Domain. -/
theorem open_dom {H : Type} {enc : TypeId × Value → H} {W : World} {base : Nat} {v0 : Value} {d0 : DataW H} {p0 : List MemPlace} (hv : Value.okWide Tryd.prog W .any base 24 v0)
    (h : DataW.Trod enc Tryd.prog W 0 (fun _ => true) true 24 v0 d0 p0) : ∃ (x : Value) (l : List (List V)), v0 = .agg #[x] ∧ LAx W W.heap.size x l := by
  obtain ⟨cs, rfl, _⟩ := okWide_struct Tryd.underlying24 hv
  obtain ⟨fuel, hf⟩ := h
  obtain ⟨xs, n, hfu, he, hl, hlen, hff⟩ := DataW.trod_struct Tryd.underlying24 hf
  rw [show Tryd.prog.cellsOf 24 = 1 by kernel_rfl] at hl
  have hcs : (Value.agg cs).cells.toList = cs.toList := rfl
  rw [hcs] at hl hff
  obtain ⟨c0, hc0⟩ := List.length_eq_one_iff.1 hl
  have hx1 : xs.length = 1 := hlen
  obtain ⟨x0, hx0⟩ := List.length_eq_one_iff.1 hx1
  subst hx0
  have g0 := hff 0 _ rfl
  rw [hc0] at g0
  obtain ⟨c, l, h1, h2⟩ := trod_axes _ _ _ g0
  have h1' : c0 = c := by simpa [cAxes] using h1
  subst h1'
  exact ⟨c0, l, by rw [← Array.toArray_toList (xs := cs), hc0], h2⟩
set_option maxRecDepth 100000 in
/-- An argument that is a list of values. -/
theorem open_list {H : Type} {enc : TypeId × Value → H} {W : World} {base : Nat} {v0 : Value} {d0 : DataW H} {p0 : List MemPlace} (hv : Value.okWide Tryd.prog W .any base 33 v0)
    (h : DataW.Trod enc Tryd.prog W 0 (fun _ => true) true 33 v0 d0 p0) : ∃ l : List V, Rep W W.heap.size v0 l := by
  obtain ⟨a0, len, cap, rfl⟩ := okWide_slice Tryd.underlying33 hv
  obtain ⟨fuel, hf⟩ := h
  obtain ⟨c, l, h1, h2⟩ := trod_vals fuel _ _ hf
  simp only [Value.cells, List.cons.injEq, and_true] at h1
  exact ⟨l, h1 ▸ h2⟩
set_option maxRecDepth 100000 in
/-- An argument that is a list of numbers. -/
theorem open_nums {H : Type} {enc : TypeId × Value → H} {W : World} {base : Nat} {v0 : Value} {d0 : DataW H} {p0 : List MemPlace} (hv : Value.okWide Tryd.prog W .any base 34 v0)
    (h : DataW.Trod enc Tryd.prog W 0 (fun _ => true) true 34 v0 d0 p0) : ∃ l : List Int, LInts W W.heap.size v0 l := by
  obtain ⟨a0, len, cap, rfl⟩ := okWide_slice Tryd.underlying34 hv
  obtain ⟨fuel, hf⟩ := h
  obtain ⟨oa, ca, l, h1, h2, h3, h4⟩ := open_lst (R := RInt) Tryd.underlying34 cInt1 (fun fuel cs x h _ => by
    obtain ⟨t, e0, _, _⟩ := DataW.trod_int Tryd.underlying3 h
    exact ⟨_, t, e0, rfl⟩) fuel _ _ hf
  simp only [Value.cells, List.cons.injEq, and_true] at h1
  exact ⟨l, oa, ca, h1, h3, h4⟩
def RBool (_ : World) (_ : Nat) (c : Value) (b : Bool) : Prop := c = .bool b
def LBools := Lst RBool
set_option maxRecDepth 100000 in
/-- An argument that is a list of truth values. -/
theorem open_bools {H : Type} {enc : TypeId × Value → H} {W : World} {base : Nat} {v0 : Value} {d0 : DataW H} {p0 : List MemPlace} (hv : Value.okWide Tryd.prog W .any base 40 v0)
    (h : DataW.Trod enc Tryd.prog W 0 (fun _ => true) true 40 v0 d0 p0) : ∃ l : List Bool, LBools W W.heap.size v0 l := by
  obtain ⟨a0, len, cap, rfl⟩ := okWide_slice Tryd.underlying40 hv
  obtain ⟨fuel, hf⟩ := h
  obtain ⟨oa, ca, l, h1, h2, h3, h4⟩ := open_lst (R := RBool) Tryd.underlying40 cBool1 (fun fuel cs x h _ => by
    obtain ⟨t, e0, _⟩ := DataW.trod_bool Tryd.underlying4 h
    exact ⟨_, t, e0, rfl⟩) fuel _ _ hf
  simp only [Value.cells, List.cons.injEq, and_true] at h1
  exact ⟨l, oa, ca, h1, h3, h4⟩

end Go.Proofs.YthnlkijkgnmbhaaDoor
