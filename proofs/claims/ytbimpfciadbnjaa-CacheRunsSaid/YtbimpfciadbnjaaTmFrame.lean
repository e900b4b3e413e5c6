/-
  How an argument that is a term, or a list of numbers, opens. Nothing is assumed.
-/
import Derived.Test.YtbimpfciadbnjaaTmBase
import Derived.Test.YtbimpfciadbnjaaEnd
namespace Go.Proofs.Ytbimpfciadbnjaa
open Go.ChangeShapes Go.WideShapes Go.ChangeAt Go.RowKit Go.Deep

theorem cIntT : Try.prog.cellsOf 3 = 1 := by kernel_rfl
theorem cTerms : Try.prog.cellsOf 30 = 1 := by kernel_rfl
theorem cTerm : Try.prog.cellsOf 36 = 2 := by kernel_rfl

section
variable {H : Type} {enc : TypeId × Value → H} {P : Program} {w : World} {base : Nat} {sp : Nat → Bool} {held : Bool} {tv tl : TypeId} {f0 f1 : Field}

theorem vals_of (n : Nat) {α : Type} [Inhabited α] (q : Nat → α → Prop) (h : ∀ i, i < n → ∃ x, q i x) : ∃ l : List α, l.length = n ∧ ∀ i x, l[i]? = some x → q i x := by
  obtain ⟨f, hf⟩ := choose_lt h
  refine ⟨(List.range n).map f, by simp, fun i x hx => ?_⟩
  simp only [List.getElem?_map, Option.map_eq_some_iff] at hx
  obtain ⟨j, hj, rfl⟩ := hx
  obtain ⟨hj1, hj2⟩ := List.getElem?_eq_some_iff.1 hj
  simp at hj1 hj2
  subst hj2
  exact hf i hj1

instance : Inhabited T := ⟨.mk 0 []⟩

theorem open_cells_gen (hs : P.underlying tv = some (.struct #[f0, f1])) (h0 : P.underlying f0.type = some (.int .i64)) (h1 : P.underlying f1.type = some (.slice tv)) (o0 : f0.offset = 0) (o1 : f1.offset = 1)
    (c0 : P.cellsOf f0.type = 1) (c1 : P.cellsOf f1.type = 1) (c4 : P.cellsOf tv = 2) :
    ∀ (fuel : Nat) (cs : List Value) (x : DataW H × List MemPlace), DataW.trod enc P w base sp held fuel tv cs = some x →
    ∃ (v : T) (sl : Value), cs = [.int .i64 v.r, sl] ∧ Rep w w.heap.size sl v.l := by
  intro fuel
  induction fuel using Nat.strongRecOn with
  | _ fuel ih =>
    intro cs x h
    obtain ⟨xs, n, hfu, rfl, hl, hlen, hf⟩ := DataW.trod_struct hs h
    rw [c4] at hl
    match cs, hl with
    | [a0, a1], _ =>
      have hx : xs.length = 2 := hlen
      match xs, hx with
      | [x0, x1], _ =>
        have g0 := hf 0 f0 rfl
        have g1 := hf 1 f1 rfl
        rw [o0, c0] at g0
        rw [o1, c1] at g1
        obtain ⟨t, e0, _, _⟩ := DataW.trod_int h0 g0
        have e0' : a0 = .int .i64 t := by simpa using e0
        subst e0'
        rcases DataW.trod_slice h1 g1 with ⟨e3, _⟩ | ⟨a, len, cap, elems, rest, k, hk, e3, _, hb, hlc, hm, hle, hel, _, _⟩
        · have e3' : a1 = .slice none 0 0 := by simpa using e3
          subst e3'
          exact ⟨.mk t [], _, rfl, Rep.nil⟩
        · have e3' : a1 = .slice (some a) len cap := by simpa using e3
          subst e3'
          rw [c4] at hel
          have step : ∀ i, i < len → ∃ vs : T × Value, w.cell? (a.add (i * 2)) = some (.int .i64 vs.1.r) ∧ w.cell? (a.add (i * 2 + 1)) = some vs.2 ∧ Rep w w.heap.size vs.2 vs.1.l := by
            intro i hi
            have h := hel i hi
            rw [List.getElem?_eq_getElem (by omega)] at h
            obtain ⟨cs', hc', ht'⟩ := Option.bind_eq_some_iff.1 h
            obtain ⟨v, sl, rfl, hR⟩ := ih k (by omega) cs' _ ht'
            obtain ⟨_, _, hcell⟩ := World.cells?_some hc'
            have k0 := hcell 0 (by omega)
            have k1 := hcell 1 (by omega)
            rw [add_add] at k0 k1
            exact ⟨(v, sl), k0, k1, hR⟩
          obtain ⟨l, hll, hall⟩ := vals_of len (fun i (vs : T × Value) => w.cell? (a.add (i * 2)) = some (.int .i64 vs.1.r) ∧ w.cell? (a.add (i * 2 + 1)) = some vs.2 ∧ Rep w w.heap.size vs.2 vs.1.l) step
          refine ⟨.mk t (l.map (·.1)), _, rfl, ?_⟩
          show Rep w w.heap.size (.slice (some a) len cap) (l.map (·.1))
          by_cases hz : len = 0
          · subst hz
            obtain rfl := List.eq_nil_of_length_eq_zero hll
            exact .empty _ _
          · obtain ⟨b, off, spot⟩ := a
            have hfirst := hall 0 _ (List.getElem?_eq_getElem (by omega))
            have hspot : spot = none := by
              have := World.cell?_spot hfirst.1
              simpa [Addr.add] using this
            subst hspot
            have hblt : b < w.heap.size := by
              have := World.block_lt_of_cell? _ _ hfirst.1
              simpa [Addr.add] using this
            have key : (l.map (·.1)).length = len := by simpa using hll
            rw [← key]
            refine .arr b off cap (l.map (·.1)) (fun i => ((l[i]?).map (·.2)).getD .nilIface) hblt (by omega) (by unfold maxLen at hm; omega) (fun i v hv => ?_) (fun i v hv => ?_)
            · simp only [List.getElem?_map, Option.map_eq_some_iff] at hv
              obtain ⟨vs, hvs, rfl⟩ := hv
              obtain ⟨k0, k1, _⟩ := hall i vs hvs
              rw [add_plain] at k0 k1
              simp only [hvs, Option.map_some, Option.getD_some]
              exact ⟨k0, k1⟩
            · simp only [List.getElem?_map, Option.map_eq_some_iff] at hv
              obtain ⟨vs, hvs, rfl⟩ := hv
              simp only [hvs, Option.map_some, Option.getD_some]
              exact (hall i vs hvs).2.2
end

set_option maxRecDepth 100000 in
/-- An argument of the type Term. -/
theorem open_term {H : Type} {enc : TypeId × Value → H} {W : World} {base : Nat} {v0 : Value} {d0 : DataW H} {p0 : List MemPlace} (hv : Value.okWide Try.prog W .any base 36 v0)
    (h : DataW.Trod enc Try.prog W 0 (fun _ => true) true 36 v0 d0 p0) :
    ∃ (v : T) (sl : Value), v0 = .agg #[.int .i64 v.r, sl] ∧ Rep W W.heap.size sl v.l := by
  obtain ⟨cs, rfl, _⟩ := okWide_struct Try.underlying36 hv
  obtain ⟨fuel, hf⟩ := h
  obtain ⟨v, sl, hcs, hR⟩ := open_cells_gen Try.underlying36 Try.underlying3 Try.underlying30 rfl rfl cIntT cTerms cTerm fuel _ _ hf
  have hcs' : cs.toList = [.int .i64 v.r, sl] := hcs
  exact ⟨v, sl, by rw [← Array.toArray_toList (xs := cs), hcs'], hR⟩

theorem open_list {H : Type} {enc : TypeId × Value → H} {W : World} {base : Nat} {v0 : Value} {d0 : DataW H} {p0 : List MemPlace} (hv : Value.okWide Try.prog W .any base 81 v0)
    (h : DataW.Trod enc Try.prog W 0 (fun _ => true) true 81 v0 d0 p0) : ∃ l : List Int, HoldsI W W.heap.size v0 l := by
  obtain ⟨a0, len, cap, rfl⟩ := okWide_slice Try.underlying81 hv
  obtain ⟨fuel, hf⟩ := h
  rcases open_ints Try.underlying81 Try.underlying3 cIntT hf with ⟨hcs, _⟩ | ⟨a, len', cap', zs, hcs, _, hl, hm, hz, _, hcell, hwz⟩
  · simp only [Value.cells, List.cons.injEq, Value.slice.injEq, and_true] at hcs
    obtain ⟨rfl, rfl, rfl⟩ := hcs
    exact ⟨[], ⟨none, 0, rfl, Nat.zero_le _, by simp, fun i z h => by simp at h⟩⟩
  · simp only [Value.cells, List.cons.injEq, Value.slice.injEq, and_true] at hcs
    obtain ⟨rfl, rfl, rfl⟩ := hcs
    rw [if_pos rfl] at hz
    have hlen : (zs.take len).length = len := by rw [List.length_take]; omega
    refine ⟨zs.take len, ⟨some a, cap, by rw [hlen], by omega, by unfold maxLen at hm; omega, fun i z hi => ?_⟩⟩
    have hlt : i < len := by
      have := (List.getElem?_eq_some_iff.1 hi).1
      omega
    rw [List.getElem?_take, if_pos hlt] at hi
    have hc := hcell i (by omega)
    have e : zs.getD i 0 = z := by simp [List.getD, hi]
    rw [e] at hc
    obtain ⟨b, off, spot⟩ := a
    have hc0 := hcell 0 (by omega)
    have hspot : spot = none := by
      have := World.cell?_spot hc0
      simpa [Addr.add] using this
    subst hspot
    have hc1 : W.cell? ⟨b, off + i, none⟩ = some (.int .i64 z) := by
      unfold Addr.add at hc
      split at hc
      · rename_i h0
        subst h0
        exact hc
      · exact hc
    exact ⟨b, off, rfl, World.block_lt_of_cell? _ _ hc1, hc1⟩

end Go.Proofs.Ytbimpfciadbnjaa
