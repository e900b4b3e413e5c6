/-
  How an argument of the struct Parts (package synthesislaw01) opens: a bool, a number, a text, a list of numbers, a list of texts, a list of lists of texts. Nothing is assumed.
-/
import Derived.Test.YtohecojckghedaaDoorFrame
import Derived.Test.YtohecojckghedaaDoorLst
namespace Go.Proofs.YtohecojckghedaaDoor
open Go.ChangeShapes Go.WideShapes Go.ChangeAt Go.RowKit Go.Deep

section
variable {H : Type} {enc : TypeId × Value → H} {P : Program} {w : World} {base : Nat} {sp : Nat → Bool} {held : Bool} {tl te : TypeId}

theorem open_lst {α : Type} [Inhabited α] {R : World → Nat → Value → α → Prop} (hs : P.underlying tl = some (.slice te)) (hc : P.cellsOf te = 1)
    (hR : ∀ (fuel : Nat) (cs : List Value) (x : DataW H × List MemPlace), DataW.trod enc P w base sp held fuel te cs = some x → cs.length = 1 → ∃ (c : Value) (a : α), cs = [c] ∧ R w w.heap.size c a)
    (fuel : Nat) (cs : List Value) (x : DataW H × List MemPlace) (h : DataW.trod enc P w base sp held fuel tl cs = some x) : ∃ (c : Value) (l : List α), cs = [c] ∧ Lst R w w.heap.size c l := by
  rcases DataW.trod_slice hs h with ⟨rfl, _⟩ | ⟨a, len, cap, elems, rest, k, hk, rfl, _, hb, hlc, hm, hle, hel, _, _⟩
  · exact ⟨_, [], rfl, none, 0, rfl, by simp, fun i a ha => by simp at ha⟩
  · rw [hc] at hel
    have step : ∀ i, i < len → ∃ ca : Value × α, w.cell? (a.add (i * 1)) = some ca.1 ∧ R w w.heap.size ca.1 ca.2 := by
      intro i hi
      have h := hel i hi
      rw [List.getElem?_eq_getElem (by omega)] at h
      obtain ⟨cs', hc', ht'⟩ := Option.bind_eq_some_iff.1 h
      obtain ⟨_, hlen, hcell⟩ := World.cells?_some hc'
      obtain ⟨c, x, rfl, hr⟩ := hR k cs' _ ht' hlen
      have k0 := hcell 0 (by omega)
      rw [add_add] at k0
      exact ⟨(c, x), k0, hr⟩
    obtain ⟨l, hll, hall⟩ := vals_of len (fun i (ca : Value × α) => w.cell? (a.add (i * 1)) = some ca.1 ∧ R w w.heap.size ca.1 ca.2) step
    refine ⟨_, l.map (·.2), rfl, some a, cap, by rw [List.length_map, hll], by rw [List.length_map, hll]; unfold maxLen at hm; omega, fun i y hy => ?_⟩
    simp only [List.getElem?_map, Option.map_eq_some_iff] at hy
    obtain ⟨ca, hca, rfl⟩ := hy
    obtain ⟨h1, h2⟩ := hall i ca hca
    obtain ⟨b, off, spot⟩ := a
    have hspot : spot = none := by
      have hi := (List.getElem?_eq_some_iff.1 hca).1
      have := World.cell?_spot (hall 0 _ (List.getElem?_eq_getElem (by omega))).1
      simpa [Addr.add] using this
    subst hspot
    rw [add_plain, Nat.mul_one] at h1
    exact ⟨b, off, ca.1, rfl, World.block_lt_of_cell? _ _ h1, h1, h2⟩
end

theorem cInts : Tryd.prog.cellsOf 39 = 1 := by kernel_rfl
theorem cStrs : Tryd.prog.cellsOf 40 = 1 := by kernel_rfl
theorem cRows : Tryd.prog.cellsOf 41 = 1 := by kernel_rfl
theorem cBool : Tryd.prog.cellsOf 4 = 1 := by kernel_rfl
theorem cParts : Tryd.prog.cellsOf 43 = 6 := by kernel_rfl

section
variable {H : Type} {enc : TypeId × Value → H} {w : World} {base : Nat} {sp : Nat → Bool} {held : Bool}
theorem open_ints (fuel : Nat) (cs : List Value) (x : DataW H × List MemPlace) (h : DataW.trod enc Tryd.prog w base sp held fuel 39 cs = some x) : ∃ (c : Value) (l : List Int), cs = [c] ∧ LInts w w.heap.size c l :=
  open_lst Tryd.underlying39 cInt64 (fun fuel cs x h hl => by
    obtain ⟨t, e0, _, _⟩ := DataW.trod_int Tryd.underlying2 h
    exact ⟨_, t, e0, rfl⟩) fuel cs x h
theorem open_strs (fuel : Nat) (cs : List Value) (x : DataW H × List MemPlace) (h : DataW.trod enc Tryd.prog w base sp held fuel 40 cs = some x) : ∃ (c : Value) (l : List ByteArray), cs = [c] ∧ LStrs w w.heap.size c l :=
  open_lst Tryd.underlying40 cString (fun fuel cs x h hl => by
    obtain ⟨t, e0, _, _⟩ := DataW.trod_string Tryd.underlying9 h
    exact ⟨_, t, e0, rfl⟩) fuel cs x h
theorem open_rows (fuel : Nat) (cs : List Value) (x : DataW H × List MemPlace) (h : DataW.trod enc Tryd.prog w base sp held fuel 41 cs = some x) : ∃ (c : Value) (l : List (List ByteArray)), cs = [c] ∧ LRows w w.heap.size c l :=
  open_lst (R := LStrs) Tryd.underlying41 cStrs (fun fuel cs x h _ => open_strs fuel cs x h) fuel cs x h
end

theorem open_six {H : Type} {enc : TypeId × Value → H} {P : Program} {w : World} {base : Nat} {sp : Nat → Bool} {held : Bool} {t : TypeId} {f0 f1 f2 f3 f4 f5 : Field} (hs : P.underlying t = some (.struct #[f0, f1, f2, f3, f4, f5])) (ht : P.cellsOf t = 6)
    (o0 : f0.offset = 0) (o1 : f1.offset = 1) (o2 : f2.offset = 2) (o3 : f3.offset = 3) (o4 : f4.offset = 4) (o5 : f5.offset = 5)
    (c0 : P.cellsOf f0.type = 1) (c1 : P.cellsOf f1.type = 1) (c2 : P.cellsOf f2.type = 1) (c3 : P.cellsOf f3.type = 1) (c4 : P.cellsOf f4.type = 1) (c5 : P.cellsOf f5.type = 1)
    (fuel : Nat) (cs : List Value) (x : DataW H × List MemPlace) (h : DataW.trod enc P w base sp held fuel t cs = some x) :
    ∃ (a0 a1 a2 a3 a4 a5 : Value) (x0 x1 x2 x3 x4 x5 : DataW H × List MemPlace) (n : Nat), cs = [a0, a1, a2, a3, a4, a5] ∧ DataW.trod enc P w base sp held n f0.type [a0] = some x0 ∧ DataW.trod enc P w base sp held n f1.type [a1] = some x1 ∧
      DataW.trod enc P w base sp held n f2.type [a2] = some x2 ∧ DataW.trod enc P w base sp held n f3.type [a3] = some x3 ∧ DataW.trod enc P w base sp held n f4.type [a4] = some x4 ∧ DataW.trod enc P w base sp held n f5.type [a5] = some x5 := by
  obtain ⟨xs, n, hfu, rfl, hl, hlen, hf⟩ := DataW.trod_struct hs h
  rw [ht] at hl
  match cs, hl with
  | [a0, a1, a2, a3, a4, a5], _ =>
    have hx : xs.length = 6 := hlen
    match xs, hx with
    | [x0, x1, x2, x3, x4, x5], _ =>
      have g0 := hf 0 f0 rfl
      have g1 := hf 1 f1 rfl
      have g2 := hf 2 f2 rfl
      have g3 := hf 3 f3 rfl
      have g4 := hf 4 f4 rfl
      have g5 := hf 5 f5 rfl
      rw [o0, c0] at g0
      rw [o1, c1] at g1
      rw [o2, c2] at g2
      rw [o3, c3] at g3
      rw [o4, c4] at g4
      rw [o5, c5] at g5
      exact ⟨a0, a1, a2, a3, a4, a5, x0, x1, x2, x3, x4, x5, n, rfl, g0, g1, g2, g3, g4, g5⟩

set_option maxRecDepth 100000 in
/-- An argument of the type Parts. -/
theorem open_parts {H : Type} {enc : TypeId × Value → H} {W : World} {base : Nat} {v0 : Value} {d0 : DataW H} {p0 : List MemPlace} (hv : Value.okWide Tryd.prog W .any base 43 v0)
    (h : DataW.Trod enc Tryd.prog W 0 (fun _ => true) true 43 v0 d0 p0) :
    ∃ (b : Bool) (n : Int) (s : ByteArray) (si st sr : Value) (zs : List Int) (ts : List ByteArray) (rs : List (List ByteArray)),
      v0 = .agg #[.bool b, .int .i64 n, .string s, si, st, sr] ∧ LInts W W.heap.size si zs ∧ LStrs W W.heap.size st ts ∧ LRows W W.heap.size sr rs := by
  obtain ⟨cs, rfl, _⟩ := okWide_struct Tryd.underlying43 hv
  obtain ⟨fuel, hf⟩ := h
  obtain ⟨a0, a1, a2, a3, a4, a5, x0, x1, x2, x3, x4, x5, n, hcs, g0, g1, g2, g3, g4, g5⟩ := open_six Tryd.underlying43 cParts rfl rfl rfl rfl rfl rfl cBool cInt64 cString cInts cStrs cRows fuel _ _ hf
  obtain ⟨b, e0, _, _⟩ := DataW.trod_bool Tryd.underlying4 g0
  obtain ⟨m, e1, _, _⟩ := DataW.trod_int Tryd.underlying2 g1
  obtain ⟨s, e2, _, _⟩ := DataW.trod_string Tryd.underlying9 g2
  obtain ⟨si, zs, e3, h3⟩ := open_ints _ _ _ g3
  obtain ⟨st, ts, e4, h4⟩ := open_strs _ _ _ g4
  obtain ⟨sr, rs, e5, h5⟩ := open_rows _ _ _ g5
  simp only [List.cons.injEq, and_true] at e0 e1 e2 e3 e4 e5
  subst e0 e1 e2 e3 e4 e5
  have hcs' : cs.toList = [.bool b, .int .i64 m, .string s, a3, a4, a5] := hcs
  exact ⟨b, m, s, a3, a4, a5, zs, ts, rs, by rw [← Array.toArray_toList (xs := cs), hcs'], h3, h4, h5⟩

end Go.Proofs.YtohecojckghedaaDoor
