/-
  How an argument that is a language opens. Nothing is assumed.
-/
import Derived.Test.YtdfhfljmcakilaaTmVal
import Derived.Test.YtdfhfljmcakilaaTmFrame
namespace Go.Proofs.Ytdfhfljmcakilaa
open Go.ChangeShapes Go.WideShapes Go.ChangeAt Go.RowKit Go.Deep

theorem cStringL : Try.prog.cellsOf 9 = 1 := by kernel_rfl
theorem cInt64L : Try.prog.cellsOf 2 = 1 := by kernel_rfl
theorem cIntsL : Try.prog.cellsOf 29 = 1 := by kernel_rfl
theorem cValuesL : Try.prog.cellsOf 62 = 1 := by kernel_rfl
theorem cValueL : Try.prog.cellsOf 64 = 4 := by kernel_rfl
theorem cSymsL : Try.prog.cellsOf 42 = 1 := by kernel_rfl
theorem cSymL : Try.prog.cellsOf 61 = 2 := by kernel_rfl
theorem cRulesL : Try.prog.cellsOf 43 = 1 := by kernel_rfl
theorem cRuleL : Try.prog.cellsOf 66 = 9 := by kernel_rfl
theorem cLangL : Try.prog.cellsOf 45 = 4 := by kernel_rfl

instance : Inhabited V := ⟨.mk 0 0 ⟨#[]⟩ []⟩
instance : Inhabited Sym := ⟨⟨⟨#[]⟩, 0⟩⟩
instance : Inhabited Rul := ⟨⟨0, 0, 0, .mk 0 0 ⟨#[]⟩ [], ⟨#[]⟩, []⟩⟩

section
variable {H : Type} {enc : TypeId × Value → H} {P : Program} {w : World} {base : Nat} {sp : Nat → Bool} {held : Bool} {tv tl t0 t1 t2 te : TypeId} {f0 f1 f2 f3 : Field}
theorem openV_cells_gen (hs : P.underlying tv = some (.struct #[f0, f1, f2, f3])) (h0 : P.underlying f0.type = some (.int .i64)) (h1 : P.underlying f1.type = some (.int .i64)) (h2 : P.underlying f2.type = some .string)
    (h3 : P.underlying f3.type = some (.slice tv)) (o0 : f0.offset = 0) (o1 : f1.offset = 1) (o2 : f2.offset = 2) (o3 : f3.offset = 3)
    (c0 : P.cellsOf f0.type = 1) (c1 : P.cellsOf f1.type = 1) (c2 : P.cellsOf f2.type = 1) (c3 : P.cellsOf f3.type = 1) (c4 : P.cellsOf tv = 4) :
    ∀ (fuel : Nat) (cs : List Value) (x : DataW H × List MemPlace), DataW.trod enc P w base sp held fuel tv cs = some x →
    ∃ (v : V) (sl : Value), cs = [.int .i64 v.t, .int .i64 v.n, .string v.s, sl] ∧ VRep w w.heap.size sl v.l := by
  intro fuel
  induction fuel using Nat.strongRecOn with
  | _ fuel ih =>
    intro cs x h
    obtain ⟨xs, n, hfu, rfl, hl, hlen, hf⟩ := DataW.trod_struct hs h
    rw [c4] at hl
    match cs, hl with
    | [a0, a1, a2, a3], _ =>
      have hx : xs.length = 4 := hlen
      match xs, hx with
      | [x0, x1, x2, x3], _ =>
        have g0 := hf 0 f0 rfl
        have g1 := hf 1 f1 rfl
        have g2 := hf 2 f2 rfl
        have g3 := hf 3 f3 rfl
        rw [o0, c0] at g0
        rw [o1, c1] at g1
        rw [o2, c2] at g2
        rw [o3, c3] at g3
        obtain ⟨t, e0, _, _⟩ := DataW.trod_int h0 g0
        obtain ⟨m, e1, _, _⟩ := DataW.trod_int h1 g1
        obtain ⟨s, e2, _, _⟩ := DataW.trod_string h2 g2
        have e0' : a0 = .int .i64 t := by simpa using e0
        have e1' : a1 = .int .i64 m := by simpa using e1
        have e2' : a2 = .string s := by simpa using e2
        subst e0' e1' e2'
        rcases DataW.trod_slice h3 g3 with ⟨e3, _⟩ | ⟨a, len, cap, elems, rest, k, hk, e3, _, hb, hlc, hm, hle, hel, _, _⟩
        · have e3' : a3 = .slice none 0 0 := by simpa using e3
          subst e3'
          exact ⟨.mk t m s [], _, rfl, VRep.nil⟩
        · have e3' : a3 = .slice (some a) len cap := by simpa using e3
          subst e3'
          rw [c4] at hel
          have step : ∀ i, i < len → ∃ vs : V × Value, w.cell? (a.add (i * 4)) = some (.int .i64 vs.1.t) ∧ w.cell? (a.add (i * 4 + 1)) = some (.int .i64 vs.1.n) ∧ w.cell? (a.add (i * 4 + 2)) = some (.string vs.1.s) ∧
              w.cell? (a.add (i * 4 + 3)) = some vs.2 ∧ VRep w w.heap.size vs.2 vs.1.l := by
            intro i hi
            have h := hel i hi
            rw [List.getElem?_eq_getElem (by omega)] at h
            obtain ⟨cs', hc', ht'⟩ := Option.bind_eq_some_iff.1 h
            obtain ⟨v, sl, rfl, hR⟩ := ih k (by omega) cs' _ ht'
            obtain ⟨_, _, hcell⟩ := World.cells?_some hc'
            have k0 := hcell 0 (by omega)
            have k1 := hcell 1 (by omega)
            have k2 := hcell 2 (by omega)
            have k3 := hcell 3 (by omega)
            rw [add_add] at k0 k1 k2 k3
            exact ⟨(v, sl), k0, k1, k2, k3, hR⟩
          obtain ⟨l, hll, hall⟩ := vals_of len (fun i (vs : V × Value) => w.cell? (a.add (i * 4)) = some (.int .i64 vs.1.t) ∧ w.cell? (a.add (i * 4 + 1)) = some (.int .i64 vs.1.n) ∧ w.cell? (a.add (i * 4 + 2)) = some (.string vs.1.s) ∧
              w.cell? (a.add (i * 4 + 3)) = some vs.2 ∧ VRep w w.heap.size vs.2 vs.1.l) step
          refine ⟨.mk t m s (l.map (·.1)), _, rfl, ?_⟩
          show VRep w w.heap.size (.slice (some a) len cap) (l.map (·.1))
          by_cases hz : len = 0
          · subst hz
            obtain rfl := List.eq_nil_of_length_eq_zero hll
            exact .empty _ _
          · obtain ⟨b, off, spot⟩ := a
            have hfirst := hall 0 _ (List.getElem?_eq_getElem (by omega))
            have hspot : spot = none := by
              have := World.cell?_spot hfirst.1
              simpa [Addr.add] using this
            subst hspot
            have hblt : b < w.heap.size := by
              have := World.block_lt_of_cell? _ _ hfirst.1
              simpa [Addr.add] using this
            have key : (l.map (·.1)).length = len := by simpa using hll
            rw [← key]
            refine .arr b off cap (l.map (·.1)) (fun i => ((l[i]?).map (·.2)).getD .nilIface) hblt (by omega) (by unfold maxLen at hm; omega) (fun i v hv => ?_) (fun i v hv => ?_)
            · simp only [List.getElem?_map, Option.map_eq_some_iff] at hv
              obtain ⟨vs, hvs, rfl⟩ := hv
              obtain ⟨k0, k1, k2, k3, _⟩ := hall i vs hvs
              rw [add_plain] at k0 k1 k2 k3
              simp only [hvs, Option.map_some, Option.getD_some]
              exact ⟨k0, k1, k2, k3⟩
            · simp only [List.getElem?_map, Option.map_eq_some_iff] at hv
              obtain ⟨vs, hvs, rfl⟩ := hv
              simp only [hvs, Option.map_some, Option.getD_some]
              exact (hall i vs hvs).2.2.2.2

/-- A slice whose elements take n cells each. -/
theorem open_slice_gen {α : Type} [Inhabited α] (n : Nat) (hn : 0 < n) (hs : P.underlying tl = some (.slice te)) (hc : P.cellsOf te = n) (R : α → List Value → Prop)
    (hR : ∀ (fuel : Nat) (cs : List Value) (x : DataW H × List MemPlace), DataW.trod enc P w base sp held fuel te cs = some x → ∃ a, R a cs)
    (fuel : Nat) (c : Value) (x : DataW H × List MemPlace) (h : DataW.trod enc P w base sp held fuel tl [c] = some x) :
    ∃ (l : List α) (oa : Option Addr) (cap : Nat), c = .slice oa l.length cap ∧ l.length ≤ cap ∧ cap ≤ 9223372036854775807 ∧
      ∀ i a, l[i]? = some a → ∃ (b off : Nat) (cs : List Value), oa = some ⟨b, off, none⟩ ∧ b < w.heap.size ∧ R a cs ∧ cs.length = n ∧ ∀ j, j < n → w.cell? ⟨b, off + i * n + j, none⟩ = cs[j]? := by
  rcases DataW.trod_slice hs h with ⟨e, _⟩ | ⟨a, len, cap, elems, rest, k, hk, e, _, hb, hlc, hm, hle, hel, _, _⟩
  · simp at e
    exact ⟨[], none, 0, e, Nat.le_refl _, by omega, fun i a h => by simp at h⟩
  · simp at e
    rw [hc] at hel
    have step : ∀ i, i < len → ∃ ac : α × List Value, R ac.1 ac.2 ∧ ac.2.length = n ∧ ∀ j, j < n → w.cell? (a.add (i * n + j)) = ac.2[j]? := by
      intro i hi
      have h := hel i hi
      rw [List.getElem?_eq_getElem (by omega)] at h
      obtain ⟨cs', hc', ht'⟩ := Option.bind_eq_some_iff.1 h
      obtain ⟨v, hv⟩ := hR _ _ _ ht'
      obtain ⟨_, hl', hcell⟩ := World.cells?_some hc'
      exact ⟨(v, cs'), hv, hl', fun j hj => by have := hcell j hj; rwa [add_add] at this⟩
    haveI : Inhabited (α × List Value) := ⟨(default, [])⟩
    obtain ⟨l, hll, hall⟩ := vals_of len (fun i (ac : α × List Value) => R ac.1 ac.2 ∧ ac.2.length = n ∧ ∀ j, j < n → w.cell? (a.add (i * n + j)) = ac.2[j]?) step
    refine ⟨l.map (·.1), some a, cap, by rw [e]; simp [hll], by simp; omega, by unfold maxLen at hm; omega, fun i u hu => ?_⟩
    simp only [List.getElem?_map, Option.map_eq_some_iff] at hu
    obtain ⟨ac, hac, rfl⟩ := hu
    obtain ⟨h1, h2, h3⟩ := hall i ac hac
    obtain ⟨b, off, spot⟩ := a
    have h30 := h3 0 hn
    rw [List.getElem?_eq_getElem (by omega)] at h30
    have hl0 : 0 < l.length := by have := (List.getElem?_eq_some_iff.1 hac).1; omega
    obtain ⟨_, f2, f3⟩ := hall 0 _ (List.getElem?_eq_getElem hl0)
    have f30 := f3 0 hn
    rw [List.getElem?_eq_getElem (by omega)] at f30
    have hspot : spot = none := by
      have := World.cell?_spot f30
      simpa [Addr.add] using this
    subst hspot
    rw [add_plain] at h30
    have hblt : b < w.heap.size := by
      have := World.block_lt_of_cell? _ _ h30
      simpa using this
    refine ⟨b, off, ac.2, rfl, hblt, h1, h2, fun j hj => ?_⟩
    have := h3 j hj
    rw [add_plain] at this
    rw [Nat.add_assoc]
    exact this
end

section
variable {H : Type} {enc : TypeId × Value → H} {w : World} {base : Nat} {sp : Nat → Bool} {held : Bool}

theorem opensI (fuel : Nat) (c : Value) (x : DataW H × List MemPlace) (h : DataW.trod enc Try.prog w base sp held fuel 29 [c] = some x) : ∃ l : List Int, HoldsI w w.heap.size c l := by
  obtain ⟨l, oa, cap, rfl, h1, h2, h3⟩ := open_slice_gen (α := Int) 1 (by decide) Try.underlying29 cIntT (fun z cs => cs = [.int .i64 z]) (fun fuel cs x h => by
    obtain ⟨z, e, _, _⟩ := DataW.trod_int Try.underlying3 h
    exact ⟨z, e⟩) fuel c x h
  refine ⟨l, oa, cap, rfl, h1, h2, fun i z hz => ?_⟩
  obtain ⟨b, off, cs, e1, e2, rfl, _, e3⟩ := h3 i z hz
  have := e3 0 (by decide)
  exact ⟨b, off, e1, e2, by simpa using this⟩

set_option maxRecDepth 100000 in
theorem opensY (fuel : Nat) (c : Value) (x : DataW H × List MemPlace) (h : DataW.trod enc Try.prog w base sp held fuel 42 [c] = some x) : ∃ l : List Sym, HoldsY w w.heap.size c l := by
  obtain ⟨l, oa, cap, rfl, h1, h2, h3⟩ := open_slice_gen (α := Sym) 2 (by decide) Try.underlying42 cSymL (fun s cs => cs = [.string s.nm, .int .i64 s.t]) (fun fuel cs x h => by
    obtain ⟨xs, n, hfu, rfl, hl, hlen, hf⟩ := DataW.trod_struct Try.underlying61 h
    rw [cSymL] at hl
    match cs, hl with
    | [a0, a1], _ =>
      have hx : xs.length = 2 := hlen
      match xs, hx with
      | [x0, x1], _ =>
        have g0 : DataW.trod enc Try.prog w base sp held n 9 (([a0, a1].drop 0).take (Try.prog.cellsOf 9)) = some x0 := hf 0 _ rfl
        have g1 : DataW.trod enc Try.prog w base sp held n 3 (([a0, a1].drop 1).take (Try.prog.cellsOf 3)) = some x1 := hf 1 _ rfl
        rw [cStringL] at g0
        rw [cIntT] at g1
        obtain ⟨s, e0, _, _⟩ := DataW.trod_string Try.underlying9 g0
        obtain ⟨z, e1, _, _⟩ := DataW.trod_int Try.underlying3 g1
        have e0' : a0 = .string s := by simpa using e0
        have e1' : a1 = .int .i64 z := by simpa using e1
        exact ⟨⟨s, z⟩, by rw [e0', e1']⟩) fuel c x h
  refine ⟨l, oa, cap, rfl, h1, h2, fun i z hz => ?_⟩
  obtain ⟨b, off, cs, e1, e2, rfl, _, e3⟩ := h3 i z hz
  have k0 := e3 0 (by decide)
  have k1 := e3 1 (by decide)
  exact ⟨b, off, e1, e2, by simpa using k0, by simpa using k1⟩

set_option maxRecDepth 100000 in
set_option maxHeartbeats 1600000 in
theorem opensU (fuel : Nat) (c : Value) (x : DataW H × List MemPlace) (h : DataW.trod enc Try.prog w base sp held fuel 43 [c] = some x) : ∃ l : List Rul, HoldsU w w.heap.size c l := by
  obtain ⟨l, oa, cap, rfl, h1, h2, h3⟩ := open_slice_gen (α := Rul) 9 (by decide) Try.underlying43 cRuleL
    (fun r cs => ∃ xi xa, cs = [.int .i64 r.sy, .int .i64 r.k, .int .i64 r.i, .int .i64 r.c.t, .int .i64 r.c.n, .string r.c.s, xi, .string r.op, xa] ∧ VRep w w.heap.size xi r.c.l ∧ HoldsI w w.heap.size xa r.ags) (fun fuel cs x h => by
    obtain ⟨xs, n, hfu, rfl, hl, hlen, hf⟩ := DataW.trod_struct Try.underlying66 h
    rw [cRuleL] at hl
    match cs, hl with
    | [a0, a1, a2, a3, a4, a5, a6, a7, a8], _ =>
      have hx : xs.length = 6 := hlen
      match xs, hx with
      | [x0, x1, x2, x3, x4, x5], _ =>
        have g0 : DataW.trod enc Try.prog w base sp held n 3 (([a0, a1, a2, a3, a4, a5, a6, a7, a8].drop 0).take (Try.prog.cellsOf 3)) = some x0 := hf 0 _ rfl
        have g1 : DataW.trod enc Try.prog w base sp held n 3 (([a0, a1, a2, a3, a4, a5, a6, a7, a8].drop 1).take (Try.prog.cellsOf 3)) = some x1 := hf 1 _ rfl
        have g2 : DataW.trod enc Try.prog w base sp held n 3 (([a0, a1, a2, a3, a4, a5, a6, a7, a8].drop 2).take (Try.prog.cellsOf 3)) = some x2 := hf 2 _ rfl
        have g3 : DataW.trod enc Try.prog w base sp held n 64 (([a0, a1, a2, a3, a4, a5, a6, a7, a8].drop 3).take (Try.prog.cellsOf 64)) = some x3 := hf 3 _ rfl
        have g4 : DataW.trod enc Try.prog w base sp held n 9 (([a0, a1, a2, a3, a4, a5, a6, a7, a8].drop 7).take (Try.prog.cellsOf 9)) = some x4 := hf 4 _ rfl
        have g5 : DataW.trod enc Try.prog w base sp held n 29 (([a0, a1, a2, a3, a4, a5, a6, a7, a8].drop 8).take (Try.prog.cellsOf 29)) = some x5 := hf 5 _ rfl
        rw [cIntT] at g0 g1 g2
        rw [cValueL] at g3
        rw [cStringL] at g4
        rw [cIntsL] at g5
        obtain ⟨z0, e0, _, _⟩ := DataW.trod_int Try.underlying3 g0
        obtain ⟨z1, e1, _, _⟩ := DataW.trod_int Try.underlying3 g1
        obtain ⟨z2, e2, _, _⟩ := DataW.trod_int Try.underlying3 g2
        obtain ⟨v, sl, e3, hv⟩ := openV_cells_gen Try.underlying64 Try.underlying3 Try.underlying2 Try.underlying9 Try.underlying62 rfl rfl rfl rfl cIntT cInt64L cStringL cValuesL cValueL _ _ _ g3
        obtain ⟨s, e4, _, _⟩ := DataW.trod_string Try.underlying9 g4
        have g5' : DataW.trod enc Try.prog w base sp held n 29 [a8] = some x5 := by simpa using g5
        obtain ⟨la, hla⟩ := opensI _ _ _ g5'
        have e0' : a0 = .int .i64 z0 := by simpa using e0
        have e1' : a1 = .int .i64 z1 := by simpa using e1
        have e2' : a2 = .int .i64 z2 := by simpa using e2
        have e3' : a3 = .int .i64 v.t ∧ a4 = .int .i64 v.n ∧ a5 = .string v.s ∧ a6 = sl := by simpa using e3
        have e4' : a7 = .string s := by simpa using e4
        obtain ⟨q1, q2, q3, q4⟩ := e3'
        subst e0' e1' e2' q1 q2 q3 q4 e4'
        exact ⟨⟨z0, z1, z2, v, s, la⟩, _, _, rfl, hv, hla⟩) fuel c x h
  refine ⟨l, oa, cap, rfl, h1, h2, fun i r hr => ?_⟩
  obtain ⟨b, off, cs, e1, e2, ⟨xi, xa, rfl, hi, ha⟩, _, e3⟩ := h3 i r hr
  refine ⟨b, off, e1, e2, ?_⟩
  have k0 := e3 0 (by decide)
  have k1 := e3 1 (by decide)
  have k2 := e3 2 (by decide)
  have k3 := e3 3 (by decide)
  have k4 := e3 4 (by decide)
  have k5 := e3 5 (by decide)
  have k6 := e3 6 (by decide)
  have k7 := e3 7 (by decide)
  have k8 := e3 8 (by decide)
  exact ⟨by simpa using k0, by simpa using k1, by simpa using k2, by simpa using k3, by simpa using k4, by simpa using k5, ⟨xi, by simpa using k6, hi⟩, by simpa using k7, ⟨xa, by simpa using k8, ha⟩⟩
end

set_option maxRecDepth 100000 in
/-- An argument of the type Language. -/
theorem open_lang {H : Type} {enc : TypeId × Value → H} {W : World} {base : Nat} {v0 : Value} {d0 : DataW H} {p0 : List MemPlace} (hv : Value.okWide Try.prog W .any base 45 v0)
    (h : DataW.Trod enc Try.prog W 0 (fun _ => true) true 45 v0 d0 p0) :
    ∃ (L : Lan) (x1 x2 x3 : Value), v0 = lanV L x1 x2 x3 ∧ HoldsL W W.heap.size x1 x2 x3 L := by
  obtain ⟨cs, rfl, _⟩ := okWide_struct Try.underlying45 hv
  obtain ⟨fuel, hf⟩ := h
  have hf0 : DataW.trod enc Try.prog W 0 (fun _ => true) true fuel 45 cs.toList = some (d0, p0) := hf
  clear hf
  generalize hcs : cs.toList = csl at hf0
  obtain ⟨xs, n, hfu, _, hl, hlen, hf⟩ := DataW.trod_struct Try.underlying45 hf0
  have hl' : csl.length = 4 := by rw [← cLangL]; exact hl
  match csl, hl' with
  | [a0, a1, a2, a3], _ =>
    have hx : xs.length = 4 := hlen
    match xs, hx with
    | [x0, x1, x2, x3], _ =>
      have g0 : DataW.trod enc Try.prog W 0 (fun _ => true) true n 9 (([a0, a1, a2, a3].drop 0).take (Try.prog.cellsOf 9)) = some x0 := hf 0 _ rfl
      have g1 : DataW.trod enc Try.prog W 0 (fun _ => true) true n 29 (([a0, a1, a2, a3].drop 1).take (Try.prog.cellsOf 29)) = some x1 := hf 1 _ rfl
      have g2 : DataW.trod enc Try.prog W 0 (fun _ => true) true n 42 (([a0, a1, a2, a3].drop 2).take (Try.prog.cellsOf 42)) = some x2 := hf 2 _ rfl
      have g3 : DataW.trod enc Try.prog W 0 (fun _ => true) true n 43 (([a0, a1, a2, a3].drop 3).take (Try.prog.cellsOf 43)) = some x3 := hf 3 _ rfl
      rw [cStringL] at g0
      rw [cIntsL] at g1
      rw [cSymsL] at g2
      rw [cRulesL] at g3
      obtain ⟨s, e0, _, _⟩ := DataW.trod_string Try.underlying9 g0
      have e0' : a0 = .string s := by simpa using e0
      have g1' : DataW.trod enc Try.prog W 0 (fun _ => true) true n 29 [a1] = some x1 := by simpa using g1
      have g2' : DataW.trod enc Try.prog W 0 (fun _ => true) true n 42 [a2] = some x2 := by simpa using g2
      have g3' : DataW.trod enc Try.prog W 0 (fun _ => true) true n 43 [a3] = some x3 := by simpa using g3
      obtain ⟨l1, h1⟩ := opensI _ _ _ g1'
      obtain ⟨l2, h2⟩ := opensY _ _ _ g2'
      obtain ⟨l3, h3⟩ := opensU _ _ _ g3'
      exact ⟨⟨s, l1, l2, l3⟩, a1, a2, a3, by rw [← Array.toArray_toList (xs := cs), hcs, e0'], h1, h2, h3⟩

end Go.Proofs.Ytdfhfljmcakilaa
