/-
  The frame of the rows: what the list of the variables gives, how an argument of the type Value opens, and how a row closes. Nothing is assumed but what each row says.
-/
import Derived.Test.YthnlkijkgnmbhaaDoorCards
import Derived.Test.YthnlkijkgnmbhaaDoorTie
import Derived.Test.YthnlkijkgnmbhaaDoorNames
import Derived.ProofKit
import Derived.OpenShut
import Derived.Deep.Slices
import Derived.Deep.DeepHandedRow
import Derived.Lib.SmallJoins
import Derived.Lib.LaidTab
namespace Go.Proofs.YthnlkijkgnmbhaaDoor
open Go.ChangeShapes Go.WideShapes Go.ChangeAt Go.RowKit Go.Deep

theorem own : ownKnob Tryd.prog.godebug = none := by kernel_rfl
theorem laidOut : laidOutB Tryd.prog = true := by kernel_rfl
theorem gNames : Tryd.prog.globalNamed "synthesis/value.typeNames" = some 0 := by kernel_rfl
theorem tNames : (Tryd.prog.globals[0]?).map (·.type) = some 70 := by kernel_rfl
theorem cNames : Tryd.prog.cellsOf 70 = 9 := by kernel_rfl
theorem cString : Tryd.prog.cellsOf 9 = 1 := by kernel_rfl
theorem cInt : Tryd.prog.cellsOf 3 = 1 := by kernel_rfl
theorem cInt64 : Tryd.prog.cellsOf 2 = 1 := by kernel_rfl
theorem cValues : Tryd.prog.cellsOf 33 = 1 := by kernel_rfl
theorem cValue : Tryd.prog.cellsOf 48 = 4 := by kernel_rfl

/-- An array of strings that reads as given holds these strings, cell for cell. -/
theorem cells_of_strs {H : Type} {enc : TypeId × Value → H} {P : Program} {w : World} {base : Nat} {sp : Nat → Bool} {held : Bool} {fuel : Nat} {t e : TypeId} {n : Nat} {cs : List Value} {zs : List ByteArray} {p : List MemPlace}
    (ht : P.underlying t = some (.array n e)) (he : P.underlying e = some .string) (hce : P.cellsOf e = 1) (hct : P.cellsOf t = n)
    (h : DataW.trod enc P w base sp held fuel t cs = some (.agg (zs.map fun z => .lit (.string z.data.toList)), p)) : cs = zs.map fun z => Value.string z := by
  cases fuel with
  | zero => simp [DataW.trod] at h
  | succ fuel =>
    simp only [DataW.trod, ht, hce, hct, Nat.mul_one] at h
    split at h
    · rename_i hl
      obtain ⟨xs, hm, hx⟩ := Option.map_eq_some_iff.1 h
      have hxs : xs.map (·.1) = zs.map fun z => (DataW.lit (.string z.data.toList) : DataW H) := by
        have := congrArg Prod.fst hx
        simpa using this
      have hxl : xs.length = n := by simpa using Lib.mapM_length hm
      have hzl : zs.length = n := by
        have := congrArg List.length hxs
        simp at this
        omega
      apply List.ext_getElem?
      intro i
      by_cases hi : i < n
      · obtain ⟨b, hb, hf⟩ := Lib.mapM_at hm i i (by simp [hi])
        obtain ⟨z, hc, rfl, _⟩ := DataW.trod_string he hf
        have h1 : cs[i]? = some (.string z) := by
          have := congrArg (·[0]?) hc
          simpa [List.getElem?_take, List.getElem?_drop] using this
        have h2 : (xs.map (·.1))[i]? = some (DataW.lit (.string z.data.toList) : DataW H) := by simp [hb]
        rw [hxs] at h2
        simp only [List.getElem?_map, Option.map_eq_some_iff, DataW.lit.injEq, Lit.string.injEq] at h2
        obtain ⟨z', hz', he'⟩ := h2
        have : z' = z := bytes_inj he'
        subst this
        simp [h1, hz']
      · rw [List.getElem?_eq_none (by omega), List.getElem?_eq_none (by simp; omega)]
    · cases h

/-- From a row's list to the table of names. -/
theorem names_of_laid {W : World} (h : laidMetH Tryd.prog [("synthesis/value.typeNames", Rows.laid_synthesis_value_typeNames)] W) : Names W := by
  rw [MakeChecks.laidMetH_plain _ _ _ (by kernel_rfl)] at h
  obtain ⟨ps, ⟨g', t', cs, fuel, p, q, hg', ht', hvar, hd, _, _⟩, _⟩ := h
  obtain rfl := Option.some.inj (gNames.symm.trans hg')
  obtain rfl := Option.some.inj (tNames.symm.trans ht')
  have hcs := cells_of_strs (zs := [⟨#[]⟩, tname 1, tname 2, tname 3, tname 4, tname 5, tname 6, tname 7, tname 8]) Tryd.underlying70 Tryd.underlying9 cString cNames hd
  have hv : ∀ i, W.cell? ⟨0, i, none⟩ = cs[i]? := fun i => World.var?_cell gNames hvar i
  have hl : ∀ i : Nat, cs[i]? = cs.toList[i]? := fun i => Array.getElem?_toList.symm
  refine ⟨?_, ?_, ?_, ?_, ?_, ?_, ?_, ?_, ?_⟩ <;> (rw [hv, hl, hcs]; rfl)

section
variable {H : Type} {enc : TypeId × Value → H} {P : Program} {w : World} {base : Nat} {sp : Nat → Bool} {held : Bool} {tv tl t0 t1 t2 : TypeId} {f0 f1 f2 f3 : Field}

theorem vals_of (n : Nat) {α : Type} [Inhabited α] (q : Nat → α → Prop) (h : ∀ i, i < n → ∃ x, q i x) : ∃ l : List α, l.length = n ∧ ∀ i x, l[i]? = some x → q i x := by
  obtain ⟨f, hf⟩ := choose_lt h
  refine ⟨(List.range n).map f, by simp, fun i x hx => ?_⟩
  simp only [List.getElem?_map, Option.map_eq_some_iff] at hx
  obtain ⟨j, hj, rfl⟩ := hx
  obtain ⟨hj1, hj2⟩ := List.getElem?_eq_some_iff.1 hj
  simp at hj1 hj2
  subst hj2
  exact hf i hj1

instance : Inhabited V := ⟨.mk 0 0 ⟨#[]⟩ []⟩

theorem open_cells_gen (hs : P.underlying tv = some (.struct #[f0, f1, f2, f3])) (h0 : P.underlying f0.type = some (.int .i64)) (h1 : P.underlying f1.type = some (.int .i64)) (h2 : P.underlying f2.type = some .string)
    (h3 : P.underlying f3.type = some (.slice tv)) (o0 : f0.offset = 0) (o1 : f1.offset = 1) (o2 : f2.offset = 2) (o3 : f3.offset = 3)
    (c0 : P.cellsOf f0.type = 1) (c1 : P.cellsOf f1.type = 1) (c2 : P.cellsOf f2.type = 1) (c3 : P.cellsOf f3.type = 1) (c4 : P.cellsOf tv = 4) :
    ∀ (fuel : Nat) (cs : List Value) (x : DataW H × List MemPlace), DataW.trod enc P w base sp held fuel tv cs = some x →
    ∃ (v : V) (sl : Value), cs = [.int .i64 v.t, .int .i64 v.n, .string v.s, sl] ∧ Rep w w.heap.size sl v.l := by
  intro fuel
  induction fuel using Nat.strongRecOn with
  | _ fuel ih =>
    intro cs x h
    obtain ⟨xs, n, hfu, rfl, hl, hlen, hf⟩ := DataW.trod_struct hs h
    rw [c4] at hl
    match cs, hl with
    | [a0, a1, a2, a3], _ =>
      have hx : xs.length = 4 := hlen
      match xs, hx with
      | [x0, x1, x2, x3], _ =>
        have g0 := hf 0 f0 rfl
        have g1 := hf 1 f1 rfl
        have g2 := hf 2 f2 rfl
        have g3 := hf 3 f3 rfl
        rw [o0, c0] at g0
        rw [o1, c1] at g1
        rw [o2, c2] at g2
        rw [o3, c3] at g3
        obtain ⟨t, e0, _, _⟩ := DataW.trod_int h0 g0
        obtain ⟨m, e1, _, _⟩ := DataW.trod_int h1 g1
        obtain ⟨s, e2, _, _⟩ := DataW.trod_string h2 g2
        have e0' : a0 = .int .i64 t := by simpa using e0
        have e1' : a1 = .int .i64 m := by simpa using e1
        have e2' : a2 = .string s := by simpa using e2
        subst e0' e1' e2'
        rcases DataW.trod_slice h3 g3 with ⟨e3, _⟩ | ⟨a, len, cap, elems, rest, k, hk, e3, _, hb, hlc, hm, hle, hel, _, _⟩
        · have e3' : a3 = .slice none 0 0 := by simpa using e3
          subst e3'
          exact ⟨.mk t m s [], _, rfl, Rep.nil⟩
        · have e3' : a3 = .slice (some a) len cap := by simpa using e3
          subst e3'
          rw [c4] at hel
          have step : ∀ i, i < len → ∃ vs : V × Value, w.cell? (a.add (i * 4)) = some (.int .i64 vs.1.t) ∧ w.cell? (a.add (i * 4 + 1)) = some (.int .i64 vs.1.n) ∧ w.cell? (a.add (i * 4 + 2)) = some (.string vs.1.s) ∧
              w.cell? (a.add (i * 4 + 3)) = some vs.2 ∧ Rep w w.heap.size vs.2 vs.1.l := by
            intro i hi
            have h := hel i hi
            rw [List.getElem?_eq_getElem (by omega)] at h
            obtain ⟨cs', hc', ht'⟩ := Option.bind_eq_some_iff.1 h
            obtain ⟨v, sl, rfl, hR⟩ := ih k (by omega) cs' _ ht'
            obtain ⟨_, _, hcell⟩ := World.cells?_some hc'
            have k0 := hcell 0 (by omega)
            have k1 := hcell 1 (by omega)
            have k2 := hcell 2 (by omega)
            have k3 := hcell 3 (by omega)
            rw [add_add] at k0 k1 k2 k3
            exact ⟨(v, sl), k0, k1, k2, k3, hR⟩
          obtain ⟨l, hll, hall⟩ := vals_of len (fun i (vs : V × Value) => w.cell? (a.add (i * 4)) = some (.int .i64 vs.1.t) ∧ w.cell? (a.add (i * 4 + 1)) = some (.int .i64 vs.1.n) ∧ w.cell? (a.add (i * 4 + 2)) = some (.string vs.1.s) ∧
              w.cell? (a.add (i * 4 + 3)) = some vs.2 ∧ Rep w w.heap.size vs.2 vs.1.l) step
          refine ⟨.mk t m s (l.map (·.1)), _, rfl, ?_⟩
          show Rep w w.heap.size (.slice (some a) len cap) (l.map (·.1))
          by_cases hz : len = 0
          · subst hz
            obtain rfl := List.eq_nil_of_length_eq_zero hll
            exact .empty _ _
          · obtain ⟨b, off, spot⟩ := a
            have hfirst := hall 0 _ (List.getElem?_eq_getElem (by omega))
            have hspot : spot = none := by
              have := World.cell?_spot hfirst.1
              simpa [Addr.add] using this
            subst hspot
            have hblt : b < w.heap.size := by
              have := World.block_lt_of_cell? _ _ hfirst.1
              simpa [Addr.add] using this
            have key : (l.map (·.1)).length = len := by simpa using hll
            rw [← key]
            refine .arr b off cap (l.map (·.1)) (fun i => ((l[i]?).map (·.2)).getD .nilIface) hblt (by omega) (by unfold maxLen at hm; omega) (fun i v hv => ?_) (fun i v hv => ?_)
            · simp only [List.getElem?_map, Option.map_eq_some_iff] at hv
              obtain ⟨vs, hvs, rfl⟩ := hv
              obtain ⟨k0, k1, k2, k3, _⟩ := hall i vs hvs
              rw [add_plain] at k0 k1 k2 k3
              simp only [hvs, Option.map_some, Option.getD_some]
              exact ⟨k0, k1, k2, k3⟩
            · simp only [List.getElem?_map, Option.map_eq_some_iff] at hv
              obtain ⟨vs, hvs, rfl⟩ := hv
              simp only [hvs, Option.map_some, Option.getD_some]
              exact (hall i vs hvs).2.2.2.2
end

set_option maxRecDepth 100000 in
/-- An argument of the type Value. -/
theorem open_value {H : Type} {enc : TypeId × Value → H} {W : World} {base : Nat} {v0 : Value} {d0 : DataW H} {p0 : List MemPlace} (hv : Value.okWide Tryd.prog W .any base 48 v0)
    (h : DataW.Trod enc Tryd.prog W 0 (fun _ => true) true 48 v0 d0 p0) :
    ∃ (v : V) (sl : Value), v0 = .agg #[.int .i64 v.t, .int .i64 v.n, .string v.s, sl] ∧ Rep W W.heap.size sl v.l := by
  obtain ⟨cs, rfl, _⟩ := okWide_struct Tryd.underlying48 hv
  obtain ⟨fuel, hf⟩ := h
  obtain ⟨v, sl, hcs, hR⟩ := open_cells_gen Tryd.underlying48 Tryd.underlying3 Tryd.underlying2 Tryd.underlying9 Tryd.underlying33 rfl rfl rfl rfl cInt cInt64 cString cValues cValue fuel _ _ hf
  have hcs' : cs.toList = [.int .i64 v.t, .int .i64 v.n, .string v.s, sl] := hcs
  exact ⟨v, sl, by rw [← Array.toArray_toList (xs := cs), hcs'], hR⟩

/-- Arguments read again behind a call that has only made memory. -/
theorem trodAll_below {H : Type} {enc : TypeId × Value → H} {P : Program} (hl : laidOutB P = true) {W W' : World} {sp : Nat → Bool} (hb : Below W.heap.size W W') :
    ∀ {ts : List TypeId} {vs : List Value} {ds : List (DataW H)} {ps : List MemPlace}, (∀ t ∈ ts, P.readableRec t = true ∧ t < P.types.size) →
      DataW.TrodAll enc P W 0 (fun _ => true) true ts vs ds ps → (∀ p ∈ ps, p.block < W.heap.size) → (∀ p ∈ ps, sp p.block = true) → DataW.TrodAll enc P W' 0 sp true ts vs ds ps
  | [], [], [], _, _, h, _, _ => h
  | _ :: _, _ :: _, _ :: _, _, ht, ⟨p, q, h1, h2, e⟩, hlt, hs =>
    ⟨p, q, WideElems.Trod_stays hl (ht _ (List.mem_cons.2 (Or.inl rfl))).1 (ht _ (List.mem_cons.2 (Or.inl rfl))).2 h1 (fun x hx => hb.same (hlt x (by rw [e]; exact List.mem_append_left _ hx))) (fun x hx => hs x (by rw [e]; exact List.mem_append_left _ hx)),
      trodAll_below hl hb (fun t h => ht t (List.mem_cons.2 (Or.inr h))) h2 (fun x hx => hlt x (by rw [e]; exact List.mem_append_right _ hx)) (fun x hx => hs x (by rw [e]; exact List.mem_append_right _ hx)), e⟩

theorem post_of_below {H : Type} {enc : TypeId × Value → H} {P : Program} {f : Func} {s : ChangeSpec} {apart fresh handsOn again : Bool} {W W' : World} {args : Array Value} {v : Value} {ds gs : List (DataW H)} {before pa pv : List MemPlace}
    (hW : DataW.Whole enc P f.params.toList s.vars apart W args.toList ds gs before)
    (hres : ∀ (b : Nat) (sp : Nat → Bool) (hd : Bool), DataW.TrodAll enc P W' b sp hd f.resultTypes.toList (v.resultList f.resultTypes.size) (s.fn H (ds ++ gs)).results [])
    (hargs : ∀ sp : Nat → Bool, (∀ p ∈ before, sp p.block = true) → DataW.TrodAll enc P W' 0 sp true f.params.toList args.toList (s.fn H (ds ++ gs)).args pa)
    (hvars : ∀ sp : Nat → Bool, (∀ p ∈ before, sp p.block = true) → DataW.TrodVars enc P W' sp s.vars (s.fn H (ds ++ gs)).vars pv)
    (hps : before = pa ++ pv) (hb : Below W.heap.size W W')
    (hok : ∀ (j : Nat) (t : TypeId) (r : Value), f.resultTypes[j]? = some t → (v.resultList f.resultTypes.size)[j]? = some r → Value.okWide P W' .any 0 t r) :
    s.post enc P f apart fresh handsOn again W args v W' := by
  have hlt : ∀ p ∈ before, p.block < W.heap.size := fun p hp => hW.lt p hp
  have hold : ∀ p ∈ before, (fun b => decide (b < W.heap.size)) p.block = true := fun p hp => by simpa using hlt p hp
  refine ⟨ds, gs, before, [], pa, pv, hW, hres _ _ _, hargs _ hold, hvars _ hold, World.keptBut_mono (fun p hp => ⟨hp, ?_⟩) (hb.frame (· ∈ before)), fun _ => ?_⟩
  · rw [hps, List.mem_append] at hp
    exact Or.inr hp
  · obtain ⟨_, _, _, _, _, hz, hn⟩ := hW
    refine ⟨hok, _, _, ([] ++ pa) ++ pv, ⟨[] ++ pa, pv, trodAll_append (hargs _ (fun _ _ => rfl)) (hres _ _ _), hvars _ (fun _ _ => rfl), rfl, ?_, ?_⟩, ?_⟩
    · intro b off hp
      have hin : MemPlace.cell b off ∈ before := by rw [hps]; simpa using hp
      rw [hb.frozen (hlt _ hin)]
      exact hz b off hin
    · intro ha
      have := hn ha
      rw [hps] at this
      simpa using this
    · intro p hp _
      rw [hps]
      simpa using hp

/-- A world for the witness: the settled one, the table of names holding what its initialiser lays. -/
noncomputable def laidWorld (os : Os) : World :=
  { World.holding Tryd.prog os ⟨#[], #[], []⟩ with heap := (World.holding Tryd.prog os ⟨#[], #[], []⟩).heap.modify 0 fun
      | .cells _ t frozen => .cells #[.string ⟨#[]⟩, .string (tname 1), .string (tname 2), .string (tname 3), .string (tname 4), .string (tname 5), .string (tname 6), .string (tname 7), .string (tname 8)] t frozen
      | o => o }

end Go.Proofs.YthnlkijkgnmbhaaDoor
