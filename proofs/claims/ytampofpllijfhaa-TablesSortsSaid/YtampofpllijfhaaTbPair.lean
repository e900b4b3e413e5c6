/-
  The map of a call that gives texts to pairs of texts. Nothing is assumed.
-/
import Derived.Test.YtampofpllijfhaaTbDup
import Derived.Maps.OwnSet
import Derived.DeepKeys4
import Derived.Carry
namespace Go.Proofs.Ytampofpllijfhaa
open Go.RowKit Go.MapKept

theorem laidPair : laidOutB Try.prog = true := by kernel_rfl
theorem rowPair : (66 : TypeId) < Try.prog.types.size := of_decide_eq_true (by kernel_rfl)
theorem widePair : (match Try.prog.underlying 66 with | some (.array _ _) | some (.struct _) => true | _ => false) = true := by kernel_rfl
theorem lawPair : Go.Maps.Keyed Try.prog 66 := Go.Maps.Keyed.of_law (deep_law_laid laidPair (m := 2) (by omega) rowPair (by kernel_rfl) widePair)
theorem cellsText : Try.prog.cellsOf 9 = 1 := by kernel_rfl
theorem cellsPair : Try.prog.cellsOf 66 = 2 := by kernel_rfl
theorem kindPair : Try.prog.keyType 66 = true := by kernel_rfl
theorem manyTypes : ∃ n, Try.prog.types.size = n + 1 := ⟨Try.prog.types.size - 1, by kernel_rfl⟩
theorem zeroText (w : World) : (zeroValue 9).run Try.prog w = .ok (.string ⟨#[]⟩) w := by kernel_rfl

abbrev Pair := ByteArray × ByteArray
def pairV (p : Pair) : Value := .agg #[.string p.1, .string p.2]
theorem pairV_inj {p q : Pair} (h : pairV p = pairV q) : p = q := by
  obtain ⟨a, b⟩ := p
  obtain ⟨c, d⟩ := q
  simp only [pairV, Value.agg.injEq, Array.mk.injEq, List.cons.injEq, Value.string.injEq, and_true] at h
  rw [h.1, h.2]
theorem key_two {P : Program} {k s : TypeId} (fs : Array Field) (hk : P.underlying k = some (.struct fs)) (f1 f2 : Field) (hfs : fs = #[f1, f2]) (o1 : f1.offset = 0) (o2 : f2.offset = 1) (t1 : f1.type = s) (t2 : f2.type = s) (n1 : (f1.name != "_") = true) (n2 : (f2.name != "_") = true)
    (hkt : P.keyType k = true) (hc : P.cellsOf k = 2) (hs : P.underlying s = some .string) (hcs : P.cellsOf s = 1) (hn : ∃ n, P.types.size = n + 1) (a b : ByteArray) (ha : a.size ≤ maxLen) (hb : b.size ≤ maxLen) :
    ∃ l, keyOf P k (.agg #[.string a, .string b]) = some l := by
  obtain ⟨n, hn⟩ := hn
  subst hfs
  refine ⟨.string (keyBytes [.string a.data.toList, .string b.data.toList]), ?_⟩
  simp at n1 n2
  simp [keyOf, hk, hkt, Value.formed, hc, hn, Program.keyLits, hcs, hs, ha, hb, Value.cells, o1, o2, t1, t2, n1, n2]
theorem key_pair (p : Pair) (ha : p.1.size ≤ maxLen) (hb : p.2.size ≤ maxLen) : ∃ l, keyOf Try.prog 66 (pairV p) = some l :=
  key_two _ Try.underlying66 _ _ rfl rfl rfl rfl rfl (by decide) (by decide) kindPair cellsPair Try.underlying9 cellsText manyTypes p.1 p.2 ha hb

/-- What the map in a block gives to each pair. -/
def MapF (w : World) (b : Nat) (f : Pair → Option ByteArray) : Prop :=
  ∃ es clock, w.heap[b]? = some (.map es clock) ∧ (∀ e ∈ es.toList, ∃ p s, e.key = pairV p ∧ e.val = .string s ∧ f p = some s ∧ p.1.size ≤ maxLen ∧ p.2.size ≤ maxLen) ∧ (∀ p, (f p).isSome = true → ∃ e ∈ es.toList, e.key = pairV p)
theorem MapF.made (w : World) : MapF (w.alloc (.map #[] 0)) w.heap.size (fun _ => none) :=
  ⟨#[], 0, by show (w.heap.push _)[w.heap.size]? = _; exact Array.getElem?_push_size, fun e he => by simp at he, fun p h => by simp at h⟩
theorem MapF.lt {w : World} {b : Nat} {f : Pair → Option ByteArray} (h : MapF w b f) : b < w.heap.size := by
  obtain ⟨es, clock, hb, _⟩ := h
  exact (Array.getElem?_eq_some_iff.1 hb).1
theorem MapF.later {w w' : World} {b B : Nat} {f : Pair → Option ByteArray} (h : MapF w b f) (hb : Below B w w') (hB : b < B) : MapF w' b f := by
  obtain ⟨es, clock, h1, h2⟩ := h
  exact ⟨es, clock, (hb.block b hB).trans h1, h2⟩
theorem MapF.find {w : World} {b : Nat} {f : Pair → Option ByteArray} (h : MapF w b f) (p : Pair) (ha : p.1.size ≤ maxLen) (hb : p.2.size ≤ maxLen) :
    ∃ es clock, w.heap[b]? = some (.map es clock) ∧ (((Instr.findKey 66 (pairV p) es.toList).run Try.prog w = .ok none w ∧ f p = none ∧ ∀ e ∈ es.toList, e.key ≠ pairV p) ∨
      ∃ j s, (Instr.findKey 66 (pairV p) es.toList).run Try.prog w = .ok (some (j, .string s)) w ∧ f p = some s) := by
  obtain ⟨es, clock, h1, h2, h3⟩ := h
  obtain ⟨l, hl⟩ := key_pair p ha hb
  refine ⟨es, clock, h1, ?_⟩
  rcases lawPair.find w hl es.toList (fun e he => by
    obtain ⟨q, s, hq, _, _, qa, qb⟩ := h2 e he
    rw [hq]
    exact key_pair q qa qb) with ⟨hr, hn⟩ | ⟨j, e, hr, he, hk⟩
  · refine .inl ⟨hr, ?_, hn⟩
    cases hf : f p with
    | none => rfl
    | some s =>
      obtain ⟨e, he, hk⟩ := h3 p (by rw [hf]; rfl)
      exact absurd hk (hn e he)
  · obtain ⟨q, s, hq, hv, hf, _⟩ := h2 e (List.mem_of_getElem? he)
    rw [hq] at hk
    obtain rfl := pairV_inj hk
    rw [hv] at hr
    exact .inr ⟨j, s, hr, hf⟩

section
variable (w : World) {ops : Array Oper} {rest : List Oper} {o : Oper} {a : Act} {Q : Exit → Act → World → Prop}

theorem lookup_pair (hg : o.guard = none) (m x : Operand) (hop : o.op = Op.lookup 62 m x false) (b : Nat) (f : Pair → Option ByteArray) (hm : a.eval m = .map (some b)) (h : MapF w b f)
    (c d : ByteArray) (hx : a.eval x = .agg #[.string c, .string d]) (hc : c.size ≤ maxLen) (hd : d.size ≤ maxLen) (hK : wpList Try.prog ops Q rest (a.put o.dst (.string ((f (c, d)).getD ⟨#[]⟩))) w) : wpList Try.prog ops Q (o :: rest) a w := by
  refine wpList_plain hg fun K' hK' => ?_
  obtain ⟨l, hl⟩ := key_pair (c, d) hc hd
  have hrun : (Instr.lookup 62 (.map (some b)) (.agg #[.string c, .string d]) false).run Try.prog w = .ok (.string ((f (c, d)).getD ⟨#[]⟩)) w := by
    obtain ⟨es, clock, hb, h1⟩ := h.find (c, d) hc hd
    have hck := lawPair.check w es.isEmpty hl
    dsimp only [pairV] at hck h1
    rcases h1 with ⟨h1, h2, _⟩ | ⟨j, s, h1, h2⟩
    · simp [Instr.lookup, run_underlying Try.underlying62, MapKept.run_getObj_map hb, hck, h1, zeroText w, Result.andThen, h2]
    · simp [Instr.lookup, run_underlying Try.underlying62, MapKept.run_getObj_map hb, hck, h1, Result.andThen, h2]
  unfold Oper.wp
  simp [execOp, hop, hm, hx, hrun, Result.andThen]
  exact hK' _ _ hK

theorem lookup_pair_ok (hg : o.guard = none) (m x : Operand) (hop : o.op = Op.lookup 62 m x true) (b : Nat) (f : Pair → Option ByteArray) (hm : a.eval m = .map (some b)) (h : MapF w b f)
    (c d : ByteArray) (hx : a.eval x = .agg #[.string c, .string d]) (hc : c.size ≤ maxLen) (hd : d.size ≤ maxLen) (hK : wpList Try.prog ops Q rest (a.put o.dst (.tuple #[.string ((f (c, d)).getD ⟨#[]⟩), .bool (f (c, d)).isSome])) w) : wpList Try.prog ops Q (o :: rest) a w := by
  refine wpList_plain hg fun K' hK' => ?_
  obtain ⟨l, hl⟩ := key_pair (c, d) hc hd
  have hrun : (Instr.lookup 62 (.map (some b)) (.agg #[.string c, .string d]) true).run Try.prog w = .ok (.tuple #[.string ((f (c, d)).getD ⟨#[]⟩), .bool (f (c, d)).isSome]) w := by
    obtain ⟨es, clock, hb, h1⟩ := h.find (c, d) hc hd
    have hck := lawPair.check w es.isEmpty hl
    dsimp only [pairV] at hck h1
    rcases h1 with ⟨h1, h2, _⟩ | ⟨j, s, h1, h2⟩
    · simp [Instr.lookup, run_underlying Try.underlying62, MapKept.run_getObj_map hb, hck, h1, zeroText w, Result.andThen, h2]
    · simp [Instr.lookup, run_underlying Try.underlying62, MapKept.run_getObj_map hb, hck, h1, Result.andThen, h2]
  unfold Oper.wp
  simp [execOp, hop, hm, hx, hrun, Result.andThen]
  exact hK' _ _ hK

theorem update_pair (hg : o.guard = none) (m x v : Operand) (hop : o.op = Op.mapUpdate 62 m x v) (b : Nat) (f : Pair → Option ByteArray) (hm : a.eval m = .map (some b)) (h : MapF w b f)
    (c d s : ByteArray) (hx : a.eval x = .agg #[.string c, .string d]) (hv : a.eval v = .string s) (hc : c.size ≤ maxLen) (hd : d.size ≤ maxLen) (hnew : f (c, d) = none)
    (hK : ∀ w', MapF w' b (fun q => if q = (c, d) then some s else f q) → w.grownBy w' (some b) → wpList Try.prog ops Q rest (a.put o.dst undef) w') : wpList Try.prog ops Q (o :: rest) a w := by
  refine wpList_plain hg fun K' hK' => ?_
  obtain ⟨l, hl⟩ := key_pair (c, d) hc hd
  have hrun : ∃ w', (Instr.mapUpdate 62 (.map (some b)) (.agg #[.string c, .string d]) (.string s)).run Try.prog w = .ok () w' ∧ MapF w' b (fun q => if q = (c, d) then some s else f q) ∧ w.grownBy w' (some b) := by
    obtain ⟨es, clock, hb, h1⟩ := h.find (c, d) hc hd
    have hck2 := lawPair.check w false hl
    rcases h1 with ⟨h1, h2, hne⟩ | ⟨j, s, h1, h2⟩
    · refine ⟨ChangeMaps.setBlock w b (.map (es.push ⟨pairV (c, d), .string s, clock⟩) (clock + 1)), ?_, ?_, ?_⟩
      · dsimp only [pairV] at hck2 h1
        unfold pairV
        simp [Instr.mapUpdate, run_underlying Try.underlying62, MapKept.run_getObj_map hb, hck2, h1, MapKept.run_setObj_map _ hb, Result.andThen, ChangeMaps.setBlock]
      · obtain ⟨es', clock', hb', he1, he2⟩ := h
        rw [hb] at hb'
        cases hb'
        refine ⟨_, _, ChangeMaps.heap_setBlock_same hb _, fun e he => ?_, fun p hp => ?_⟩
        · simp only [Array.toList_push, List.mem_append, List.mem_singleton] at he
          rcases he with he | rfl
          · obtain ⟨p, z, hk, hv, hf, hs⟩ := he1 e he
            refine ⟨p, z, hk, hv, ?_, hs⟩
            show (if p = (c, d) then some s else f p) = some z
            rw [if_neg, hf]
            intro e2
            rw [e2] at hk
            exact hne e he hk
          · exact ⟨(c, d), s, rfl, rfl, if_pos rfl, hc, hd⟩
        · by_cases hp2 : p = (c, d)
          · subst hp2
            exact ⟨⟨pairV (c, d), .string s, clock⟩, by simp, rfl⟩
          · have hp : (if p = (c, d) then some s else f p).isSome = true := hp
            rw [if_neg hp2] at hp
            obtain ⟨e, he, hk⟩ := he2 p hp
            exact ⟨e, by simp [he], hk⟩
      · exact ⟨rfl, rfl, rfl, by simp [ChangeMaps.setBlock], fun i _ hi => ChangeMaps.heap_setBlock_other hb _ (fun e => hi (by rw [e]))⟩
    · rw [hnew] at h2
      cases h2
  obtain ⟨w', hrun, r1, r2⟩ := hrun
  unfold Oper.wp
  simp [execOp, hop, hm, hx, hv, hrun, Result.andThen]
  exact hK' _ _ (hK w' r1 r2)
end

end Go.Proofs.Ytampofpllijfhaa
