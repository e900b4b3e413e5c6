/-
  Rows of different types lie apart; the rows of places that a search lays. Nothing is assumed.
-/
import Derived.Test.YtaipaddfehpmgaaDoorPtPure
import Derived.Test.YtaipaddfehpmgaaDoorPtRep
import Derived.Maps.OwnSet
import Derived.DeepKeys4
import Derived.Test.YtaipaddfehpmgaaDoorPaLong
namespace Go.Proofs.YtaipaddfehpmgaaDoor

section
open Go.RowKit

section
variable {K : Type} [DecidableEq K]
/-- The first place of a state. -/
def idxL : List K → K → Option Nat
  | [], _ => none
  | a :: l, x => if a = x then some 0 else (idxL l x).map (· + 1)
theorem idxL_some {l : List K} {x : K} : ∀ {k : Nat}, idxL l x = some k → l[k]? = some x := by
  induction l with
  | nil => intro k h; cases h
  | cons a l ih =>
    intro k h
    rw [idxL] at h
    split at h
    · rename_i e; cases h; rw [e]; rfl
    · rw [Option.map_eq_some_iff] at h
      obtain ⟨j, h1, rfl⟩ := h
      exact ih h1
theorem idxL_lt {l : List K} {x : K} {k : Nat} (h : idxL l x = some k) : k < l.length := (List.getElem?_eq_some_iff.1 (idxL_some h)).1
theorem idxL_snoc {l : List K} {x : K} (h : idxL l x = none) (q : K) : idxL (l ++ [x]) q = if q = x then some l.length else idxL l q := by
  induction l with
  | nil =>
    rw [List.nil_append, idxL, idxL, idxL]
    by_cases e : x = q
    · subst e; simp
    · rw [if_neg e, if_neg (fun h => e h.symm)]; rfl
  | cons a l ih =>
    rw [idxL] at h
    split at h
    · cases h
    · rename_i hax
      have h' : idxL l x = none := by
        cases hx : idxL l x with
        | none => rfl
        | some k => rw [hx] at h; cases h
      rw [List.cons_append, idxL, ih h', idxL]
      by_cases e : a = q
      · subst e
        rw [if_pos rfl, if_pos rfl, if_neg hax]
      · rw [if_neg e, if_neg e]
        by_cases e2 : q = x
        · rw [if_pos e2, if_pos e2]; rfl
        · rw [if_neg e2, if_neg e2]
theorem idxL_none {l : List K} {x : K} (h : idxL l x = none) : x ∉ l := by
  induction l with
  | nil => intro h; cases h
  | cons a l ih =>
    rw [idxL] at h
    split at h
    · cases h
    · rename_i hax
      rw [Option.map_eq_none_iff] at h
      intro hm
      rcases List.mem_cons.1 hm with e | hm
      · exact hax e.symm
      · exact ih h hm
/-- What follows a state is looked up, and laid behind the others if it is new. -/
def addsE : List K → List K → List Nat → List K × List Nat
  | found, [], to => (found, to)
  | found, x :: r, to => match idxL found x with
    | some k => addsE found r (to ++ [k])
    | none => addsE (found ++ [x]) r (to ++ [found.length])
theorem addsE_some {found : List K} {x : K} {r : List K} {to : List Nat} {k : Nat} (h : idxL found x = some k) : addsE found (x :: r) to = addsE found r (to ++ [k]) := by rw [addsE, h]
theorem addsE_none {found : List K} {x : K} {r : List K} {to : List Nat} (h : idxL found x = none) : addsE found (x :: r) to = addsE (found ++ [x]) r (to ++ [found.length]) := by rw [addsE, h]
theorem addsE_len (r : List K) : ∀ (found : List K) (to : List Nat), found.length ≤ (addsE found r to).1.length ∧ (addsE found r to).1.length ≤ found.length + r.length ∧ (addsE found r to).2.length = to.length + r.length := by
  induction r with
  | nil => intro found to; rw [addsE]; exact ⟨Nat.le_refl _, Nat.le_refl _, rfl⟩
  | cons x r ih =>
    intro found to
    cases h : idxL found x with
    | some k => rw [addsE_some h]; have := ih found (to ++ [k]); simp only [List.length_append, List.length_cons, List.length_nil] at *; omega
    | none => rw [addsE_none h]; have := ih (found ++ [x]) (to ++ [found.length]); simp only [List.length_append, List.length_cons, List.length_nil] at *; omega
theorem addsE_pre (r : List K) : ∀ (found : List K) (to : List Nat), (∃ m, (addsE found r to).1 = found ++ m) ∧ ∃ m, (addsE found r to).2 = to ++ m := by
  induction r with
  | nil => intro found to; rw [addsE]; exact ⟨⟨[], by simp⟩, ⟨[], by simp⟩⟩
  | cons x r ih =>
    intro found to
    cases h : idxL found x with
    | some k =>
      rw [addsE_some h]
      obtain ⟨h1, m, h2⟩ := ih found (to ++ [k])
      exact ⟨h1, k :: m, by rw [h2]; simp⟩
    | none =>
      rw [addsE_none h]
      obtain ⟨⟨m1, h1⟩, m, h2⟩ := ih (found ++ [x]) (to ++ [found.length])
      exact ⟨⟨x :: m1, by rw [h1]; simp⟩, found.length :: m, by rw [h2]; simp⟩
theorem addsE_ok {P : K → Prop} (r : List K) : ∀ (found : List K) (to : List Nat), (∀ x, x ∈ found → P x) → (∀ x, x ∈ r → P x) → (∀ k, k ∈ to → k < found.length) → (∀ x, x ∈ (addsE found r to).1 → P x) ∧ ∀ k, k ∈ (addsE found r to).2 → k < (addsE found r to).1.length := by
  induction r with
  | nil => intro found to h1 _ h3; rw [addsE]; exact ⟨h1, h3⟩
  | cons x r ih =>
    intro found to h1 h2 h3
    cases h : idxL found x with
    | some k =>
      rw [addsE_some h]
      refine ih found (to ++ [k]) h1 (fun y hy => h2 y (List.mem_cons_of_mem _ hy)) fun j hj => ?_
      rcases List.mem_append.1 hj with hj | hj
      · exact h3 j hj
      · rw [List.mem_singleton.1 hj]; exact idxL_lt h
    | none =>
      rw [addsE_none h]
      refine ih (found ++ [x]) (to ++ [found.length]) (fun y hy => ?_) (fun y hy => h2 y (List.mem_cons_of_mem _ hy)) fun j hj => ?_
      · rcases List.mem_append.1 hy with hy | hy
        · exact h1 y hy
        · rw [List.mem_singleton.1 hy]; exact h2 x (List.mem_cons_self ..)
      · rw [List.length_append]
        rcases List.mem_append.1 hj with hj | hj
        · exact Nat.lt_add_right _ (h3 j hj)
        · rw [List.mem_singleton.1 hj]; exact Nat.lt_succ_self _
/-- The search: the states that are found, and for each one whose turn has been, the places of what follows it. -/
def exL (next : K → List K) : Nat → List K → List (List Nat) → Option (List K × List (List Nat))
  | 0, _, _ => none
  | g + 1, found, edges => match found[edges.length]? with
    | none => some (found, edges)
    | some x => if 4096 < (addsE found (next x) []).1.length then none else exL next g (addsE found (next x) []).1 (edges ++ [(addsE found (next x) []).2])
theorem exL_end (next : K → List K) (g : Nat) {found : List K} {edges : List (List Nat)} (h : found.length ≤ edges.length) : exL next (g + 1) found edges = some (found, edges) := by
  rw [exL, List.getElem?_eq_none h]
theorem exL_next (next : K → List K) (g : Nat) {found : List K} {edges : List (List Nat)} {x : K} (h : found[edges.length]? = some x) :
    exL next (g + 1) found edges = if 4096 < (addsE found (next x) []).1.length then none else exL next g (addsE found (next x) []).1 (edges ++ [(addsE found (next x) []).2]) := by
  rw [exL, h]
/-- What holds of all that a search has laid. -/
structure ExI (P : K → Prop) (c : Nat) (found : List K) (edges : List (List Nat)) : Prop where
  ok : ∀ x, x ∈ found → P x
  le : edges.length ≤ found.length
  lm : found.length ≤ 4096
  ne : found ≠ []
  el : ∀ (i : Nat) (to : List Nat), edges[i]? = some to → to.length = c ∧ ∀ (j k : Nat), to[j]? = some k → k < found.length
theorem ExI.step {P : K → Prop} {c : Nat} {found : List K} {edges : List (List Nat)} (h : ExI P c found edges) (r : List K) (hr : ∀ x, x ∈ r → P x) (hc : r.length = c) (hl : edges.length < found.length) (hm : (addsE found r []).1.length ≤ 4096) : ExI P c (addsE found r []).1 (edges ++ [(addsE found r []).2]) := by
  obtain ⟨h1, h2, h3⟩ := addsE_len r found []
  obtain ⟨h4, h5⟩ := addsE_ok r found [] h.ok hr (fun k hk => by cases hk)
  refine ⟨h4, by rw [List.length_append]; show edges.length + 1 ≤ _; omega, hm, fun e => by rw [e] at h1; have := List.length_eq_zero_iff.1 (Nat.le_zero.1 h1); exact h.ne this, fun i to hi => ?_⟩
  rw [List.getElem?_append] at hi
  split at hi
  · obtain ⟨q1, q2⟩ := h.el i to hi
    exact ⟨q1, fun j k hk => Nat.lt_of_lt_of_le (q2 j k hk) h1⟩
  · have hi0 := (List.getElem?_eq_some_iff.1 hi).1
    simp only [List.length_singleton] at hi0
    obtain rfl : to = (addsE found r []).2 := by
      have e : i - edges.length = 0 := by omega
      rw [e] at hi
      cases hi
      rfl
    exact ⟨by rw [h3, List.length_nil, Nat.zero_add, hc], fun j k hk => h5 k (List.mem_of_getElem? hk)⟩
theorem exL_inv {P : K → Prop} {c : Nat} {next : K → List K} (hn : ∀ x, P x → (∀ y, y ∈ next x → P y) ∧ (next x).length = c) : ∀ (g : Nat) (found : List K) (edges : List (List Nat)) (F : List K) (E : List (List Nat)), ExI P c found edges → exL next g found edges = some (F, E) → ExI P c F E ∧ E.length = F.length
  | 0, _, _, _, _, _, h => by cases h
  | g + 1, found, edges, F, E, hI, h => by
    cases hx : found[edges.length]? with
    | none =>
      have hle := List.getElem?_eq_none_iff.1 hx
      rw [exL_end _ _ hle] at h
      cases h
      exact ⟨hI, Nat.le_antisymm hI.le hle⟩
    | some x =>
      rw [exL_next _ _ hx] at h
      split at h
      · cases h
      · rename_i hm
        obtain ⟨q1, q2⟩ := hn x (hI.ok x (List.mem_of_getElem? hx))
        exact exL_inv hn g _ _ F E (hI.step (next x) q1 q2 (List.getElem?_eq_some_iff.1 hx).1 (by omega)) h
end
end

section
open Go.RowKit Go.MapKept

theorem zeroInt (w : World) : (zeroValue 3).run Tryd.prog w = .ok (.int .i64 0) w := by kernel_rfl

section
variable {K : Type}
/-- What is asked of the keys of a map. -/
structure KeyR (kt mt : TypeId) (kv : K → Value) (P : K → Prop) : Prop where
  law : Go.Maps.Keyed Tryd.prog kt
  und : Tryd.prog.underlying mt = some (.map kt 3)
  inj : ∀ {x y : K}, kv x = kv y → x = y
  key : ∀ x, P x → ∃ l, keyOf Tryd.prog kt (kv x) = some l
/-- What the map in a block gives to each key. -/
def MapK (kv : K → Value) (P : K → Prop) (w : World) (b : Nat) (f : K → Option Nat) : Prop :=
  ∃ es clock, w.heap[b]? = some (.map es clock) ∧ (∀ e ∈ es.toList, ∃ x n, e.key = kv x ∧ e.val = .int .i64 ((n : Nat) : Int) ∧ f x = some n ∧ P x) ∧ (∀ x, (f x).isSome = true → ∃ e ∈ es.toList, e.key = kv x)
theorem MapK.made {kv : K → Value} {P : K → Prop} (w : World) : MapK kv P (w.alloc (.map #[] 0)) w.heap.size (fun _ => none) :=
  ⟨#[], 0, by show (w.heap.push _)[w.heap.size]? = _; exact Array.getElem?_push_size, fun e he => by simp at he, fun p h => by simp at h⟩
theorem MapK.lt {kv : K → Value} {P : K → Prop} {w : World} {b : Nat} {f : K → Option Nat} (h : MapK kv P w b f) : b < w.heap.size := by
  obtain ⟨es, clock, hb, _⟩ := h
  exact (Array.getElem?_eq_some_iff.1 hb).1
theorem MapK.keep {kv : K → Value} {P : K → Prop} {w w' : World} {b : Nat} {f : K → Option Nat} (h : MapK kv P w b f) (hb : w'.heap[b]? = w.heap[b]?) : MapK kv P w' b f := by
  obtain ⟨es, clock, h1, h2⟩ := h
  exact ⟨es, clock, hb.trans h1, h2⟩
theorem MapK.no_row {kv : K → Value} {P : K → Prop} {w : World} {b : Nat} {f : K → Option Nat} (h : MapK kv P w b f) {cs : Array Value} {t : TypeId} {fr : Nat × Nat} (hb : w.heap[b]? = some (.cells cs t fr)) : False := by
  obtain ⟨es, clock, h1, h2⟩ := h
  rw [h1] at hb
  cases hb
variable {kt mt : TypeId} {kv : K → Value} {P : K → Prop}
theorem MapK.find (R : KeyR kt mt kv P) {w : World} {b : Nat} {f : K → Option Nat} (h : MapK kv P w b f) (x : K) (hx : P x) :
    ∃ es clock, w.heap[b]? = some (.map es clock) ∧ (((Instr.findKey kt (kv x) es.toList).run Tryd.prog w = .ok none w ∧ f x = none ∧ ∀ e ∈ es.toList, e.key ≠ kv x) ∨
      ∃ j n, (Instr.findKey kt (kv x) es.toList).run Tryd.prog w = .ok (some (j, .int .i64 ((n : Nat) : Int))) w ∧ f x = some n) := by
  obtain ⟨es, clock, h1, h2, h3⟩ := h
  obtain ⟨l, hl⟩ := R.key x hx
  refine ⟨es, clock, h1, ?_⟩
  rcases R.law.find w hl es.toList (fun e he => by
    obtain ⟨q, n, hq, _, _, hP⟩ := h2 e he
    rw [hq]
    exact R.key q hP) with ⟨hr, hn⟩ | ⟨j, e, hr, he, hk⟩
  · refine .inl ⟨hr, ?_, hn⟩
    cases hf : f x with
    | none => rfl
    | some s =>
      obtain ⟨e, he, hk⟩ := h3 x (by rw [hf]; rfl)
      exact absurd hk (hn e he)
  · obtain ⟨q, n, hq, hv, hf, _⟩ := h2 e (List.mem_of_getElem? he)
    rw [hq] at hk
    obtain rfl := R.inj hk
    rw [hv] at hr
    exact .inr ⟨j, n, hr, hf⟩
/-- One key more. -/
theorem MapK.run_new [DecidableEq K] (R : KeyR kt mt kv P) {w : World} {b : Nat} {f : K → Option Nat} (h : MapK kv P w b f) (x : K) (n : Nat) (hx : P x) (hnew : f x = none) :
    ∃ w', (Instr.mapUpdate mt (.map (some b)) (kv x) (.int .i64 (n : Int))).run Tryd.prog w = .ok () w' ∧ MapK kv P w' b (fun q => if q = x then some n else f q) ∧ w.grownBy w' (some b) := by
  obtain ⟨l, hl⟩ := R.key x hx
  obtain ⟨es, clock, hb, h1⟩ := h.find R x hx
  have hck2 := R.law.check w false hl
  rcases h1 with ⟨h1, h2, hne⟩ | ⟨j, s, h1, h2⟩
  · refine ⟨ChangeMaps.setBlock w b (.map (es.push ⟨kv x, .int .i64 (n : Int), clock⟩) (clock + 1)), ?_, ?_, ?_⟩
    · simp [Instr.mapUpdate, run_underlying R.und, MapKept.run_getObj_map hb, hck2, h1, MapKept.run_setObj_map _ hb, Result.andThen, ChangeMaps.setBlock]
    · obtain ⟨es', clock', hb', he1, he2⟩ := h
      rw [hb] at hb'
      cases hb'
      refine ⟨_, _, ChangeMaps.heap_setBlock_same hb _, fun e he => ?_, fun p hp => ?_⟩
      · simp only [Array.toList_push, List.mem_append, List.mem_singleton] at he
        rcases he with he | rfl
        · obtain ⟨p, z, hk, hv, hf, hs⟩ := he1 e he
          refine ⟨p, z, hk, hv, ?_, hs⟩
          show (if p = x then some n else f p) = some z
          rw [if_neg, hf]
          intro e2
          rw [e2] at hk
          exact hne e he hk
        · exact ⟨x, n, rfl, rfl, if_pos rfl, hx⟩
      · by_cases hp2 : p = x
        · subst hp2
          exact ⟨⟨kv p, .int .i64 (n : Int), clock⟩, by simp, rfl⟩
        · have hp : (if p = x then some n else f p).isSome = true := hp
          rw [if_neg hp2] at hp
          obtain ⟨e, he, hk⟩ := he2 p hp
          exact ⟨e, by simp [he], hk⟩
    · exact ⟨rfl, rfl, rfl, by simp [ChangeMaps.setBlock], fun i _ hi => ChangeMaps.heap_setBlock_other hb _ (fun e => hi (by rw [e]))⟩
  · rw [hnew] at h2
    cases h2
theorem MapK.run_ask (R : KeyR kt mt kv P) {w : World} {b : Nat} {f : K → Option Nat} (h : MapK kv P w b f) (x : K) (hx : P x) :
    (Instr.lookup mt (.map (some b)) (kv x) true).run Tryd.prog w = .ok (.tuple #[.int .i64 (((f x).getD 0 : Nat) : Int), .bool (f x).isSome]) w := by
  obtain ⟨l, hl⟩ := R.key x hx
  obtain ⟨es, clock, hb, h1⟩ := h.find R x hx
  have hck := R.law.check w es.isEmpty hl
  rcases h1 with ⟨h1, h2, _⟩ | ⟨j, s, h1, h2⟩
  · simp [Instr.lookup, run_underlying R.und, MapKept.run_getObj_map hb, hck, h1, zeroInt w, Result.andThen, h2]
  · simp [Instr.lookup, run_underlying R.und, MapKept.run_getObj_map hb, hck, h1, Result.andThen, h2]

variable (w : World) {ops : Array Oper} {rest : List Oper} {o : Oper} {a : Act} {Q : Exit → Act → World → Prop}
theorem lookup_k (R : KeyR kt mt kv P) (hg : o.guard = none) (m x : Operand) (hop : o.op = Op.lookup mt m x true) (b : Nat) (f : K → Option Nat) (hm : a.eval m = .map (some b)) (h : MapK kv P w b f)
    (k : K) (hx : a.eval x = kv k) (hk : P k) (hK : wpList Tryd.prog ops Q rest (a.put o.dst (.tuple #[.int .i64 (((f k).getD 0 : Nat) : Int), .bool (f k).isSome])) w) : wpList Tryd.prog ops Q (o :: rest) a w := by
  refine wpList_plain hg fun K' hK' => ?_
  have hrun := h.run_ask R k hk
  unfold Oper.wp
  simp [execOp, hop, hm, hx, hrun, Result.andThen]
  exact hK' _ _ hK
theorem lookup_none (R : KeyR kt mt kv P) (hg : o.guard = none) (m x : Operand) (hop : o.op = Op.lookup mt m x true) (b : Nat) (f : K → Option Nat) (hm : a.eval m = .map (some b)) (h : MapK kv P w b f)
    (k : K) (hx : a.eval x = kv k) (hk : P k) (hf : f k = none) (hK : wpList Tryd.prog ops Q rest (a.put o.dst (.tuple #[.int .i64 0, .bool false])) w) : wpList Tryd.prog ops Q (o :: rest) a w :=
  lookup_k w R hg m x hop b f hm h k hx hk (by rw [hf]; exact hK)
theorem lookup_some (R : KeyR kt mt kv P) (hg : o.guard = none) (m x : Operand) (hop : o.op = Op.lookup mt m x true) (b : Nat) (f : K → Option Nat) (hm : a.eval m = .map (some b)) (h : MapK kv P w b f)
    (k : K) (hx : a.eval x = kv k) (hk : P k) (j : Nat) (hf : f k = some j) (hK : wpList Tryd.prog ops Q rest (a.put o.dst (.tuple #[.int .i64 (j : Int), .bool true])) w) : wpList Tryd.prog ops Q (o :: rest) a w :=
  lookup_k w R hg m x hop b f hm h k hx hk (by rw [hf]; exact hK)
theorem update_k [DecidableEq K] (R : KeyR kt mt kv P) (hg : o.guard = none) (m x v : Operand) (hop : o.op = Op.mapUpdate mt m x v) (b : Nat) (f : K → Option Nat) (hm : a.eval m = .map (some b)) (h : MapK kv P w b f)
    (k : K) (n : Nat) (hx : a.eval x = kv k) (hv : a.eval v = .int .i64 (n : Int)) (hk : P k) (hnew : f k = none)
    (hK : ∀ w', MapK kv P w' b (fun q => if q = k then some n else f q) → w.grownBy w' (some b) → wpList Tryd.prog ops Q rest (a.put o.dst undef) w') : wpList Tryd.prog ops Q (o :: rest) a w := by
  refine wpList_plain hg fun K' hK' => ?_
  obtain ⟨w', hrun, r1, r2⟩ := h.run_new R k n hk hnew
  unfold Oper.wp
  simp [execOp, hop, hm, hx, hv, hrun, Result.andThen]
  exact hK' _ _ (hK w' r1 r2)
theorem insert_k [DecidableEq K] (R : KeyR kt mt kv P) (hg : o.guard = none) (m x v : Operand) (hop : o.op = Op.insert mt m x v) (b : Nat) (f : K → Option Nat) (hm : a.eval m = .map (some b)) (h : MapK kv P w b f)
    (k : K) (n : Nat) (hx : a.eval x = kv k) (hv : a.eval v = .int .i64 (n : Int)) (hk : P k) (hnew : f k = none)
    (hK : ∀ w', MapK kv P w' b (fun q => if q = k then some n else f q) → w.grownBy w' (some b) → wpList Tryd.prog ops Q rest (a.put o.dst undef) w') : wpList Tryd.prog ops Q (o :: rest) a w := by
  refine wpList_plain hg fun K' hK' => ?_
  obtain ⟨w', hrun, r1, r2⟩ := h.run_new R k n hk hnew
  unfold Oper.wp
  simp [execOp, hop, hm, hx, hv, hrun, Result.andThen]
  exact hK' _ _ (hK w' r1 r2)
end

/-- The numbers of 64 bits. -/
def UI (x : Int) : Prop := 0 ≤ x ∧ x < 2 ^ 64
theorem keyS : KeyR (K := Int) 42 114 (Value.int .u64) UI where
  law := Go.Maps.int_keyed Tryd.underlying42
  und := Tryd.underlying114
  inj := fun h => by simpa using h
  key := fun x hx => ⟨_, Go.Maps.keyOf_int_mk Tryd.underlying42 (by
    obtain ⟨h0, h1⟩ := hx
    simp [Lit.wf, IntKind.min, IntKind.max, IntKind.bits, IntKind.signed]
    omega)⟩

/-- Two states as one. -/
def prV (p : Int × Int) : Value := .agg #[.int .u64 p.1, .int .u64 p.2]
def UP (p : Int × Int) : Prop := UI p.1 ∧ UI p.2
theorem laidPr : laidOutB Tryd.prog = true := by kernel_rfl
theorem rowPr : (54 : TypeId) < Tryd.prog.types.size := of_decide_eq_true (by kernel_rfl)
theorem widePr : (match Tryd.prog.underlying 54 with | some (.array _ _) | some (.struct _) => true | _ => false) = true := by kernel_rfl
set_option maxRecDepth 100000 in
theorem lawPr : Go.Maps.Keyed Tryd.prog 54 := Go.Maps.Keyed.of_law (deep_law_laid laidPr (m := 2) (by omega) rowPr (by kernel_rfl) widePr)
theorem key_two {P : Program} {k s : TypeId} (fs : Array Field) (hk : P.underlying k = some (.struct fs)) (f1 f2 : Field) (hfs : fs = #[f1, f2]) (o1 : f1.offset = 0) (o2 : f2.offset = 1) (t1 : f1.type = s) (t2 : f2.type = s) (n1 : (f1.name != "_") = true) (n2 : (f2.name != "_") = true)
    (hkt : P.keyType k = true) (hc : P.cellsOf k = 2) (hs : P.underlying s = some (.int .u64)) (hcs : P.cellsOf s = 1) (hn : ∃ n, P.types.size = n + 1) (a b : Int) (ha : (Lit.int .u64 a).wf = true) (hb : (Lit.int .u64 b).wf = true) :
    ∃ l, keyOf P k (.agg #[.int .u64 a, .int .u64 b]) = some l := by
  obtain ⟨n, hn⟩ := hn
  subst hfs
  simp at n1 n2
  simp [keyOf, hk, hkt, Value.formed, hc, hn, Program.keyLits, hcs, hs, ha, hb, Value.cells, o1, o2, t1, t2, n1, n2]
theorem keyP : KeyR (K := Int × Int) 54 108 prV UP where
  law := lawPr
  und := Tryd.underlying108
  inj := fun {x y} h => by
    obtain ⟨a, b⟩ := x
    obtain ⟨c, d⟩ := y
    simp only [prV, Value.agg.injEq, Array.mk.injEq, List.cons.injEq, Value.int.injEq, and_true, true_and] at h
    rw [h.1, h.2]
  key := fun x hx => key_two _ Tryd.underlying54 _ _ rfl rfl rfl rfl rfl (by decide) (by decide) (by kernel_rfl) (by kernel_rfl) Tryd.underlying42 (by kernel_rfl) ⟨Tryd.prog.types.size - 1, by kernel_rfl⟩ x.1 x.2 (by
    obtain ⟨⟨h0, h1⟩, _⟩ := hx
    simp [Lit.wf, IntKind.min, IntKind.max, IntKind.bits, IntKind.signed]
    omega) (by
    obtain ⟨_, h0, h1⟩ := hx
    simp [Lit.wf, IntKind.min, IntKind.max, IntKind.bits, IntKind.signed]
    omega)
end

section
open Go.RowKit

theorem row_at {w : World} {base e size n : Nat} {v : Value} {xs : List Value} (h : w.ownsRow base e size v n xs) {q : Nat} (hq : v.ownBlock = some q) : ∃ cur, w.heap[q]? = some (.cells cur e (0, 0)) := by
  rcases h.2 with ⟨rfl, _⟩ | ⟨g, cap, cur, rfl, _, hh, _⟩
  · cases hq
  · cases hq; exact ⟨cur, hh⟩
theorem own_keep {w w' : World} {base e size n : Nat} {v : Value} {xs : List Value} (h : w.ownsRow base e size v n xs) (hk : ∀ (q : Nat) (cur : Array Value), w.heap[q]? = some (.cells cur e (0, 0)) → v.ownBlock = some q → w'.heap[q]? = w.heap[q]?) : w'.ownsRow base e size v n xs := by
  refine ⟨h.1, ?_⟩
  rcases h.2 with h0 | ⟨g, cap, cur, hv, hg, hh, r⟩
  · exact .inl h0
  · exact .inr ⟨g, cap, cur, hv, hg, (hk g cur hh (by rw [hv]; rfl)).trans hh, r⟩
theorem below_keep {w w' : World} (h : Below w.heap.size w w') {q : Nat} {o : Obj} (hq : w.heap[q]? = some o) : w'.heap[q]? = w.heap[q]? := h.block q (Array.getElem?_eq_some_iff.1 hq).1
theorem grown_keep {w w' : World} {r : Option Nat} (h : w.grownBy w' r) {q : Nat} {o : Obj} (hq : w.heap[q]? = some o) (hr : r ≠ some q) : w'.heap[q]? = w.heap[q]? := h.block q (Array.getElem?_eq_some_iff.1 hq).1 (fun e => hr e.symm)
/-- A row of another type is not the row that grows. -/
theorem apart {w : World} {base e size n : Nat} {v : Value} {xs : List Value} (h : w.ownsRow base e size v n xs) {q : Nat} {cur : Array Value} {e' : TypeId} {fr : Nat × Nat} (hq : w.heap[q]? = some (.cells cur e' fr)) (he : e ≠ e') : v.ownBlock ≠ some q := fun hv => by
  obtain ⟨c2, h2⟩ := row_at h hv
  rw [hq] at h2
  cases h2
  exact he rfl

/-- A row of places that a call builds. -/
def OwnI (w : World) (base : Nat) (v : Value) (l : List Nat) : Prop := w.ownsRow base 3 1 v l.length (l.map fun k : Nat => Value.int .i64 (k : Int))
theorem infoI : (Tryd.prog.info? 3).map (fun i => (i.zero, i.size, i.bytes)) = some (some (.int .i64 0), 1, 8) := by kernel_rfl
theorem infoL : (Tryd.prog.info? 85).map (fun i => (i.zero, i.size, i.bytes)) = some (some (.slice none 0 0), 1, 24) := by kernel_rfl
theorem OwnI.cur {w : World} {base g cap : Nat} {l : List Nat} (h : OwnI w base (.slice (some ⟨g, 0, none⟩) l.length cap) l) : ∃ cur, w.heap[g]? = some (.cells cur 3 (0, 0)) ∧ ∀ (j x : Nat), l[j]? = some x → cur[j]? = some (.int .i64 (x : Int)) := by
  rcases h.2 with ⟨hv, _⟩ | ⟨g2, cap2, cur, hv, _, hh, _, _, _, htk⟩
  · cases hv
  · cases hv
    refine ⟨cur, hh, fun j x hx => ?_⟩
    have hj := (List.getElem?_eq_some_iff.1 hx).1
    have h1 : (cur.toList.take (l.length * 1))[j]? = some (.int .i64 (x : Int)) := by rw [htk, List.getElem?_map, hx]; rfl
    rw [List.getElem?_take, if_pos (by omega)] at h1
    simpa using h1
/-- The rows of places that are laid so far. -/
def EdA (w : World) (base M : Nat) (v : Value) (E : List (List Nat)) : Prop :=
  ∃ vs : List Value, w.ownsRow base 85 1 v E.length vs ∧ ∀ (i : Nat) (to : List Nat), E[i]? = some to → ∃ (gi ci : Nat) (cur : Array Value), vs[i]? = some (.slice (some ⟨gi, 0, none⟩) to.length ci) ∧ gi < M ∧ w.heap[gi]? = some (.cells cur 3 (0, 0)) ∧ ∀ (j x : Nat), to[j]? = some x → cur[j]? = some (.int .i64 (x : Int))
theorem EdA.nil (w : World) (base M : Nat) : EdA w base M (.slice none 0 0) [] := ⟨[], ⟨rfl, .inl ⟨rfl, rfl⟩⟩, fun i to h => by cases h⟩
theorem EdA.mono {w : World} {base M M' : Nat} {v : Value} {E : List (List Nat)} (h : EdA w base M v E) (hM : M ≤ M') : EdA w base M' v E := by
  obtain ⟨vs, h1, h2⟩ := h
  refine ⟨vs, h1, fun i to hi => ?_⟩
  obtain ⟨gi, ci, cur, q1, q2, q3, q4⟩ := h2 i to hi
  exact ⟨gi, ci, cur, q1, Nat.lt_of_lt_of_le q2 hM, q3, q4⟩
theorem EdA.keep {w w' : World} {base M : Nat} {v : Value} {E : List (List Nat)} (h : EdA w base M v E) (hk1 : ∀ (q : Nat) (cur : Array Value), w.heap[q]? = some (.cells cur 85 (0, 0)) → w'.heap[q]? = w.heap[q]?) (hk2 : ∀ (q : Nat) (cur : Array Value), w.heap[q]? = some (.cells cur 3 (0, 0)) → q < M → w'.heap[q]? = w.heap[q]?) : EdA w' base M v E := by
  obtain ⟨vs, h1, h2⟩ := h
  refine ⟨vs, own_keep h1 (fun q cur hq _ => hk1 q cur hq), fun i to hi => ?_⟩
  obtain ⟨gi, ci, cur, q1, q2, q3, q4⟩ := h2 i to hi
  exact ⟨gi, ci, cur, q1, q2, (hk2 gi cur q3 q2).trans q3, q4⟩
theorem EdA.below {w w' : World} {base M : Nat} {v : Value} {E : List (List Nat)} (h : EdA w base M v E) (hb : Below w.heap.size w w') : EdA w' base M v E := h.keep (fun _ _ hq => below_keep hb hq) (fun _ _ hq _ => below_keep hb hq)
/-- One row more. -/
theorem EdA.snoc {w w' : World} {base M M' : Nat} {v v' : Value} {E : List (List Nat)} {vs : List Value} {to : List Nat} {g ci : Nat} {cur : Array Value}
    (hv : w.ownsRow base 85 1 v E.length vs) (h2 : ∀ (i : Nat) (to : List Nat), E[i]? = some to → ∃ (gi ci : Nat) (cur : Array Value), vs[i]? = some (.slice (some ⟨gi, 0, none⟩) to.length ci) ∧ gi < M ∧ w.heap[gi]? = some (.cells cur 3 (0, 0)) ∧ ∀ (j x : Nat), to[j]? = some x → cur[j]? = some (.int .i64 (x : Int)))
    (hc : w.heap[g]? = some (.cells cur 3 (0, 0))) (hcx : ∀ (j x : Nat), to[j]? = some x → cur[j]? = some (.int .i64 (x : Int))) (hg : w.grownBy w' v.ownBlock) (hM : M ≤ M') (hgM : g < M')
    (hown : w'.ownsRow base 85 1 v' (E.length + 1) (vs ++ [.slice (some ⟨g, 0, none⟩) to.length ci])) : EdA w' base M' v' (E ++ [to]) := by
  have hvl : vs.length = E.length := by have := hv.1; omega
  refine ⟨_, by rw [List.length_append]; exact hown, fun i t hi => ?_⟩
  rw [List.getElem?_append] at hi
  split at hi
  · rename_i hlt
    obtain ⟨gi, ci, cur, q1, q2, q3, q4⟩ := h2 i t hi
    exact ⟨gi, ci, cur, by rw [List.getElem?_append_left (by omega)]; exact q1, by omega, (grown_keep hg q3 (apart hv q3 (by decide))).trans q3, q4⟩
  · rename_i hge
    have hi0 := (List.getElem?_eq_some_iff.1 hi).1
    simp only [List.length_singleton] at hi0
    have e : i = E.length := by omega
    subst e
    rw [Nat.sub_self] at hi
    cases hi
    exact ⟨g, ci, cur, by rw [List.getElem?_append_right (by omega), hvl, Nat.sub_self]; rfl, hgM, (grown_keep hg hc (apart hv hc (by decide))).trans hc, hcx⟩
theorem EdA.edH {w : World} {base M N g n cap : Nat} {E : List (List Nat)} (h : EdA w base M (.slice (some ⟨g, 0, none⟩) n cap) E) (hM : M ≤ N) (hg : g < N) : EdH w N g E := by
  obtain ⟨vs, h1, h2⟩ := h
  refine ⟨hg, fun i to hi => ?_⟩
  obtain ⟨gi, ci, cur, q1, q2, q3, q4⟩ := h2 i to hi
  have hiE := (List.getElem?_eq_some_iff.1 hi).1
  have hn : n = E.length := by
    rcases h1.2 with ⟨hv, _⟩ | ⟨_, _, _, hv, _⟩
    · cases hv
    · cases hv; rfl
  subst hn
  refine ⟨gi, ci, ?_, by omega, fun j x hx => ?_⟩
  · have := World.ownsRow.cellAt h1 i (by omega)
    rw [this, q1]
  · unfold World.cell?
    rw [q3]
    simpa using q4 j x hx
end

end Go.Proofs.YtaipaddfehpmgaaDoor
