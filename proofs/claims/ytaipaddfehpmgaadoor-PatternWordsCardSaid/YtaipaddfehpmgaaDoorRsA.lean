/-
  The machines of the specification: linked, holding, next, accepts. Nothing is assumed.
-/
import Derived.Test.YtaipaddfehpmgaaDoorRfB
import Derived.Test.YtaipaddfehpmgaaDoorPaRows
import Derived.Laws.OwnMore
namespace Go.Proofs.YtaipaddfehpmgaaDoor
open Go.RowKit

theorem bit_mod {x : Int} (h : U6 x) (k : Nat) : ((x / 2 ^ min k 64).tmod 2 == 1) = bt x k := by
  rw [← bitQ_bt h]
  obtain ⟨n, rfl⟩ := Int.eq_ofNat_of_zero_le h.1
  have hn : n < 2 ^ 64 := by have := h.2; omega
  unfold bitQ
  have h3 : ((n : Int) / 2 ^ min k 64) = ((n / 2 ^ min k 64 : Nat) : Int) := by
    rw [Int.natCast_ediv]; simp
  rw [h3]
  have h4 : n / 2 ^ min k 64 < 2 ^ 64 := Nat.lt_of_le_of_lt (Nat.div_le_self _ _) hn
  have h5 := (bits_nat IntKind.u64 64 (by decide) (fun n h0 h1 => wrap_u n ⟨h0, h1⟩) (n / 2 ^ min k 64) 1 h4 (by decide)).1
  rw [show ((1 : Nat) : Int) = 1 from rfl] at h5
  rw [h5, Nat.and_one_is_mod]
  generalize n / 2 ^ min k 64 = q
  have : ((q : Int).tmod 2) = ((q % 2 : Nat) : Int) := by
    rw [Int.tmod_eq_emod_of_nonneg (by omega)]; omega
  rw [this]
theorem info64 : (Tryd.prog.info? 32).map (fun i => (i.zero, i.size, i.bytes)) = some (some (.int .u64 0), 1, 8) := by kernel_rfl
theorem infoS4 : (Tryd.prog.info? 33).map (fun i => (i.zero, i.size, i.bytes)) = some (some (.agg #[.int .u64 0, .int .u64 0, .int .u64 0, .int .u64 0]), 4, 32) := by kernel_rfl

section
/-- append of another slice onto a row of the call's own. -/
theorem app_src {w : World} {ops : Array Oper} {rest : List Oper} {o : Oper} {a : Act} {Q : Exit → Act → World → Prop} (hgd : o.guard = none) (s x : Operand) (t e : TypeId)
    (ho : o.op = .call { callee := .builtin .append, args := #[s, x], argTypes := #[t, t] }) (H : Nat) (i : TypeInfo) (z : Value) (size bytes : Nat) (ht : Tryd.prog.underlying t = some (.slice e)) (hi : Tryd.prog.info? e = some i) (hz : i.zero = some z)
    (hsize : i.size = size) (hby : i.bytes = bytes) (hzs : z.cells.size = size) (hsz : 0 < size) (hb : bytes ≤ 1000) (v : Value) (n : Nat) (xs : List Value) (hs : a.eval s = v) (hown : w.ownsRow H e size v n xs)
    (oa : Option Addr) (m c : Nat) (hx : a.eval x = .slice oa m c) (news : List Value) (hm : news.length = m * size) (hn : ∀ (j : Nat) u, news[j]? = some u → ∃ ad, oa = some ad ∧ w.cell? (ad.add j) = some u) (h1 : ∀ u ∈ news, u.oneCell' = true)
    (hlen : n + m ≤ 1000) (hH : H ≤ w.heap.size) (h : ∀ v' w', w'.ownsRow H e size v' (n + m) (xs ++ news) → w.grownBy w' v.ownBlock → wpList Tryd.prog ops Q rest (a.put o.dst v') w') : wpList Tryd.prog ops Q (o :: rest) a w := by
  cases oa with
  | none =>
    have hnil : news = [] := by
      cases news with
      | nil => rfl
      | cons z r =>
        obtain ⟨ad, he, _⟩ := hn 0 z rfl
        cases he
    subst hnil
    obtain rfl : m = 0 := by
      rcases Nat.eq_zero_or_pos m with h0 | h0
      · exact h0
      · have := Nat.mul_pos h0 hsz
        simp at hm
        omega
    refine wpList_plain hgd fun K hK => ?_
    have hrun : (Builtin.append_ #[t, t] o.type #[v, .slice none 0 c]).run Tryd.prog w = .ok v w := by
      rcases hown.2 with ⟨rfl, h0⟩ | ⟨g, cap, cur, rfl, _, _, hnc, _⟩
      · simp [Builtin.append_, run_underlying ht, sizeOf, typeInfo, hi, Builtin.lenOf, Builtin.firstCells]
      · simp [Builtin.append_, run_underlying ht, sizeOf, typeInfo, hi, Builtin.lenOf, Builtin.firstCells, hnc, storeCells]
    unfold Oper.wp
    simp [execOp, ho, resolve, invoke, builtin, hs, hx, hrun, Result.andThen]
    exact hK _ _ (h v w (by simpa using hown) (World.grownBy.refl w _))
  | some ad =>
    have hbb : (n + m) * bytes ≤ 140737488355328 := Nat.le_trans (Nat.mul_le_mul hlen hb) (by decide)
    exact wpList_append_own w hgd s x t ho H e i z size bytes ht hi hz hsize hby hzs hsz v n xs hs hown ad m c news hx hm (fun j u hu => by
        obtain ⟨ad', he, hc⟩ := hn j u hu
        cases he
        exact hc)
      h1 (by unfold maxLen; omega) hbb hH fun v' w' k1 k2 _ => h v' w' k1 k2
end

/-- A slice of numbers that is read, below a block. -/
def RU (w : World) (B : Nat) (o : Option Addr) (l : List Int) : Prop := ∀ (k : Nat) (x : Int), l[k]? = some x → ∃ (g : Nat) (cs : Array Value), o = some ⟨g, 0, none⟩ ∧ g < B ∧ w.heap[g]? = some (.cells cs 32 (0, 0)) ∧ cs[k]? = some (.int .u64 x)
/-- A slice of sets that is read, below a block. -/
def RS (w : World) (B : Nat) (o : Option Addr) (l : List S4) : Prop := ∀ (k : Nat) (s : S4), l[k]? = some s → ∃ (g : Nat) (cs : Array Value), o = some ⟨g, 0, none⟩ ∧ g < B ∧ w.heap[g]? = some (.cells cs 33 (0, 0)) ∧ ∀ (j : Nat) u, ([Value.int .u64 s.a, .int .u64 s.b, .int .u64 s.c, .int .u64 s.d])[j]? = some u → cs[k * 4 + j]? = some u
theorem cell_block {w : World} {g k : Nat} {cs : Array Value} {t : TypeId} {fr : Nat × Nat} {v : Value} (h : w.heap[g]? = some (.cells cs t fr)) (hv : cs[k]? = some v) : w.cell? ⟨g, k, none⟩ = some v := by
  unfold World.cell?
  rw [h]
  exact hv
theorem RU.at_ {w : World} {B : Nat} {o : Option Addr} {l : List Int} (h : RU w B o l) {k : Nat} {x : Int} (hx : l[k]? = some x) : ∃ g, o = some ⟨g, 0, none⟩ ∧ g < B ∧ w.cell? ⟨g, k, none⟩ = some (.int .u64 x) := by
  obtain ⟨g, cs, h1, h2, h3, h4⟩ := h k x hx
  exact ⟨g, h1, h2, cell_block h3 h4⟩
theorem RS.at_ {w : World} {B : Nat} {o : Option Addr} {l : List S4} (h : RS w B o l) {k : Nat} {s : S4} (hs : l[k]? = some s) : ∃ g, o = some ⟨g, 0, none⟩ ∧ g < B ∧ ∀ (j : Nat) u, ([Value.int .u64 s.a, .int .u64 s.b, .int .u64 s.c, .int .u64 s.d])[j]? = some u → w.cell? ⟨g, k * 4 + j, none⟩ = some u := by
  obtain ⟨g, cs, h1, h2, h3, h4⟩ := h k s hs
  exact ⟨g, h1, h2, fun j u hu => cell_block h3 (h4 j u hu)⟩
theorem RU.later {w w' : World} {B C : Nat} {o : Option Addr} {l : List Int} (h : RU w B o l) (hb : Below B w w') (hC : B ≤ C) : RU w' C o l := fun k x hx => by
  obtain ⟨g, cs, h1, h2, h3, h4⟩ := h k x hx
  exact ⟨g, cs, h1, by omega, (hb.block g h2).trans h3, h4⟩
theorem RS.later {w w' : World} {B C : Nat} {o : Option Addr} {l : List S4} (h : RS w B o l) (hb : Below B w w') (hC : B ≤ C) : RS w' C o l := fun k x hx => by
  obtain ⟨g, cs, h1, h2, h3, h4⟩ := h k x hx
  exact ⟨g, cs, h1, by omega, (hb.block g h2).trans h3, h4⟩
theorem RU.nil (w : World) (B : Nat) : RU w B none [] := fun k x h => by simp at h
theorem RS.nil (w : World) (B : Nat) : RS w B none [] := fun k x h => by simp at h
/-- What is laid in a block of another type changes no row. -/
theorem RU.put {w : World} {B b k : Nat} {o : Option Addr} {l : List Int} (h : RU w B o l) {cs : Array Value} {t : TypeId} {fr : Nat × Nat} (hb : w.heap[b]? = some (.cells cs t fr)) (ht : t ≠ 32) (v : Value) : RU (w.setCell ⟨b, k, none⟩ v) B o l := fun i x hx => by
  obtain ⟨g, c, h1, h2, h3, h4⟩ := h i x hx
  refine ⟨g, c, h1, h2, (Below.heap_setCell _ _ _ _ (fun e => ?_)).trans h3, h4⟩
  have e' : g = b := e
  subst e'
  rw [h3] at hb
  cases hb
  exact ht rfl
theorem RS.put {w : World} {B b k : Nat} {o : Option Addr} {l : List S4} (h : RS w B o l) {cs : Array Value} {t : TypeId} {fr : Nat × Nat} (hb : w.heap[b]? = some (.cells cs t fr)) (ht : t ≠ 33) (v : Value) : RS (w.setCell ⟨b, k, none⟩ v) B o l := fun i x hx => by
  obtain ⟨g, c, h1, h2, h3, h4⟩ := h i x hx
  refine ⟨g, c, h1, h2, (Below.heap_setCell _ _ _ _ (fun e => ?_)).trans h3, h4⟩
  have e' : g = b := e
  subst e'
  rw [h3] at hb
  cases hb
  exact ht rfl
theorem RU.of_own {w : World} {base : Nat} {o : Option Addr} {n c : Nat} {l : List Int} (h : w.ownsRow base 32 1 (.slice o n c) l.length (l.map (Value.int .u64))) : n = l.length ∧ RU w w.heap.size o l := by
  rcases h.2 with ⟨hv, h0⟩ | ⟨g, cap, cur, hv, hg, hh, hcap, _, hsz, htk⟩
  · cases hv
    have := List.eq_nil_of_length_eq_zero h0
    subst this
    exact ⟨rfl, RU.nil _ _⟩
  · cases hv
    refine ⟨rfl, fun k x hx => ⟨g, cur, rfl, (Array.getElem?_eq_some_iff.1 hh).1, hh, ?_⟩⟩
    have hc := World.ownsRow.cellAt h k (by have := (List.getElem?_eq_some_iff.1 hx).1; omega)
    rw [List.getElem?_map, hx] at hc
    unfold World.cell? at hc
    rw [hh] at hc
    exact hc
/-- The cells of sets. -/
def c4 (l : List S4) : List Value := l.flatMap fun s => [Value.int .u64 s.a, .int .u64 s.b, .int .u64 s.c, .int .u64 s.d]
theorem c4_len (l : List S4) : (c4 l).length = l.length * 4 := by
  unfold c4
  induction l with
  | nil => rfl
  | cons a l ih => rw [List.flatMap_cons, List.length_append, ih, List.length_cons]; simp; omega
theorem c4_at : ∀ (l : List S4) (k : Nat) (s : S4) (j : Nat) (u : Value), l[k]? = some s → ([Value.int .u64 s.a, .int .u64 s.b, .int .u64 s.c, .int .u64 s.d])[j]? = some u → (c4 l)[k * 4 + j]? = some u
  | [], k, s, j, u, h, _ => by simp at h
  | a :: l, 0, s, j, u, h, hu => by
    cases h
    unfold c4
    rw [List.flatMap_cons, Nat.zero_mul, Nat.zero_add, List.getElem?_append_left (by have := (List.getElem?_eq_some_iff.1 hu).1; simpa using this)]
    exact hu
  | a :: l, k + 1, s, j, u, h, hu => by
    have ih := c4_at l k s j u (by simpa using h) hu
    unfold c4 at ih ⊢
    rw [List.flatMap_cons, List.getElem?_append_right (by simp; omega)]
    rw [show (k + 1) * 4 + j - [Value.int .u64 a.a, .int .u64 a.b, .int .u64 a.c, .int .u64 a.d].length = k * 4 + j by simp; omega]
    exact ih
theorem c4_one (l : List S4) : ∀ u ∈ c4 l, u.oneCell' = true := fun u hu => by
  unfold c4 at hu
  rw [List.mem_flatMap] at hu
  obtain ⟨s, _, h⟩ := hu
  simp at h
  rcases h with rfl | rfl | rfl | rfl <;> rfl
theorem RS.of_own {w : World} {base : Nat} {o : Option Addr} {n c : Nat} {l : List S4} (h : w.ownsRow base 33 4 (.slice o n c) l.length (c4 l)) : n = l.length ∧ RS w w.heap.size o l := by
  rcases h.2 with ⟨hv, h0⟩ | ⟨g, cap, cur, hv, hg, hh, hcap, _, hsz, htk⟩
  · cases hv
    have := List.eq_nil_of_length_eq_zero h0
    subst this
    exact ⟨rfl, RS.nil _ _⟩
  · cases hv
    refine ⟨rfl, fun k x hx => ⟨g, cur, rfl, (Array.getElem?_eq_some_iff.1 hh).1, hh, fun j u hu => ?_⟩⟩
    have hk := (List.getElem?_eq_some_iff.1 hx).1
    have hj := (List.getElem?_eq_some_iff.1 hu).1
    have hj4 : j < 4 := by simpa using hj
    have hc := World.ownsRow.cellAt h (k * 4 + j) (by omega)
    rw [c4_at l k x j u hx hu] at hc
    unfold World.cell? at hc
    rw [hh] at hc
    exact hc
theorem add_zero_at (g k : Nat) : (⟨g, 0, none⟩ : Addr).add k = ⟨g, k, none⟩ := by
  unfold Addr.add
  split
  · rename_i h; subst h; rfl
  · simp
theorem RU.src {w : World} {B : Nat} {o : Option Addr} {l : List Int} (h : RU w B o l) : ∀ (j : Nat) u, (l.map (Value.int .u64))[j]? = some u → ∃ ad, o = some ad ∧ w.cell? (ad.add j) = some u := fun j u hu => by
  rw [List.getElem?_map, Option.map_eq_some_iff] at hu
  obtain ⟨x, hx, rfl⟩ := hu
  obtain ⟨g, h1, _, h3⟩ := h.at_ hx
  exact ⟨_, h1, by rw [add_zero_at]; exact h3⟩
theorem RS.src {w : World} {B : Nat} {o : Option Addr} {l : List S4} (h : RS w B o l) : ∀ (j : Nat) u, (c4 l)[j]? = some u → ∃ ad, o = some ad ∧ w.cell? (ad.add j) = some u := fun j u hu => by
  have hj := (List.getElem?_eq_some_iff.1 hu).1
  rw [c4_len] at hj
  obtain ⟨s, hs⟩ : ∃ s, l[j / 4]? = some s := ⟨_, List.getElem?_eq_getElem (by omega)⟩
  obtain ⟨y, hy⟩ : ∃ y, ([Value.int .u64 s.a, .int .u64 s.b, .int .u64 s.c, .int .u64 s.d])[j % 4]? = some y := ⟨_, List.getElem?_eq_getElem (by have := Nat.mod_lt j (show 0 < 4 by decide); simpa using this)⟩
  have h5 := c4_at l (j / 4) s (j % 4) y hs hy
  rw [show j / 4 * 4 + j % 4 = j by omega, hu] at h5
  cases h5
  obtain ⟨g, h1, _, h3⟩ := h.at_ hs
  refine ⟨_, h1, ?_⟩
  rw [add_zero_at]
  have := h3 _ _ hy
  rwa [show j / 4 * 4 + j % 4 = j by omega] at this

/-- linked: the positions of first follow those of last. -/
def lnkL (last first : Int) (l : List Int) : List Int := l.mapIdx fun i x => if bt last i = true then orS x first else x
theorem lnk_at {last first : Int} {l : List Int} {k : Nat} {x : Int} (h : l[k]? = some x) : (lnkL last first l)[k]? = some (if bt last k = true then orS x first else x) := by
  unfold lnkL
  rw [List.getElem?_mapIdx, h]
  rfl
theorem lnk_len (last first : Int) (l : List Int) : (lnkL last first l).length = l.length := by unfold lnkL; rw [List.length_mapIdx]
/-- The first k are done. -/
def MixU (k : Nat) (rl l m : List Int) : Prop := m.length = l.length ∧ ∀ i, m[i]? = if i < k then rl[i]? else l[i]?
theorem MixU.start (rl l : List Int) : MixU 0 rl l l := ⟨rfl, fun i => by rw [if_neg (by omega)]⟩
theorem MixU.full {rl l m : List Int} (h : MixU l.length rl l m) (hr : rl.length = l.length) : m = rl := List.ext_getElem? fun i => by
  rw [h.2 i]
  split
  · rfl
  · rw [List.getElem?_eq_none (by omega), List.getElem?_eq_none (by omega)]
theorem MixU.set {k : Nat} {rl l m : List Int} (h : MixU k rl l m) {y : Int} (hk : k < l.length) (hy : rl[k]? = some y) : MixU (k + 1) rl l (m.set k y) := by
  refine ⟨by rw [List.length_set, h.1], fun i => ?_⟩
  rw [List.getElem?_set]
  by_cases he : k = i
  · subst he
    rw [if_pos rfl, if_pos (by rw [h.1]; exact hk), if_pos (by omega), hy]
  · rw [if_neg he, h.2 i]
    by_cases h1 : i < k
    · rw [if_pos h1, if_pos (by omega)]
    · rw [if_neg h1, if_neg (by omega)]
theorem MixU.same {k : Nat} {rl l m : List Int} (h : MixU k rl l m) {y : Int} (hy : rl[k]? = some y) (hx : l[k]? = some y) : MixU (k + 1) rl l m := by
  refine ⟨h.1, fun i => ?_⟩
  rw [h.2 i]
  by_cases he : i = k
  · subst he
    rw [if_neg (by omega), if_pos (by omega), hx, hy]
  · by_cases h1 : i < k
    · rw [if_pos h1, if_pos (by omega)]
    · rw [if_neg h1, if_neg (by omega)]
theorem own64_empty (w : World) : (w.alloc (.cells #[] 32)).ownsRow w.heap.size 32 1 (.slice (some ⟨w.heap.size, 0, Option.none⟩) 0 0) 0 (([] : List Int).map (Value.int .u64)) :=
  ⟨rfl, .inr ⟨w.heap.size, 0, #[], rfl, Nat.le_refl _, by show (w.heap.push _)[w.heap.size]? = _; exact Array.getElem?_push_size, Nat.le_refl _, by unfold maxLen; omega, rfl, rfl⟩⟩
theorem own4_empty (w : World) : (w.alloc (.cells #[] 33)).ownsRow w.heap.size 33 4 (.slice (some ⟨w.heap.size, 0, Option.none⟩) 0 0) 0 (c4 []) :=
  ⟨rfl, .inr ⟨w.heap.size, 0, #[], rfl, Nat.le_refl _, by show (w.heap.push _)[w.heap.size]? = _; exact Array.getElem?_push_size, Nat.le_refl _, by unfold maxLen; omega, rfl, rfl⟩⟩
theorem below_grownS {H e size n : Nat} {w0 wr w2 : World} {v : Value} {xs : List Value} (hbel : Below H w0 wr) (hH : H ≤ wr.heap.size) (HO : wr.ownsRow H e size v n xs) (hg : wr.grownBy w2 v.ownBlock) : Below H w0 w2 :=
  hbel.grown hg hH (fun q hq => (own_lt HO q hq).1)

set_option maxRecDepth 100000 in
set_option maxHeartbeats 1600000 in
theorem linked_any (l : List Int) (last first : Int) (hlast : U6 last) (w : World) (B : Nat) (o : Option Addr) (c : Nat) (h : RU w B o l) (hB : B ≤ w.heap.size) (hl : l.length ≤ 100) :
    Calls Tryd.prog 69 #[.slice o l.length c, .int .u64 last, .int .u64 first] w fun e w' => (∃ o' c', e = .returned (.slice o' l.length c') ∧ RU w' w'.heap.size o' (lnkL last first l)) ∧ Below w.heap.size w w' := by
  obtain ⟨i0, hi, hz0, hz1, hz2⟩ := info_parts info64
  have HL := Lib.hid hlast
  have HX := Lib.hid (h.later ((Below.refl B w).alloc hB (.cells #[] 32)) (Nat.le_refl _))
  have HLI := Lib.hid hl
  clear h hlast
  go_enter Tryd.func69, Tryd.ntmps69
  go_wp2_with (at_builtin; refine app_src rfl _ _ 66 32 rfl w.heap.size i0 _ 1 8 Tryd.underlying66 hi hz0 hz1 hz2 rfl (by decide) (by decide) _ 0 _ rfl (own64_empty w) o l.length c rfl (l.map (Value.int .u64)) (by simp) HX.out.src ?c1 ?c2 ?c3 ?_)
  case c1 => intro u hu; simp only [List.mem_map] at hu; obtain ⟨z, _, rfl⟩ := hu; rfl
  case c2 => omega
  case c3 => simp
  intro v2 w2 hown2 hgrow2
  have hb2 := below_grownS (below1 w _) (by simp) (own64_empty w) hgrow2
  replace hown2 : w2.ownsRow w.heap.size 32 1 v2 l.length (l.map (Value.int .u64)) := by simpa using hown2
  obtain ⟨o2, cap2, rfl⟩ : ∃ o2 cap2, v2 = .slice o2 l.length cap2 := by
    rcases hown2.2 with ⟨hv, h0⟩ | ⟨g, cap, cur, hv, _⟩
    · exact ⟨none, 0, by rw [hv, h0]⟩
    · exact ⟨_, _, hv⟩
  have HO2 := Lib.hid hown2
  have HB2 := Lib.hid hb2
  have hs2 := hb2.size
  have hlI : (l.length : Int) ≤ 100 := by omega
  have HM0 := Lib.hid (MixU.start (lnkL last first l) l)
  clear hown2 hgrow2 hb2 HX
  go_wp2_with fail
  go_loopw [8] (fun v wr => ∃ (k : Nat) (m : List Int), v = .int .i64 (k : Int) ∧ k ≤ l.length ∧ Hid (MixU k (lnkL last first l) l m) ∧ Hid (wr.ownsRow w.heap.size 32 1 (.slice o2 l.length cap2) l.length (m.map (Value.int .u64))) ∧ Hid (Below w.heap.size w wr)) (fun v _ => l.length - (intOf v).toNat)
  case atStart => exact ⟨0, l, rfl, Nat.zero_le _, HM0, HO2, HB2⟩
  case round =>
    obtain ⟨k, m, rfl, hk, HM, HO, HB⟩ := hrel
    clear HO2 HB2 HM0
    by_cases hlt : k < l.length
    · have hltI : (k : Int) < (l.length : Int) := by omega
      have hk0 : (0 : Int) ≤ (k : Int) := by omega
      have hwk : IntKind.i64.wrap ((k : Int) + 1) = ((k + 1 : Nat) : Int) := by rw [IntWalk.i64_in _ (by omega)]; omega
      obtain ⟨x, hx⟩ : ∃ x, l[k]? = some x := ⟨_, List.getElem?_eq_getElem hlt⟩
      have hmx : m[k]? = some x := by rw [HM.out.2 k, if_neg (Nat.lt_irrefl _)]; exact hx
      have HLN := Lib.hid (lnk_at (last := last) (first := first) hx)
      obtain ⟨g, rfl⟩ : ∃ g, o2 = some ⟨g, 0, none⟩ := by
        rcases HO.out.2 with ⟨hv, h0⟩ | ⟨g, cap, cur, hv, _⟩
        · omega
        · cases hv; exact ⟨g, rfl⟩
      have c1 : wr.cell? ⟨g, k, none⟩ = some (.int .u64 x) := by
        rw [World.ownsRow.cellAt HO.out k (by omega), List.getElem?_map, hmx]
        rfl
      have f1 := World.ownsRow.frozenAt HO.out k
      have HXX := Lib.hid hx
      clear hmx hx
      cases hb : bt last k
      · have hq : ((last / 2 ^ min k 64).tmod 2 == 1) = false := by rw [bit_mod HL.out]; exact hb
        have HM1 : Hid (MixU (k + 1) (lnkL last first l) l m) := Lib.hid (HM.out.same (by rw [HLN.out, hb]; rfl) HXX.out)
        clear hb HM HLN
        go_wp2_with fail
        go_roundw
        case rel => exact ⟨k + 1, m, by first | rfl | go_num, hlt, HM1, HO, HB⟩
        case measure => simp [intOf]; omega
      · have hq : ((last / 2 ^ min k 64).tmod 2 == 1) = true := by rw [bit_mod HL.out]; exact hb
        have HM1 : Hid (MixU (k + 1) (lnkL last first l) l (m.set k (orS x first))) := Lib.hid (HM.out.set hlt (by rw [HLN.out, hb]; rfl))
        have HO1 : Hid ((wr.setCell ⟨g, k, none⟩ (.int .u64 (orS x first))).ownsRow w.heap.size 32 1 (.slice (some ⟨g, 0, none⟩) l.length cap2) l.length ((m.set k (orS x first)).map (Value.int .u64))) := Lib.hid (by
          rw [List.map_set]
          exact (World.ownsRow.stored HO.out k _).1)
        have HB1 : Hid (Below w.heap.size w (wr.setCell ⟨g, k, none⟩ (.int .u64 (orS x first)))) := Lib.hid (HB.out.setCell (p := ⟨g, k, none⟩) (own_lt HO.out g rfl).1 _)
        clear hb HM HLN HO HB
        unfold orS at HO1 HB1
        go_wp2_with fail
        go_roundw
        case rel => exact ⟨k + 1, _, by first | rfl | go_num, hlt, HM1, HO1, HB1⟩
        case measure => simp [intOf]; omega
    · have hltI : ¬ ((k : Int) < (l.length : Int)) := by omega
      obtain rfl : k = l.length := by omega
      have hm := HM.out.full (lnk_len last first l)
      subst hm
      have HR : Hid (RU wr wr.heap.size o2 (lnkL last first l)) := Lib.hid (by
        have h1 := HO.out
        rw [← lnk_len last first l] at h1
        exact (RU.of_own h1).2)
      clear HM HO
      go_wp2_with fail
      go_ret
      exact ⟨⟨o2, ⟨cap2, rfl⟩, HR.out⟩, HB.out⟩

/-- A machine as the specification hands it on. -/
def mV (p : Pa) (x y : Value) : Value := .agg #[.bool p.e, .int .u64 p.f, .int .u64 p.t, x, y]
def begZ : Int := 9223372036854775808
/-- Is a text that leads to a state matched? -/
def accR (p : Pa) (x : Int) : Bool := if x = begZ then p.e else bits BinOp.and IntKind.u64 x p.t != 0
set_option maxRecDepth 100000 in
theorem accepts5_any (p : Pa) (x : Int) (a b : Value) (w : World) :
    Calls Tryd.prog 24 #[mV p a b, .int .u64 x] w fun e w' => e = .returned (.bool (accR p x)) ∧ Below w.heap.size w w' := by
  unfold mV accR begZ
  by_cases h : x = 9223372036854775808
  · subst h
    go_enter Tryd.func24, Tryd.ntmps24
    go_wp2_with fail
    go_ret
    exact ⟨rfl, below1 _ _⟩
  · have hb : (x == 9223372036854775808) = false := by rw [beq_eq_false_iff_ne]; exact h
    go_enter Tryd.func24, Tryd.ntmps24
    go_wp2_with fail
    go_ret
    exact ⟨rfl, below1 _ _⟩

/-- holding: the positions whose sets have a byte. -/
def hldL (b : Nat) : Nat → List S4 → Int → Int
  | _, [], a => a
  | i, s :: l, a => hldL b (i + 1) l (if s.has b = true then orS a (oneS i) else a)
/-- next: what can come after a state. -/
def nxtL (st : Int) : Nat → List Int → Int → Int
  | _, [], a => a
  | i, x :: l, a => nxtL st (i + 1) l (if bt st i = true then orS a x else a)
/-- A machine that is read. -/
structure RM (w : World) (B : Nat) (o1 o2 : Option Addr) (ss : List S4) (fs : List Int) : Prop where
  s : RS w B o1 ss
  f : RU w B o2 fs
  len : fs.length = ss.length
  lim : ss.length ≤ 100
  ok : ∀ (k : Nat) s, ss[k]? = some s → s.Ok
theorem RM.put {w : World} {B b k : Nat} {o1 o2 : Option Addr} {ss : List S4} {fs : List Int} (h : RM w B o1 o2 ss fs) {cs : Array Value} {t : TypeId} {fr : Nat × Nat} (hb : w.heap[b]? = some (.cells cs t fr)) (ht : t ≠ 32) (ht4 : t ≠ 33) (v : Value) : RM (w.setCell ⟨b, k, none⟩ v) B o1 o2 ss fs := ⟨h.s.put hb ht4 v, h.f.put hb ht v, h.len, h.lim, h.ok⟩
theorem RM.later {w w' : World} {B C : Nat} {o1 o2 : Option Addr} {ss : List S4} {fs : List Int} (h : RM w B o1 o2 ss fs) (hb : Below B w w') (hC : B ≤ C) : RM w' C o1 o2 ss fs := ⟨h.s.later hb hC, h.f.later hb hC, h.len, h.lim, h.ok⟩
/-- A machine in a block of its own. -/
def M5 (w : World) (n : Nat) (p : Pa) (x y : Value) : Prop := w.heap[n]? = some (.cells #[.bool p.e, .int .u64 p.f, .int .u64 p.t, x, y] 68 (0, 0))
theorem M5.cells {w : World} {n : Nat} {p : Pa} {x y : Value} (h : M5 w n p x y) : w.cell? ⟨n, 0, none⟩ = some (.bool p.e) ∧ w.cell? ⟨n, 1, none⟩ = some (.int .u64 p.f) ∧ w.cell? ⟨n, 2, none⟩ = some (.int .u64 p.t) ∧ w.cell? ⟨n, 3, none⟩ = some x ∧ w.cell? ⟨n, 4, none⟩ = some y := by
  unfold World.cell?
  rw [h]
  exact ⟨rfl, rfl, rfl, rfl, rfl⟩
theorem M5.lt {w : World} {n : Nat} {p : Pa} {x y : Value} (h : M5 w n p x y) : n < w.heap.size := (Array.getElem?_eq_some_iff.1 h).1
theorem M5.new (w : World) (p : Pa) (x y : Value) : M5 (w.alloc (.cells #[.bool p.e, .int .u64 p.f, .int .u64 p.t, x, y] 68)) w.heap.size p x y := by
  show (w.heap.push _)[w.heap.size]? = some _
  rw [Array.getElem?_push, if_pos rfl]
theorem M5.later {w w' : World} {n B : Nat} {p : Pa} {x y : Value} (h : M5 w n p x y) (hb : Below B w w') (hn : n < B) : M5 w' n p x y := (hb.block n hn).trans h

set_option maxRecDepth 100000 in
set_option maxHeartbeats 1600000 in
theorem holding_any (p : Pa) (ss : List S4) (fs : List Int) (b : Nat) (hb : b < 256) (w : World) (B : Nat) (o1 o2 : Option Addr) (n1 n2 c1 c2 : Nat) (h : RM w B o1 o2 ss fs) (hB : B ≤ w.heap.size) (hn1 : n1 = ss.length) :
    Calls Tryd.prog 35 #[mV p (.slice o1 n1 c1) (.slice o2 n2 c2), .int .i64 (b : Int)] w fun e w' => e = .returned (.int .u64 (hldL b 0 ss 0)) ∧ Below w.heap.size w w' := by
  subst hn1
  obtain ⟨w1, hw1⟩ : ∃ w1, w1 = w.alloc (.cells #[.bool p.e, .int .u64 p.f, .int .u64 p.t, .slice o1 ss.length c1, .slice o2 n2 c2] 68) := ⟨_, rfl⟩
  have HW1 := Lib.hid hw1
  have hb1 : Below w.heap.size w w1 := by rw [hw1]; exact below1 _ _
  have HB1 := Lib.hid hb1
  have HS := Lib.hid h
  have HM1 : Hid (M5 w1 w.heap.size p (.slice o1 ss.length c1) (.slice o2 n2 c2)) := Lib.hid (by rw [hw1]; exact M5.new _ _ _ _)
  have hs1 : w1.heap.size = w.heap.size + 1 := by rw [hw1]; simp
  have hlI : (ss.length : Int) ≤ 100 := by have := h.lim; omega
  have HR0 : Hid (hldL b 0 ss 0 = hldL b 0 (ss.drop 0) 0) := Lib.hid (by rw [List.drop_zero])
  obtain ⟨R, hR⟩ : ∃ R, R = hldL b 0 ss 0 := ⟨_, rfl⟩
  rw [← hR] at HR0 ⊢
  clear hw1 hb1 h hR
  unfold mV
  go_enter Tryd.func35, Tryd.ntmps35
  go_wp2_with fail
  rw [← HW1.out]
  go_loopw [5, 6] (fun va v wr => ∃ (k : Nat) (a : Int), va = .int .u64 a ∧ v = .int .i64 (k : Int) ∧ k ≤ ss.length ∧ Hid (R = hldL b k (ss.drop k) a) ∧ Hid (Below w.heap.size w wr) ∧ Hid (M5 wr w.heap.size p (.slice o1 ss.length c1) (.slice o2 n2 c2)) ∧ w.heap.size + 1 ≤ wr.heap.size) (fun _ v _ => ss.length - (intOf v).toNat)
  case atStart => exact ⟨0, 0, rfl, rfl, Nat.zero_le _, HR0, HB1, HM1, by omega⟩
  case round =>
    obtain ⟨k, a, rfl, rfl, hk, HE, HB, HM, hsr⟩ := hrel
    clear HR0 HB1 HM1
    obtain ⟨m0, m1, m2, m3, m4⟩ := HM.out.cells
    by_cases hlt : k < ss.length
    · have hltI : (k : Int) < (ss.length : Int) := by omega
      have hk0 : (0 : Int) ≤ (k : Int) := by omega
      have hwk : IntKind.i64.wrap ((k : Int) + 1) = ((k + 1 : Nat) : Int) := by rw [IntWalk.i64_in _ (by omega)]; omega
      obtain ⟨s, hs⟩ : ∃ s, ss[k]? = some s := ⟨_, List.getElem?_eq_getElem hlt⟩
      have HSr := Lib.hid (HS.out.later (HB.out.mono hB) (Nat.le_refl _))
      obtain ⟨g, rfl, hgB, hc⟩ := HSr.out.s.at_ hs
      have q0 := hc 0 _ rfl
      have q1 := hc 1 _ rfl
      have q2 := hc 2 _ rfl
      have q3 := hc 3 _ rfl
      rw [Nat.add_zero] at q0
      have HD : Hid (ss.drop k = s :: ss.drop (k + 1)) := Lib.hid (by rw [List.drop_eq_getElem_cons hlt, (List.getElem?_eq_some_iff.1 hs).2])
      have HC := Lib.hid (rHas_any s (HS.out.ok k s hs) b hb wr)
      have HE1 : Hid (R = hldL b (k + 1) (ss.drop (k + 1)) (if s.has b = true then orS a (oneS k) else a)) := Lib.hid (by rw [HE.out, HD.out, hldL])
      unfold S4.val at HC
      clear hc hs HE HD HSr
      go_wp2_with fail
      refine HC.out.mono ?_
      rintro e w5 ⟨rfl, hb5⟩
      have HB5 := Lib.hid (HB.out.trans (hb5.mono (by omega)))
      have HM5 := Lib.hid (HM.out.later hb5 (by omega))
      have hs5 := hb5.size
      clear hb5 HC m0 m1 m2 m3 m4 q0 q1 q2 q3
      cases hh : s.has b
      · have HE2 : Hid (R = hldL b (k + 1) (ss.drop (k + 1)) a) := Lib.hid (by rw [HE1.out, hh]; rfl)
        clear HE1
        go_wp2_with fail
        go_roundw
        case rel => exact ⟨k + 1, a, rfl, by first | rfl | go_num, hlt, HE2, HB5, HM5, by omega⟩
        case measure => simp [intOf]; omega
      · have HE2 : Hid (R = hldL b (k + 1) (ss.drop (k + 1)) (orS a (oneS k))) := Lib.hid (by rw [HE1.out, hh]; rfl)
        clear HE1
        unfold orS oneS at HE2
        go_wp2_with fail
        go_roundw
        case rel => exact ⟨k + 1, _, rfl, by first | rfl | go_num, hlt, HE2, HB5, HM5, by omega⟩
        case measure => simp [intOf]; omega
    · have hltI : ¬ ((k : Int) < (ss.length : Int)) := by omega
      obtain rfl : k = ss.length := by omega
      have HRe : Hid (R = a) := Lib.hid (by rw [HE.out, List.drop_length, hldL])
      go_wp2_with fail
      go_ret
      exact ⟨by rw [HRe.out]; rfl, HB.out⟩

/-- What can come after a state of a machine. -/
def nxtR (p : Pa) (fs : List Int) (st : Int) : Int := if st = begZ then p.f else nxtL st 0 fs 0
set_option maxRecDepth 100000 in
set_option maxHeartbeats 1600000 in
theorem next_any (p : Pa) (ss : List S4) (fs : List Int) (st : Int) (hst : U6 st) (w : World) (B : Nat) (o1 o2 : Option Addr) (n1 n2 c1 c2 : Nat) (h : RM w B o1 o2 ss fs) (hB : B ≤ w.heap.size) (hn1 : n1 = ss.length) (hn2 : n2 = fs.length) :
    Calls Tryd.prog 34 #[mV p (.slice o1 n1 c1) (.slice o2 n2 c2), .int .u64 st] w fun e w' => e = .returned (.int .u64 (nxtR p fs st)) ∧ Below w.heap.size w w' := by
  subst hn1
  subst hn2
  unfold mV nxtR begZ
  by_cases hbeg : st = 9223372036854775808
  · subst hbeg
    go_enter Tryd.func34, Tryd.ntmps34
    go_wp2_with fail
    go_ret
    exact ⟨rfl, below1 _ _⟩
  rw [if_neg hbeg]
  have hbg : (st == 9223372036854775808) = false := by rw [beq_eq_false_iff_ne]; exact hbeg
  obtain ⟨w1, hw1⟩ : ∃ w1, w1 = w.alloc (.cells #[.bool p.e, .int .u64 p.f, .int .u64 p.t, .slice o1 ss.length c1, .slice o2 fs.length c2] 68) := ⟨_, rfl⟩
  have HW1 := Lib.hid hw1
  have hb1 : Below w.heap.size w w1 := by rw [hw1]; exact below1 _ _
  have HB1 := Lib.hid hb1
  have HS := Lib.hid (h.later (hb1.mono hB) (Nat.le_refl _))
  have HM1 : Hid (M5 w1 w.heap.size p (.slice o1 ss.length c1) (.slice o2 fs.length c2)) := Lib.hid (by rw [hw1]; exact M5.new _ _ _ _)
  have hs1 : w1.heap.size = w.heap.size + 1 := by rw [hw1]; simp
  have hlI : (ss.length : Int) ≤ 100 := by have := h.lim; omega
  have HLN := Lib.hid h.len
  have HU := Lib.hid hst
  have HR0 : Hid (nxtL st 0 fs 0 = nxtL st 0 (fs.drop 0) 0) := Lib.hid (by rw [List.drop_zero])
  obtain ⟨R, hR⟩ : ∃ R, R = nxtL st 0 fs 0 := ⟨_, rfl⟩
  rw [← hR] at HR0 ⊢
  obtain ⟨m0, m1, m2, m3, m4⟩ := HM1.out.cells
  obtain ⟨n, hn⟩ : ∃ n, n = ss.length := ⟨_, rfl⟩
  have HN := Lib.hid hn
  rw [← hn] at HW1 HM1 m3 hlI ⊢
  clear hw1 hb1 h hR hst hbeg hn
  go_enter Tryd.func34, Tryd.ntmps34
  go_wp2_with fail
  rw [← HW1.out]
  go_loopw [5, 6] (fun va v wr => ∃ (k : Nat) (a : Int), va = .int .u64 a ∧ v = .int .i64 (k : Int) ∧ k ≤ n ∧ wr = w1 ∧ Hid (R = nxtL st k (fs.drop k) a)) (fun _ v _ => n - (intOf v).toNat)
  case atStart => exact ⟨0, 0, rfl, rfl, Nat.zero_le _, rfl, HR0⟩
  case round =>
    obtain ⟨k, a, rfl, rfl, hk, rfl, HE⟩ := hrel
    clear HR0
    by_cases hlt : k < n
    · have hltI : (k : Int) < (n : Int) := by omega
      have hk0 : (0 : Int) ≤ (k : Int) := by omega
      have hwk : IntKind.i64.wrap ((k : Int) + 1) = ((k + 1 : Nat) : Int) := by rw [IntWalk.i64_in _ (by omega)]; omega
      have hkf : k < fs.length := by rw [HLN.out, ← HN.out]; exact hlt
      have hkI : (k : Int) < (fs.length : Int) := by omega
      obtain ⟨x, hx⟩ : ∃ x, fs[k]? = some x := ⟨_, List.getElem?_eq_getElem hkf⟩
      obtain ⟨g, rfl, hgB, q0⟩ := HS.out.f.at_ hx
      have HE1 : Hid (R = nxtL st (k + 1) (fs.drop (k + 1)) (if bt st k = true then orS a x else a)) := Lib.hid (by rw [HE.out, List.drop_eq_getElem_cons hkf, (List.getElem?_eq_some_iff.1 hx).2, nxtL])
      clear HE hx
      cases hh : bt st k
      · have hq : ((st / 2 ^ min k 64).tmod 2 == 1) = false := by rw [bit_mod HU.out]; exact hh
        have HE2 : Hid (R = nxtL st (k + 1) (fs.drop (k + 1)) a) := Lib.hid (by rw [HE1.out, hh]; rfl)
        clear HE1 hh
        go_wp2_with fail
        go_roundw
        case rel => exact ⟨k + 1, a, rfl, by first | rfl | go_num, hlt, by first | rfl | trivial, HE2⟩
        case measure => simp [intOf]; omega
      · have hq : ((st / 2 ^ min k 64).tmod 2 == 1) = true := by rw [bit_mod HU.out]; exact hh
        have HE2 : Hid (R = nxtL st (k + 1) (fs.drop (k + 1)) (orS a x)) := Lib.hid (by rw [HE1.out, hh]; rfl)
        clear HE1 hh
        unfold orS at HE2
        go_wp2_with fail
        go_roundw
        case rel => exact ⟨k + 1, _, rfl, by first | rfl | go_num, hlt, by first | rfl | trivial, HE2⟩
        case measure => simp [intOf]; omega
    · have hltI : ¬ ((k : Int) < (n : Int)) := by omega
      have HRe : Hid (R = a) := Lib.hid (by rw [HE.out, List.drop_of_length_le (by rw [HLN.out, ← HN.out]; omega), nxtL])
      go_wp2_with fail
      go_ret
      exact ⟨by rw [HRe.out]; rfl, HB1.out⟩
end Go.Proofs.YtaipaddfehpmgaaDoor
