/-
  Restrict of package domain. Nothing is assumed.
-/
import Derived.Test.YthnlkijkgnmbhaaDoorDmRrs
import Derived.Test.YthnlkijkgnmbhaaDoorDmCopy
import Derived.Deep.RegionLaw
import Derived.Deep.Cut
import Derived.Deep.CutRange
import Derived.Deep.DeepCutAuto
namespace Go.Proofs.YthnlkijkgnmbhaaDoor
open Go.RowKit

/-- One element more. -/
theorem Acc.runAt {α : Type} {E : Enc α} {e t : TypeId} {i0 : TypeInfo} {z : Value} {bytes : Nat} (ty : TypeId) (ht : Tryd.prog.underlying t = some (.slice e)) (hi : Tryd.prog.info? e = some i0) (hz0 : i0.zero = some z) (hz1 : i0.size = E.n) (hz2 : i0.bytes = bytes) (hzs : z.cells.size = E.n) (hby : bytes ≤ 100)
    {w : World} (B0 base : Nat) (v : Value) (l : List α) (h : Acc E e w B0 base v l) (ad : Addr) (c : Nat) (a : α) (s : Value) (hs1 : s.oneCell' = true) (hcell : ∀ j u, (E.enc (a, s))[j]? = some u → w.cell? (ad.add j) = some u)
    (hs : RepS w (SB B0 base w.heap.size v.ownBlock) s (E.lst a)) (hlen : l.length ≤ 5000) (hbase : base ≤ w.heap.size) :
    ∃ v' w', (Builtin.append_ #[t, t] ty #[v, .slice (some ad) 1 c]).run Tryd.prog w = .ok v' w' ∧ Acc E e w' B0 base v' (l ++ [a]) ∧ w.grownBy w' v.ownBlock ∧ (v'.ownBlock = v.ownBlock ∨ v'.ownBlock = some w.heap.size) := by
  obtain ⟨ps, hp, hown, hr⟩ := h
  have hl1 : (E.enc (a, s)).length = 1 * E.n := by rw [E.len, Nat.one_mul]
  obtain ⟨v', w', hrun, h1, hg, _, hat⟩ := run_append_own_at (P := Tryd.prog) w base t ty e i0 z E.n bytes ht hi hz0 hz1 hz2 hzs E.pos v l.length _ hown ad 1 c (E.enc (a, s)) hl1 hcell (E.one (a, s) hs1) (by unfold maxLen; omega) (by
    have := Nat.mul_le_mul (show l.length + 1 ≤ 5001 by omega) hby; omega) hbase
  have hsz := hg.size
  have hoff : ∀ b, SB B0 base w.heap.size v.ownBlock b → SB B0 base w'.heap.size v'.ownBlock b := fun b ⟨h2, h3, h4⟩ => ⟨h2, by omega, by
    rcases hat with h5 | h5
    · rw [h5]; exact h4
    · rw [h5]; intro e; cases e; omega⟩
  have hbl : ∀ b, SB B0 base w.heap.size v.ownBlock b → w'.heap[b]? = w.heap[b]? := fun b ⟨_, h3, h4⟩ => hg.block b h3 (Ne.symm h4)
  refine ⟨v', w', hrun, ⟨ps ++ [(a, s)], by simp [hp], ?_, fun p hpm => ?_⟩, hg, hat⟩
  · rw [List.flatMap_append, List.flatMap_singleton, List.length_append]
    exact h1
  · rcases List.mem_append.1 hpm with hpm | hpm
    · exact (hr p hpm).keep hoff hbl
    · rw [List.mem_singleton] at hpm
      subst hpm
      exact hs.keep hoff hbl

theorem Acc.stepAt {α : Type} {E : Enc α} {e t : TypeId} {i0 : TypeInfo} {z : Value} {bytes : Nat} (ht : Tryd.prog.underlying t = some (.slice e)) (hi : Tryd.prog.info? e = some i0) (hz0 : i0.zero = some z) (hz1 : i0.size = E.n) (hz2 : i0.bytes = bytes) (hzs : z.cells.size = E.n) (hby : bytes ≤ 100)
    {w : World} {ops : Array Oper} {o : Oper} {ac : Act} {K : Act → World → Prop} {Q : Exit → Act → World → Prop} {X : Prop} (hgd : o.guard = none) (sv x : Operand)
    (ho : o.op = .call { callee := .builtin .append, args := #[sv, x], argTypes := #[t, t] }) (B0 base : Nat) (v : Value) (l : List α) (hsv : ac.eval sv = v) (h : Acc E e w B0 base v l) (ad : Addr) (c : Nat) (a : α) (s : Value) (hx : ac.eval x = .slice (some ad) 1 c) (hs1 : s.oneCell' = true)
    (hcell : ∀ j u, (E.enc (a, s))[j]? = some u → w.cell? (ad.add j) = some u) (hs : RepS w (SB B0 base w.heap.size v.ownBlock) s (E.lst a)) (hlen : l.length ≤ 5000) (hbase : base ≤ w.heap.size)
    (hK : ∀ v' w', Acc E e w' B0 base v' (l ++ [a]) → w.grownBy w' v.ownBlock → (v'.ownBlock = v.ownBlock ∨ v'.ownBlock = some w.heap.size) → K (ac.put o.dst v') w') : if Region.wanted o (yielded ops ac.tmps) = true then Oper.wp Tryd.prog o ac w K Q else X := by
  have hw : Region.wanted o (yielded ops ac.tmps) = true := by simp [Region.wanted, hgd]
  rw [if_pos hw]
  obtain ⟨v', w', hr, h1, h2, h3⟩ := Acc.runAt o.type ht hi hz0 hz1 hz2 hzs hby B0 base v l h ad c a s hs1 hcell hs hlen hbase
  unfold Oper.wp execOp
  simp only [ho, resolve, invoke, builtin, Sem.run_bind, Sem.run_pure, Result.andThen_ok, List.map_toArray, List.map_cons, List.map_nil, hsv, hx, hr]
  exact hK v' w' h1 h2 h3

theorem cell_heap {w : World} {g o : Nat} {cur : Array Value} {t : TypeId} (h : w.heap[g]? = some (.cells cur t (0, 0))) : w.cell? ⟨g, o, none⟩ = cur[o]? ∧ w.frozen? ⟨g, o, none⟩ = false := by
  constructor
  · unfold World.cell?; rw [h]; simp
  · unfold World.frozen?; rw [h]; simp
/-- The row has a last place: its cells stand. -/
theorem Acc.last {w : World} {e : TypeId} {B0 base : Nat} {v : Value} {cur : List V} {z : V} (h : Acc encV e w B0 base v (cur ++ [z])) :
    ∃ g cap, v = .slice (some ⟨g, 0, none⟩) (cur.length + 1) cap ∧ base ≤ g ∧ g < w.heap.size ∧ cur.length + 1 ≤ cap ∧ ∀ j, j < 4 → (∃ u, w.cell? ⟨g, cur.length * 4 + j, none⟩ = some u) ∧ w.frozen? ⟨g, cur.length * 4 + j, none⟩ = false := by
  obtain ⟨ps, hp, ho, hr⟩ := h
  rw [List.length_append, List.length_singleton] at ho
  rcases ho.2 with ⟨_, h0⟩ | ⟨g, cap, c, rfl, hg, hh, hnc, _, hsz, htk⟩
  · omega
  · refine ⟨g, cap, rfl, hg, (Array.getElem?_eq_some_iff.1 hh).1, hnc, fun j hj => ?_⟩
    obtain ⟨h1, h2⟩ := cell_heap (o := cur.length * 4 + j) hh
    have : (cur.length + 1) * 4 ≤ cap * 4 := Nat.mul_le_mul_right 4 hnc
    have hs4 : c.size = cap * 4 := hsz
    refine ⟨⟨c[cur.length * 4 + j]'(by omega), ?_⟩, h2⟩
    rw [h1]
    exact Array.getElem?_eq_getElem (by omega)
theorem take_set4 {c : Array Value} {n : Nat} {xs ys : List Value} (hx : xs.length = n * 4) (_ : ys.length = 4) (h : c.toList.take ((n + 1) * 4) = xs ++ ys) (hs : (n + 1) * 4 ≤ c.size) (a b d f : Value) :
    ((((c.setIfInBounds (n * 4) a).setIfInBounds (n * 4 + 1) b).setIfInBounds (n * 4 + 2) d).setIfInBounds (n * 4 + 3) f).toList.take ((n + 1) * 4) = xs ++ [a, b, d, f] := by
  apply List.ext_getElem?
  intro j
  rcases Nat.lt_or_ge j (n * 4) with hj | hj
  · have e1 : (xs ++ [a, b, d, f])[j]? = (xs ++ ys)[j]? := by rw [List.getElem?_append_left (by omega), List.getElem?_append_left (by omega)]
    rw [e1, ← h, List.getElem?_take, List.getElem?_take, if_pos (by omega), if_pos (by omega)]
    simp only [Array.getElem?_toList]
    rw [Array.getElem?_setIfInBounds_ne (by omega), Array.getElem?_setIfInBounds_ne (by omega), Array.getElem?_setIfInBounds_ne (by omega), Array.getElem?_setIfInBounds_ne (by omega)]
  · rcases Nat.lt_or_ge j ((n + 1) * 4) with hj2 | hj2
    · rw [List.getElem?_take, if_pos hj2, List.getElem?_append_right (by omega), hx]
      simp only [Array.getElem?_toList]
      have hc : j = n * 4 ∨ j = n * 4 + 1 ∨ j = n * 4 + 2 ∨ j = n * 4 + 3 := by omega
      rcases hc with rfl | rfl | rfl | rfl
      · rw [Array.getElem?_setIfInBounds_ne (by omega), Array.getElem?_setIfInBounds_ne (by omega), Array.getElem?_setIfInBounds_ne (by omega), Array.getElem?_setIfInBounds_self_of_lt (by omega)]
        simp
      · rw [Array.getElem?_setIfInBounds_ne (by omega), Array.getElem?_setIfInBounds_ne (by omega), Array.getElem?_setIfInBounds_self_of_lt (by simp; omega)]
        simp
      · rw [Array.getElem?_setIfInBounds_ne (by omega), Array.getElem?_setIfInBounds_self_of_lt (by simp; omega)]
        simp
      · rw [Array.getElem?_setIfInBounds_self_of_lt (by simp; omega)]
        simp
    · rw [List.getElem?_take, if_neg (by omega), List.getElem?_eq_none (by simp; omega)]
/-- Another value is stored at the last place. -/
theorem Acc.put {w : World} {e : TypeId} {B0 base g cap : Nat} {cur : List V} {z : V} (h : Acc encV e w B0 base (.slice (some ⟨g, 0, none⟩) (cur.length + 1) cap) (cur ++ [z])) (v : V) (s : Value) (hs : RepS w (SB B0 base w.heap.size (some g)) s v.l) :
    Acc encV e (put4 w g cur.length v s) B0 base (.slice (some ⟨g, 0, none⟩) (cur.length + 1) cap) (cur ++ [v]) := by
  obtain ⟨ps, hp, ho, hr⟩ := h
  obtain ⟨qs, p, hps⟩ : ∃ qs p, ps = qs ++ [p] := by
    rcases List.eq_nil_or_concat ps with h0 | ⟨qs, p, h0⟩
    · subst h0; simp at hp
    · exact ⟨qs, p, by rw [h0, List.concat_eq_append]⟩
  subst hps
  rw [List.map_append, List.map_singleton] at hp
  have hq : qs.map (·.1) = cur := (List.append_inj' hp rfl).1
  have hql : qs.length = cur.length := by rw [← hq]; simp
  rw [List.length_append, List.length_singleton] at ho
  have hfl : ∀ r : V × Value, (qs ++ [r]).flatMap encV.enc = qs.flatMap encV.enc ++ V.cs r := fun r => by rw [List.flatMap_append, List.flatMap_singleton]; rfl
  have hfq : (qs.flatMap encV.enc).length = cur.length * 4 := by
    rw [← hql]
    clear hp ho hr hq hql hfl
    induction qs with
    | nil => rfl
    | cons r qs ih => rw [List.flatMap_cons, List.length_append, ih, encV.len]; show 4 + _ = (qs.length + 1) * 4; omega
  have hkeep : ∀ b, b ≠ g → (put4 w g cur.length v s).heap[b]? = w.heap[b]? := fun b hb => put4_other w g _ v s hb
  have hsz : (put4 w g cur.length v s).heap.size = w.heap.size := put4_size ..
  refine ⟨qs ++ [(v, s)], by rw [List.map_append, hq]; rfl, ?_, fun r hr' => ?_⟩
  · rw [List.length_append, List.length_singleton]
    rcases ho.2 with ⟨h0, _⟩ | ⟨g', cap', c, hv, hg, hh, hnc, hcm, hcs, htk⟩
    · cases h0
    · cases hv
      have hcs4 : c.size = cap * 4 := hcs
      have : (cur.length + 1) * 4 ≤ cap * 4 := Nat.mul_le_mul_right 4 hnc
      refine ⟨by rw [hfl, List.length_append, hfq]; show _ + 4 = (cur.length + 1) * 4; omega, .inr ⟨g, cap, _, rfl, hg, heap_setCell_same _ _ _ _ _ _ (heap_setCell_same _ _ _ _ _ _ (heap_setCell_same _ _ _ _ _ _ (heap_setCell_same _ _ _ _ _ _ hh))), hnc, hcm, by simpa using hcs, ?_⟩⟩
      rw [hfl] at htk ⊢
      exact take_set4 hfq rfl htk (by omega) _ _ _ _
  · rcases List.mem_append.1 hr' with hm | hm
    · exact (hr r (List.mem_append_left _ hm)).keep (fun b ⟨h1, h2, h3⟩ => ⟨h1, by rw [hsz]; exact h2, h3⟩) (fun b ⟨_, _, h3⟩ => hkeep b (fun e => h3 (by rw [e]; rfl)))
    · rw [List.mem_singleton] at hm
      subst hm
      exact hs.keep (fun b ⟨h1, h2, h3⟩ => ⟨h1, by rw [hsz]; exact h2, h3⟩) (fun b ⟨_, _, h3⟩ => hkeep b (fun e => h3 (by rw [e])))

theorem ne_of_hat {g3 wz s2 sw : Nat} {v : Value} (hv : some g3 = v.ownBlock ∨ some g3 = some sw) (hlt : ∀ q, v.ownBlock = some q → q < wz) (hs : s2 ≤ sw) : ∀ b, wz ≤ b → b < s2 → g3 ≠ b := by
  intro b h1 h2 e
  subst e
  rcases hv with h | h
  · have := hlt _ h.symm
    omega
  · cases h
    omega
/-- The row of the axes. -/
def AxR (w : World) (G n : Nat) (f : Nat → Value) : Prop := ∀ j, j < n → w.cell? ⟨G, j, none⟩ = some (f j) ∧ w.frozen? ⟨G, j, none⟩ = false
theorem AxR.keep {w w' : World} {G n : Nat} {f : Nat → Value} (h : AxR w G n f) (hb : w'.heap[G]? = w.heap[G]?) : AxR w' G n f := fun j hj =>
  ⟨(World.cell?_of_block (w := w) hb).trans (h j hj).1, (World.frozen?_of_block (w := w) hb).trans (h j hj).2⟩
def upd (f : Nat → Value) (i : Nat) (v : Value) (j : Nat) : Value := if j = i then v else f j
theorem upd_same (f : Nat → Value) (i : Nat) (v : Value) : upd f i v i = v := if_pos rfl
theorem upd_other {f : Nat → Value} {i j : Nat} (v : Value) (h : j ≠ i) : upd f i v j = f j := if_neg h
theorem AxR.set {w : World} {G n : Nat} {f : Nat → Value} {i : Nat} {u : Value} (h : AxR w G n (upd f i u)) (hi : i < n) (v : Value) : AxR (w.setCell ⟨G, i, none⟩ v) G n (upd f i v) := fun j hj => by
  refine ⟨?_, by rw [World.frozen?_setCell]; exact (h j hj).2⟩
  by_cases e : j = i
  · subst e
    rw [upd_same]
    exact World.cell?_setCell_same _ _ _ (h j hj).1
  · rw [upd_other v e, World.cell?_setCell_other _ _ _ _ (fun he => e (by cases he; rfl))]
    have := (h j hj).1
    rwa [upd_other u e] at this
theorem rest_one {w3 : World} {e : TypeId} {base g3 cap3 G n i : Nat} {cur : List V} {z vv : V} {sl2 u : Value} {f : Nat → Value} (ha : Acc encV e w3 0 base (.slice (some ⟨g3, 0, none⟩) (cur.length + 1) cap3) (cur ++ [z]))
    (hq : RepS w3 (SB 0 base w3.heap.size (some g3)) sl2 vv.l) (hG : G < base) (hg : base ≤ g3) (hx : AxR w3 G n (upd f i u)) (hi : i < n) :
    Acc encV e ((put4 w3 g3 cur.length vv sl2).setCell ⟨G, i, none⟩ (.slice (some ⟨g3, 0, none⟩) (cur.length + 1) cap3)) 0 base (.slice (some ⟨g3, 0, none⟩) (cur.length + 1) cap3) (cur ++ [vv]) ∧
    AxR ((put4 w3 g3 cur.length vv sl2).setCell ⟨G, i, none⟩ (.slice (some ⟨g3, 0, none⟩) (cur.length + 1) cap3)) G n (upd f i (.slice (some ⟨g3, 0, none⟩) (cur.length + 1) cap3)) ∧
    (∀ b, b ≠ G → b ≠ g3 → ((put4 w3 g3 cur.length vv sl2).setCell ⟨G, i, none⟩ (.slice (some ⟨g3, 0, none⟩) (cur.length + 1) cap3)).heap[b]? = w3.heap[b]?) ∧
    ((put4 w3 g3 cur.length vv sl2).setCell ⟨G, i, none⟩ (.slice (some ⟨g3, 0, none⟩) (cur.length + 1) cap3)).heap.size = w3.heap.size ∧
    ∀ B W0, B ≤ G → Below B W0 w3 → Below B W0 ((put4 w3 g3 cur.length vv sl2).setCell ⟨G, i, none⟩ (.slice (some ⟨g3, 0, none⟩) (cur.length + 1) cap3)) :=
  ⟨(ha.put vv sl2 hq).setCell (Nat.zero_le _) hG, (hx.keep (put4_other w3 g3 _ vv sl2 (by omega))).set hi _,
    fun b h1 h2 => (heap_setCell_other _ _ _ _ h1).trans (put4_other w3 g3 _ vv sl2 h2), by rw [World.size_setCell, put4_size],
    fun B W0 h1 h2 => (put4_below h2 (by omega)).setCell (p := ⟨G, i, none⟩) h1 _⟩
theorem rest_two {w3 : World} {e : TypeId} {base g3 cap3 G n i : Nat} {cur : List V} {z vv : V} {sl2 u : Value} {f : Nat → Value} (ha : Acc encV e w3 0 base (.slice (some ⟨g3, 0, none⟩) (cur.length + 1) cap3) (cur ++ [z]))
    (hq : RepS w3 (SB 0 base w3.heap.size (some g3)) sl2 vv.l) (hG : G < base) (hg : base ≤ g3) (hx : AxR w3 G n (upd f i u)) (hi : i < n) :
    Acc encV e (put4 (w3.setCell ⟨G, i, none⟩ (.slice (some ⟨g3, 0, none⟩) (cur.length + 1) cap3)) g3 cur.length vv sl2) 0 base (.slice (some ⟨g3, 0, none⟩) (cur.length + 1) cap3) (cur ++ [vv]) ∧
    AxR (put4 (w3.setCell ⟨G, i, none⟩ (.slice (some ⟨g3, 0, none⟩) (cur.length + 1) cap3)) g3 cur.length vv sl2) G n (upd f i (.slice (some ⟨g3, 0, none⟩) (cur.length + 1) cap3)) ∧
    (∀ b, b ≠ G → b ≠ g3 → (put4 (w3.setCell ⟨G, i, none⟩ (.slice (some ⟨g3, 0, none⟩) (cur.length + 1) cap3)) g3 cur.length vv sl2).heap[b]? = w3.heap[b]?) ∧
    (put4 (w3.setCell ⟨G, i, none⟩ (.slice (some ⟨g3, 0, none⟩) (cur.length + 1) cap3)) g3 cur.length vv sl2).heap.size = w3.heap.size ∧
    ∀ B W0, B ≤ G → Below B W0 w3 → Below B W0 (put4 (w3.setCell ⟨G, i, none⟩ (.slice (some ⟨g3, 0, none⟩) (cur.length + 1) cap3)) g3 cur.length vv sl2) :=
  ⟨(ha.setCell (g := G) (o := i) (u := .slice (some ⟨g3, 0, none⟩) (cur.length + 1) cap3) (Nat.zero_le _) hG).put vv sl2 (hq.keep (fun b ⟨h1, h2, h3⟩ => ⟨h1, by rw [World.size_setCell]; exact h2, h3⟩) (fun b ⟨h1, _, _⟩ => heap_setCell_other _ _ _ _ (by show b ≠ G; omega))),
    (hx.set hi _).keep (put4_other _ g3 _ vv sl2 (by omega)),
    fun b h1 h2 => (put4_other _ g3 _ vv sl2 h2).trans (heap_setCell_other _ _ _ _ h1), by rw [put4_size, World.size_setCell],
    fun B W0 h1 h2 => put4_below (h2.setCell (p := ⟨G, i, none⟩) h1 _) (by omega)⟩
structure RK (w0 wo w5 : World) (e : TypeId) (G n i B : Nat) (f : Nat → Value) (v3 : Value) (cs : List V) : Prop where
  acc : Acc encV e w5 0 wo.heap.size v3 cs
  row : AxR w5 G n (upd f i v3)
  kp : (∀ b, b < wo.heap.size → b ≠ G → w5.heap[b]? = wo.heap[b]?) ∧ wo.heap.size ≤ w5.heap.size
  bel : Below B w0 w5
theorem AxR.made {w : World} {base e g n : Nat} (h : w.ownsRow base e 1 (.slice (some ⟨g, 0, none⟩) n n) n (madeCells #[.slice none 0 0] n).toList) : AxR w g n (fun _ => .slice none 0 0) := fun j hj => by
  have hc := World.ownsRow.cellAt h j (by omega)
  rcases h.2 with ⟨h0, _⟩ | ⟨g', cap, c, hv, hg, hh, _⟩
  · cases h0
  · cases hv
    refine ⟨?_, (cell_heap hh).2⟩
    rw [hc]
    simp [madeCells]
    exact ⟨j, List.getElem?_range hj, by rw [Nat.mod_one]; rfl⟩

theorem rk_one {w0 wo w3 : World} {e : TypeId} {g3 cap3 G n i B : Nat} {cur : List V} {z vv : V} {sl2 u : Value} {f : Nat → Value} (ha : Acc encV e w3 0 wo.heap.size (.slice (some ⟨g3, 0, none⟩) (cur.length + 1) cap3) (cur ++ [z]))
    (hq : RepS w3 (SB 0 wo.heap.size w3.heap.size (some g3)) sl2 vv.l) (hG : G < wo.heap.size) (hg : wo.heap.size ≤ g3) (hx : AxR w3 G n (upd f i u)) (hi : i < n)
    (hk : ∀ b, b < wo.heap.size → b ≠ G → w3.heap[b]? = wo.heap[b]?) (hs : wo.heap.size ≤ w3.heap.size) (hBG : B ≤ G) (hb : Below B w0 w3) :
    RK w0 wo (((((w3.setCell ⟨g3, cur.length * 4, none⟩ (.int .i64 vv.t)).setCell ⟨g3, cur.length * 4 + 1, none⟩ (.int .i64 vv.n)).setCell ⟨g3, cur.length * 4 + 2, none⟩ (.string vv.s)).setCell ⟨g3, cur.length * 4 + 3, none⟩ sl2).setCell ⟨G, i, none⟩ (.slice (some ⟨g3, 0, none⟩) (cur.length + 1) cap3)) e G n i B f (.slice (some ⟨g3, 0, none⟩) (cur.length + 1) cap3) (cur ++ [vv]) := by
  obtain ⟨k1, k2, k3, k4, k5⟩ := rest_one (vv := vv) ha hq hG hg hx hi
  exact ⟨k1, k2, ⟨fun b h1 h2 => (k3 b h2 (by omega)).trans (hk b h1 h2), by
    have h : wo.heap.size ≤ _ := Nat.le_trans hs (Nat.le_of_eq k4.symm)
    exact h⟩, k5 _ _ hBG hb⟩
theorem rk_two {w0 wo w3 : World} {e : TypeId} {g3 cap3 G n i B : Nat} {cur : List V} {z vv : V} {sl2 u : Value} {f : Nat → Value} (ha : Acc encV e w3 0 wo.heap.size (.slice (some ⟨g3, 0, none⟩) (cur.length + 1) cap3) (cur ++ [z]))
    (hq : RepS w3 (SB 0 wo.heap.size w3.heap.size (some g3)) sl2 vv.l) (hG : G < wo.heap.size) (hg : wo.heap.size ≤ g3) (hx : AxR w3 G n (upd f i u)) (hi : i < n)
    (hk : ∀ b, b < wo.heap.size → b ≠ G → w3.heap[b]? = wo.heap[b]?) (hs : wo.heap.size ≤ w3.heap.size) (hBG : B ≤ G) (hb : Below B w0 w3) :
    RK w0 wo (((((w3.setCell ⟨G, i, none⟩ (.slice (some ⟨g3, 0, none⟩) (cur.length + 1) cap3)).setCell ⟨g3, cur.length * 4, none⟩ (.int .i64 vv.t)).setCell ⟨g3, cur.length * 4 + 1, none⟩ (.int .i64 vv.n)).setCell ⟨g3, cur.length * 4 + 2, none⟩ (.string vv.s)).setCell ⟨g3, cur.length * 4 + 3, none⟩ sl2) e G n i B f (.slice (some ⟨g3, 0, none⟩) (cur.length + 1) cap3) (cur ++ [vv]) := by
  obtain ⟨k1, k2, k3, k4, k5⟩ := rest_two (vv := vv) ha hq hG hg hx hi
  exact ⟨k1, k2, ⟨fun b h1 h2 => (k3 b h2 (by omega)).trans (hk b h1 h2), by
    have h : wo.heap.size ≤ _ := Nat.le_trans hs (Nat.le_of_eq k4.symm)
    exact h⟩, k5 _ _ hBG hb⟩
theorem rL_at {N : Int} {ks : List Bool} : ∀ {l : List (List V)} {n i : Nat} {a : List V}, (rL N ks n l)[i]? = some a → ∃ b, l[i]? = some b ∧ a = rAx (n + i) N ks b
  | [], _, _, _, h => by simp [rL] at h
  | b :: l, n, 0, a, h => by
    rw [rL] at h
    simp at h
    exact ⟨b, rfl, h.symm⟩
  | b :: l, n, i + 1, a, h => by
    rw [rL] at h
    obtain ⟨c, h1, h2⟩ := rL_at (l := l) (n := n + 1) (i := i) (by simpa using h)
    exact ⟨c, by simpa using h1, by rw [h2]; congr 1; omega⟩
theorem AxR.axes {w : World} {G : Nat} {N : Int} {ks : List Bool} {l : List (List V)} {f : Nat → Value} (h : AxR w G l.length f) (hG : G < w.heap.size) (hm : l.length ≤ 9223372036854775807)
    (hr : ∀ j a, j < l.length → l[j]? = some a → RepS w (fun b => G < b ∧ b < w.heap.size) (f j) (rAx j N ks a)) : LAx w w.heap.size (.slice (some ⟨G, 0, none⟩) l.length l.length) (rL N ks 0 l) := by
  refine ⟨some ⟨G, 0, none⟩, l.length, by rw [rL_len], by rw [rL_len]; exact Nat.le_refl _, by rw [rL_len]; exact hm, fun i a ha => ?_⟩
  obtain ⟨b, hb, rfl⟩ := rL_at ha
  have hi := (List.getElem?_eq_some_iff.1 hb).1
  rw [Nat.zero_add]
  have hrep := hr i b hi hb
  obtain ⟨oe, ce, he, _⟩ := hrep.form
  refine ⟨G, 0, oe, ce, rfl, hG, ?_, ?_⟩
  · rw [Nat.zero_add, (h i hi).1, he]
  · rw [← he]
    exact hrep.rep (fun b hb => hb.2)

set_option maxRecDepth 100000 in
set_option maxHeartbeats 6400000 in
theorem restrict_any (l : List (List V)) (x : Value) (N : Int) (y : Value) (ks : List Bool) (w : World) (B : Nat) (hx : LAx w B x l) (hy : LBools w B y ks) (hB : B ≤ w.heap.size) (hl : l.length ≤ 1000) (hla : ∀ a, a ∈ l → a.length ≤ 1000) (hft : ∀ a, a ∈ l → ∀ v, v ∈ a → v.fits = true) :
    Calls Tryd.prog 18 #[.agg #[x], .int .i64 N, y] w fun e w' => (∃ sl, e = .returned (.tuple #[.agg #[sl], .int .i64 (rstE l N ks)]) ∧ LAx w' w'.heap.size sl (rstL l N ks)) ∧ Below w.heap.size w w' := by
  have HX := Lib.hid hx
  obtain ⟨oa, ca, rfl, _, hlm⟩ := hx.form
  obtain ⟨oy, cy, rfl, hym, hely⟩ := hy
  have HEY := Lib.hid hely
  have HLA := Lib.hid hla
  have HFT := Lib.hid hft
  clear hx hely hla hft
  have HB0 := Lib.hid (show Below w.heap.size w ((w.alloc (.cells #[.slice oa l.length ca] 24)).alloc (.cells #[.slice none 0 0] 24)) from (below1 w _).trans ((below1 _ _).mono (by simp)))
  have hR0 : ∀ w', Below (w.heap.size + 2) ((w.alloc (.cells #[.slice oa l.length ca] 24)).alloc (.cells #[.slice none 0 0] 24)) w' → w'.cell? ⟨w.heap.size, 0, none⟩ = some (.slice oa l.length ca) ∧ w'.cell? ⟨w.heap.size + 1, 0, none⟩ = some (.slice none 0 0) ∧ w'.frozen? ⟨w.heap.size + 1, 0, none⟩ = false := fun w' h => by
    have h1 := cell_at (w.alloc (.cells #[.slice oa l.length ca] 24)) #[.slice none 0 0] 24 0 _ rfl
    have h2 := frozen_new (w.alloc (.cells #[.slice oa l.length ca] 24)) #[.slice none 0 0] 24 0
    rw [World.size_alloc] at h1 h2
    exact ⟨(h.cell (p := ⟨w.heap.size, 0, none⟩) (by simp)).trans (((below1 _ _).cell (p := ⟨w.heap.size, 0, none⟩) (by simp)).trans (cell_at _ _ _ _ _ rfl)),
      (h.cell (p := ⟨w.heap.size + 1, 0, none⟩) (by simp)).trans h1, (h.frozen (p := ⟨w.heap.size + 1, 0, none⟩) (by simp)).trans h2⟩
  have HR0 := Lib.hid hR0
  clear hR0
  by_cases hlow : N < 0
  · have HZ := Lib.hid (rst_range (l := l) (N := N) (ks := ks) (.inl hlow))
    obtain ⟨hd, r0, z0⟩ := HR0.out _ (Below.refl _ _)
    go_enter Tryd.func18, Tryd.ntmps18
    go_wp2_with fail
    refine bodyPost_ret (v := .tuple #[.agg #[.slice none 0 0], .int .i64 1]) (by simp [results, Tryd.results18, go_sem, *]) rfl ?_
    exact ⟨⟨.slice none 0 0, by rw [HZ.out.1], by rw [HZ.out.2]; exact LAx.nil⟩, by first | exact HB0.out | exact HB0.out.setCell (p := ⟨w.heap.size + 1, 0, none⟩) (Nat.le_succ _) _⟩
  by_cases hbig : (l.length : Int) ≤ N
  · have HZ := Lib.hid (rst_range (l := l) (N := N) (ks := ks) (.inr hbig))
    obtain ⟨hd, r0, z0⟩ := HR0.out _ (Below.refl _ _)
    go_enter Tryd.func18, Tryd.ntmps18
    go_wp2_with fail
    refine bodyPost_ret (v := .tuple #[.agg #[.slice none 0 0], .int .i64 1]) (by simp [results, Tryd.results18, go_sem, *]) rfl ?_
    exact ⟨⟨.slice none 0 0, by rw [HZ.out.1], by rw [HZ.out.2]; exact LAx.nil⟩, by first | exact HB0.out | exact HB0.out.setCell (p := ⟨w.heap.size + 1, 0, none⟩) (Nat.le_succ _) _⟩
  obtain ⟨m, rfl⟩ : ∃ m : Nat, N = m := ⟨N.toNat, by omega⟩
  have hml : m < l.length := by omega
  have hmi : (m : Int) < (l.length : Int) := by omega
  have hm0 : (0 : Int) ≤ (m : Int) := by omega
  obtain ⟨am, ham⟩ : ∃ am, l[m] = am := ⟨_, rfl⟩
  have hlm' : l[m]? = some am := by rw [← ham]; exact List.getElem?_eq_getElem hml
  obtain ⟨bm, offm, om, cm, rfl, hbm, hcm, _⟩ := HX.out.at_ hlm'
  have hcm0 := (HB0.out.cell (p := ⟨bm, offm + m, none⟩) (Nat.lt_of_lt_of_le hbm hB)).trans hcm
  clear hcm
  by_cases hks' : ks.length ≠ am.length
  · have hkb : ((ks.length : Int) != (am.length : Int)) = true := neqt (by omega)
    have HZ := Lib.hid (rst_size hml ham hks')
    obtain ⟨hd, r0, z0⟩ := HR0.out _ (Below.refl _ _)
    go_enter Tryd.func18, Tryd.ntmps18
    go_wp2_with fail
    refine bodyPost_ret (v := .tuple #[.agg #[.slice none 0 0], .int .i64 2]) (by simp [results, Tryd.results18, go_sem, *]) rfl ?_
    exact ⟨⟨.slice none 0 0, by rw [HZ.out.1], by rw [HZ.out.2]; exact LAx.nil⟩, by first | exact HB0.out | exact HB0.out.setCell (p := ⟨w.heap.size + 1, 0, none⟩) (Nat.le_succ _) _⟩
  have hks : ks.length = am.length := by omega
  clear hks'
  have hkb : ((ks.length : Int) != (am.length : Int)) = false := neqf (by omega)
  have HZ := Lib.hid (rst_ok hml ham hks)
  have HKS := Lib.hid hks
  have HAM := Lib.hid ham
  obtain ⟨hd, r0, z0⟩ := HR0.out _ (Below.refl _ _)
  obtain ⟨i0, hi, hz0, hz1, hz2⟩ := info_parts infoList
  obtain ⟨j0, hj, hy0, hy1, hy2⟩ := info_parts infoValue
  clear ham hks
  obtain ⟨w0, hw0⟩ : ∃ w0, w0 = ((w.alloc (.cells #[.slice (some ⟨bm, offm, none⟩) l.length ca] 24)).alloc (.cells #[.slice none 0 0] 24)) := ⟨_, rfl⟩
  have hsw0 : w0.heap.size = w.heap.size + 2 := by rw [hw0]; simp
  have HW0 := Lib.hid hw0
  go_enter Tryd.func18, Tryd.ntmps18
  go_wp2_with (at_make; refine wpList_make_full _ rfl _ _ 22 rfl (w.heap.size + 2) 33 i0 _ 1 Tryd.underlying22 hi hz0 hz1 _ _ _ _ l.length rfl rfl rfl rfl ?b2 ?b3 (by simp) ?_)
  case b2 => first | omega | (rw [hz2]; omega)
  case b3 => unfold maxLen; omega
  intro w4 hown4 hgrow4
  rw [← hw0] at hgrow4 hd
  have HAX4 := Lib.hid (AxR.made hown4)
  have hb4 : Below (w.heap.size + 2) w0 w4 := (Below.refl _ _).grown hgrow4 (by omega) (fun k e => by cases e)
  have HS4 := Lib.hid (show w.heap.size + 1 + 1 < w4.heap.size from by have := World.ownsRow.lt hown4 (w.heap.size + 1 + 1) rfl; exact this.2)
  have hd4 := (hb4.cell (p := ⟨w.heap.size, 0, none⟩) (by simp)).trans hd
  have HB4 := Lib.hid hb4
  have HBA := Lib.hid (show Below w.heap.size w w4 from by have h := HB0.out; rw [← hw0] at h; exact h.trans (hb4.mono (by omega)))
  clear hown4 hgrow4 hb4 hd r0 z0 hcm0 hkb hw0
  have HGL := Lib.hid (show ∀ (j : Nat) (a : List V), l[j]? = some a → j < l.length from fun j a h => (List.getElem?_eq_some_iff.1 h).1)
  go_wp2_with fail
  go_loopw [40] (fun iv wr => ∃ (i : Nat) (f : Nat → Value), i ≤ l.length ∧ iv = .int .i64 i ∧ Hid (AxR wr (w.heap.size + 1 + 1) l.length f ∧ ∀ j, i ≤ j → j < l.length → f j = .slice none 0 0) ∧
      Hid (∀ j a, j < i → l[j]? = some a → RepS wr (fun b => w.heap.size + 1 + 1 < b ∧ b < wr.heap.size) (f j) (rAx j m ks a)) ∧ Below (w.heap.size + 2) w0 wr ∧ Hid (w.heap.size + 1 + 1 < wr.heap.size)) (fun i _ => l.length - (intOf i).toNat)
  case atStart => exact ⟨0, fun _ => .slice none 0 0, Nat.zero_le _, rfl, Lib.hid ⟨HAX4.out, fun _ _ _ => rfl⟩, Lib.hid (fun j a h => absurd h (Nat.not_lt_zero _)), HB4.out, HS4⟩
  case round =>
    obtain ⟨i, f, hil, rfl, HA, HR, hbel, HGO⟩ := hrel
    obtain ⟨wo, hwo⟩ : ∃ wo : World, wo = wr := ⟨_, rfl⟩
    subst hwo
    have HBW := Lib.hid (show Below w.heap.size w wo from by have h := HB0.out; rw [← HW0.out] at h; exact h.trans (hbel.mono (by omega)))
    have hd5 := (hbel.cell (p := ⟨w.heap.size, 0, none⟩) (by simp)).trans (show w0.cell? ⟨w.heap.size, 0, none⟩ = some (.slice (some ⟨bm, offm, none⟩) l.length ca) from by rw [HW0.out]; exact (HR0.out _ (Below.refl _ _)).1)
    by_cases hlt : i < l.length
    · obtain ⟨a, hia⟩ : ∃ a, l[i] = a := ⟨_, rfl⟩
      have hia' : l[i]? = some a := by rw [← hia]; exact List.getElem?_eq_getElem hlt
      obtain ⟨b, off, oe, ce, hoa, hb, hc, hr⟩ := HX.out.at_ hia'
      cases hoa
      have hbw := Nat.lt_of_lt_of_le hb hB
      have hc1 := (HBW.out.cell (p := ⟨bm, offm + i, none⟩) hbw).trans hc
      have HRA := Lib.hid hr
      have hki : (i : Int) < (l.length : Int) := by omega
      have hki0 : (0 : Int) ≤ (i : Int) := by omega
      have HIA := Lib.hid hia'
      have hal := HLA.out a (List.mem_of_getElem? hia')
      have HFA := Lib.hid (HFT.out a (List.mem_of_getElem? hia'))
      have HKA := Lib.hid (show (i : Int) = m → ks.length = a.length from fun e => by
        have : i = m := by omega
        subst this
        rw [HKS.out, ← hia, HAM.out])
      clear hc hr hia hia' hd5
      go_wp2_with fail
      go_loopw [47] (fun kv wr => ∃ (k : Nat) (v2 : Value), k ≤ a.length ∧ kv = .int .i64 k ∧ Hid (Acc encV 48 wr 0 wo.heap.size v2 (rAx i m ks (a.take k))) ∧ Hid (AxR wr (w.heap.size + 1 + 1) l.length (upd f i v2)) ∧
          Hid ((∀ b, b < wo.heap.size → b ≠ w.heap.size + 1 + 1 → wr.heap[b]? = wo.heap[b]?) ∧ wo.heap.size ≤ wr.heap.size) ∧ Below (w.heap.size + 2) w0 wr) (fun k _ => a.length - (intOf k).toNat)
      case atStart =>
        refine ⟨0, .slice none 0 0, Nat.zero_le _, rfl, Lib.hid (by rw [List.take_zero, rAx_nil]; exact Acc.nil _ _ _ _ _), Lib.hid (fun j hj => ?_), Lib.hid ⟨fun _ _ _ => rfl, Nat.le_refl _⟩, hbel⟩
        have h := HA.out.1 j hj
        by_cases e : j = i
        · subst e
          rw [HA.out.2 j (Nat.le_refl _) hj] at h
          rw [upd_same]
          exact h
        · rw [upd_other _ e]
          exact h
      case round =>
        clear hbel
        obtain ⟨k, v2, hk, rfl, HA2, HX2, HKP, hbel2⟩ := hrel
        have HBW2 := Lib.hid (show Below w.heap.size w wr from by have h := HB0.out; rw [← HW0.out] at h; exact h.trans (hbel2.mono (by omega)))
        obtain ⟨cur, hcur⟩ : ∃ cur, rAx i m ks (a.take k) = cur := ⟨_, rfl⟩
        have HCUR := Lib.hid hcur
        rw [hcur] at HA2
        have hcl : cur.length ≤ 1000 := by have := rAx_len i m ks (a.take k); rw [hcur, List.length_take] at this; omega
        obtain ⟨ao, cp, hvf⟩ := HA2.out.form
        subst hvf
        clear hcur
        by_cases hlt2 : k < a.length
        · obtain ⟨oa3, ca3, hsl, _, _, hel3⟩ := HRA.out.slice
          cases hsl
          obtain ⟨vv, hvk⟩ : ∃ vv, a[k] = vv := ⟨_, rfl⟩
          have hvk' : a[k]? = some vv := by rw [← hvk]; exact List.getElem?_eq_getElem hlt2
          obtain ⟨b3, off3, oe3, ce3, rfl, hb3, c0, c1, c2, c3, hr3⟩ := hel3 k _ hvk'
          have hb3w : b3 < w.heap.size := Nat.lt_of_lt_of_le hb3 hB
          rw [← HBW2.out.cell (p := ⟨b3, _, none⟩) hb3w] at c0 c1 c2 c3
          have HVK := Lib.hid hvk'
          have HR3 := Lib.hid hr3
          have HVF := Lib.hid (HFA.out vv (List.mem_of_getElem? hvk'))
          have hkk : (k : Int) < (a.length : Int) := by omega
          have hkk0 : (0 : Int) ≤ (k : Int) := by omega
          clear hvk hvk' hel3 hr3
          obtain ⟨kb, hkb⟩ : ∃ kb : Bool, kb = (!(decide ((i : Int) = m)) || ks.getD k false) := ⟨_, rfl⟩
          have HKB := Lib.hid hkb
          have HST := Lib.hid (show rAx i m ks (a.take (k + 1)) = rAx i m ks (a.take k) ++ if kb = true then [vv] else [] from by
            by_cases hin : (i : Int) = m
            · have hkl : k < ks.length := by rw [HKA.out hin]; exact hlt2
              have hbb : ks[k]? = some (ks.getD k false) := by simp [List.getD, hkl]
              rw [rAx_in hin HVK.out hbb, hkb]
              simp [hin]
            · rw [rAx_out hin HVK.out, hkb]
              simp [hin])
          clear hkb
          go_upto_region 12 with fail
          obtain ⟨wz, hwz⟩ : ∃ wz, wz = wr.alloc (.cells #[.int .i64 vv.t, .int .i64 vv.n, .string vv.s, .slice oe3 vv.l.length ce3] 48) := ⟨_, rfl⟩
          have hbz : Below wr.heap.size wr wz := by rw [hwz]; exact below1 _ _
          obtain ⟨x0, x1, x2, x3⟩ := Box.new (w := wr) vv (.slice oe3 vv.l.length ce3) 48 rfl
          rw [← hwz] at x0 x1 x2 x3 ⊢
          have hsz : wz.heap.size = wr.heap.size + 1 := by rw [hwz]; simp
          have HSZ := Lib.hid (show w.heap.size + 1 + 1 < wz.heap.size from by have := HGO.out; have := HKP.out.2; omega)
          have hgz := (hbz.cell (p := ⟨w.heap.size + 1 + 1, i, none⟩) (by have := HGO.out; have := HKP.out.2; simp; omega)).trans (HX2.out i hlt).1
          rw [upd_same] at hgz
          have hgf := (hbz.frozen (p := ⟨w.heap.size + 1 + 1, i, none⟩) (by have := HGO.out; have := HKP.out.2; simp; omega)).trans (HX2.out i hlt).2
          have HBZ := Lib.hid hbz
          have HZW := Lib.hid (HBW2.out.trans (hbz.mono HBW2.out.size))
          have hxa := fun (j : Nat) (u : Value) (ob : Obj) (h : wz.cell? ⟨wr.heap.size, j, none⟩ = some u) => ((below1 wz ob).cell (p := ⟨wr.heap.size, j, none⟩) (by show wr.heap.size < wz.heap.size; omega)).trans h
          have xa0 := fun ob => hxa 0 _ ob x0
          have xa1 := fun ob => hxa 1 _ ob x1
          have xa2 := fun ob => hxa 2 _ ob x2
          have xa3 := fun ob => hxa 3 _ ob x3
          have hgza : ∀ ob, (wz.alloc ob).cell? ⟨w.heap.size + 1 + 1, i, none⟩ = some (.slice ao cur.length cp) := fun ob => ((below1 wz ob).cell (p := ⟨w.heap.size + 1 + 1, i, none⟩) HSZ.out).trans hgz
          have HCL := Lib.hid (fun (wc : World) (h : Below wz.heap.size wz wc) => clone_any vv HVF.out (.slice oe3 vv.l.length ce3) wc B (HR3.out.later ((HZW.out.trans (h.mono HZW.out.size)).mono hB)) (Nat.le_trans hB (Nat.le_trans HZW.out.size h.size)))
          have HZN := Lib.hid (And.intro HKP.out.2 hsz)
          have hcl1 : (cur.length : Int) < (cur.length : Int) + 1 := by omega
          have hlt0 : (0 : Int) ≤ (cur.length : Int) := by omega
          clear hwz hbz hxa c0 c1 c2 c3 hsz
          go_cut [47, 60] from 47 to 72 (fun s47 s60 wx => s47 = .int .i64 k ∧ s60 = .bool kb ∧ wx = wz)
          case first =>
            by_cases hin : (i : Int) = m
            · have fim : ((i : Int) != (m : Int)) = false := neqf hin
              have hkl : k < ks.length := by rw [HKA.out hin]; exact hlt2
              have hkl' : (k : Int) < (ks.length : Int) := by omega
              have hbb : ks[k]? = some (ks.getD k false) := by simp [List.getD, hkl]
              have hkk2 : ks.getD k false = kb := by rw [HKB.out]; simp [hin]
              obtain ⟨b5, off5, c5, rfl, hb5, hc5, hi5⟩ := HEY.out k _ hbb
              rw [hkk2] at hi5
              cases hi5
              have hc6 := (HZW.out.cell (p := ⟨b5, off5 + k, none⟩) (Nat.lt_of_lt_of_le hb5 hB)).trans hc5
              clear hbb hkk2 hc5 hin
              go_wp2_with fail
              go_meet
              exact ⟨rfl, rfl, rfl⟩
            · have fim : ((i : Int) != (m : Int)) = true := neqt hin
              have hkk2 : kb = true := by rw [HKB.out]; simp [hin]
              clear hin
              subst hkk2
              go_wp2_with fail
              go_meet
              exact ⟨rfl, rfl, rfl⟩
          case rest =>
            obtain ⟨rfl, rfl, hwc⟩ := hcut
            rw [hwc]
            clear hwc
            cases kb
            · have HS2 := Lib.hid (show rAx i m ks (a.take (k + 1)) = rAx i m ks (a.take k) ++ [] from HST.out)
              clear HST
              go_wp2_with fail
              go_roundw
              case rel =>
                refine ⟨k + 1, .slice ao cur.length cp, hlt2, by go_num, Lib.hid (by rw [HS2.out, HCUR.out, List.append_nil]; exact HA2.out.later HBZ.out), Lib.hid (HX2.out.keep (HBZ.out.block _ (by have := HGO.out; have := HKP.out.2; omega))), Lib.hid ⟨fun b hb hne => (HBZ.out.block b (by have := HKP.out.2; omega)).trans (HKP.out.1 b hb hne), by have := HKP.out.2; have := HBZ.out.size; omega⟩, hbel2.trans (HBZ.out.mono (by have := HKP.out.2; have := HGO.out; omega))⟩
              case measure => simp [intOf]; omega
            · have HS2 := Lib.hid (show rAx i m ks (a.take (k + 1)) = rAx i m ks (a.take k) ++ [vv] from HST.out)
              clear HST
              go_wp2_with fail
              go_region_law (first | (refine Acc.stepAt (E := encV) (e := 48) Tryd.underlying33 hj hy0 hy1 hy2 rfl (by decide) (by rfl) _ _ (by rfl) 0 wo.heap.size (.slice ao cur.length cp) cur (by rfl) (((HA2.out.later HBZ.out).later HB2.out).later (below1 _ _)) ⟨w2.heap.size, 0, none⟩ 1 zeroV (.slice none 0 0) (by rfl) rfl (fun j u hu => new_cells w2 (V.cs (zeroV, .slice none 0 0)) _ j u hu) RepS.nil (by omega) (by have := HKP.out.2; have := HBZ.out.size; have := HB2.out.size; simp; omega) ?_; intro v3 w3 hA3 hg3 hat3; obtain ⟨g3, cap3, hvf3, hgb, hgl, hnc, hcells⟩ := hA3.last; subst hvf3; have hblk := hg3.block (w.heap.size + 1 + 1) (by have := HSZ.out; have := HB2.out.size; simp; omega) (fun e => by have := (HA2.out.lt _ e.symm).1; have := HGO.out; omega); have hgw3 := (World.cell?_of_block hblk).trans (hg2a _); have hzw3 := (World.frozen?_of_block hblk).trans (hz2a _); have HNE3 := Lib.hid (ne_of_hat (wz := wz.heap.size) (s2 := w2.heap.size) hat3 (fun q hq => by have := (HA2.out.lt q hq).2; have := HZN.out; omega) (by simp)); obtain ⟨⟨y0, q0⟩, p0⟩ := hcells 0 (by decide); obtain ⟨⟨y1, q1⟩, p1⟩ := hcells 1 (by decide); obtain ⟨⟨y2, q2⟩, p2⟩ := hcells 2 (by decide); obtain ⟨⟨y3, q3⟩, p3⟩ := hcells 3 (by decide); rw [Nat.add_zero] at q0 p0; have hne : g3 ≠ w.heap.size + 1 + 1 := (by have := HGO.out; omega); have hne' : w.heap.size + 1 + 1 ≠ g3 := hne.symm; have HG3 := Lib.hid (And.intro hA3 hg3); have HGB := Lib.hid (And.intro hgb hgl); have HS3 := Lib.hid (show w2.heap.size ≤ w3.heap.size from (by have h := HG3.out.2.size; rw [World.size_alloc] at h; omega)); have HQ3 := Lib.hid (HRS.out.keep (T := SB 0 wo.heap.size w3.heap.size (some g3)) (w' := w3) (fun b hb => ⟨.inr (by have := HZN.out; have := hb.1; simp at this; omega), by have := HS3.out; have := hb.2; omega, fun e => by cases e; exact HNE3.out _ (by have := hb.1; simp at this; omega) hb.2 rfl⟩) (fun b hb => (HG3.out.2.block b (by have := hb.2; simp; omega) (fun e => by have := (HA2.out.lt _ e.symm).2; have := HZN.out; have := hb.1; simp at this; omega)).trans ((below1 w2 _).block b hb.2))); have HW3 := Lib.hid (fun (b : Nat) (hb : b < wr.heap.size) (hne : (Value.slice ao cur.length cp).ownBlock ≠ some b) => (HG3.out.2.block b (by have := HB2.out.size; have := HZN.out; simp; omega) (Ne.symm hne)).trans (((below1 w2 _).block b (by have := HB2.out.size; have := HZN.out; omega)).trans ((HB2.out.block b (by have := HZN.out; omega)).trans (HBZ.out.block b hb)))); have HL3 := Lib.hid (show Below (w.heap.size + 2) w0 w3 from (((hbel2.trans (HBZ.out.mono (by have := HKP.out.2; have := HGO.out; omega))).trans (HB2.out.mono (by have := HZN.out; have := HGO.out; omega))).alloc (by have := HB2.out.size; have := HZN.out; have := HGO.out; omega) (.cells #[.int .i64 0, .int .i64 0, .string ⟨#[]⟩, .slice none 0 0] 48)).grown HG3.out.2 (by have := HB2.out.size; have := HZN.out; have := HGO.out; simp; omega) (fun q hq => by have := (HA2.out.lt q hq).1; have := HGO.out; omega)); have HXX := Lib.hid (HX2.out.keep (HW3.out (w.heap.size + 1 + 1) (by have := HGO.out; have := HKP.out.2; omega) (fun e => by have := (HA2.out.lt _ e).1; have := HGO.out; omega))); have R1 := Lib.hid (rk_one (vv := vv) HG3.out.1 HQ3.out HGO.out HGB.out.1 HXX.out hlt (fun b hb hne => (HW3.out b (by have := HKP.out.2; omega) (fun e => by have := (HA2.out.lt _ e).1; omega)).trans (HKP.out.1 b hb hne)) (by have := HS3.out; have := HB2.out.size; have := HZN.out; omega) (by omega) HL3.out); have R2 := Lib.hid (rk_two (vv := vv) HG3.out.1 HQ3.out HGO.out HGB.out.1 HXX.out hlt (fun b hb hne => (HW3.out b (by have := HKP.out.2; omega) (fun e => by have := (HA2.out.lt _ e).1; omega)).trans (HKP.out.1 b hb hne)) (by have := HS3.out; have := HB2.out.size; have := HZN.out; omega) (by omega) HL3.out)) | (refine Acc.stepAt (E := encV) (e := 48) Tryd.underlying33 hj hy0 hy1 hy2 rfl (by decide) (by rfl) _ _ (by rfl) 0 wo.heap.size (.slice ao cur.length cp) cur (by rfl) ((HA2.out.later HBZ.out).later HB2.out) ⟨wz.heap.size, 0, none⟩ 1 zeroV (.slice none 0 0) (by rfl) rfl (fun j u hu => HZR.out j u hu) RepS.nil (by omega) (by have := HKP.out.2; have := HBZ.out.size; have := HB2.out.size; simp; omega) ?_; intro v3 w3 hA3 hg3 hat3; obtain ⟨g3, cap3, hvf3, hgb, hgl, hnc, hcells⟩ := hA3.last; subst hvf3; have hblk := hg3.block (w.heap.size + 1 + 1) (by have := HSZ.out; have := HB2.out.size; simp; omega) (fun e => by have := (HA2.out.lt _ e.symm).1; have := HGO.out; omega); have hgw3 := (World.cell?_of_block hblk).trans hg2; have hzw3 := (World.frozen?_of_block hblk).trans hz2; have HNE3 := Lib.hid (ne_of_hat (wz := wz.heap.size) (s2 := w2.heap.size) hat3 (fun q hq => by have := (HA2.out.lt q hq).2; have := HZN.out; omega) (by simp)); obtain ⟨⟨y0, q0⟩, p0⟩ := hcells 0 (by decide); obtain ⟨⟨y1, q1⟩, p1⟩ := hcells 1 (by decide); obtain ⟨⟨y2, q2⟩, p2⟩ := hcells 2 (by decide); obtain ⟨⟨y3, q3⟩, p3⟩ := hcells 3 (by decide); rw [Nat.add_zero] at q0 p0; have hne : g3 ≠ w.heap.size + 1 + 1 := (by have := HGO.out; omega); have hne' : w.heap.size + 1 + 1 ≠ g3 := hne.symm; have HG3 := Lib.hid (And.intro hA3 hg3); have HGB := Lib.hid (And.intro hgb hgl); have HS3 := Lib.hid (show w2.heap.size ≤ w3.heap.size from HG3.out.2.size); have HQ3 := Lib.hid (HRS.out.keep (T := SB 0 wo.heap.size w3.heap.size (some g3)) (w' := w3) (fun b hb => ⟨.inr (by have := HZN.out; have := hb.1; simp at this; omega), by have := HS3.out; have := hb.2; omega, fun e => by cases e; exact HNE3.out _ (by have := hb.1; simp at this; omega) hb.2 rfl⟩) (fun b hb => (HG3.out.2.block b (by have := hb.2; simp; omega) (fun e => by have := (HA2.out.lt _ e.symm).2; have := HZN.out; have := hb.1; simp at this; omega)))); have HW3 := Lib.hid (fun (b : Nat) (hb : b < wr.heap.size) (hne : (Value.slice ao cur.length cp).ownBlock ≠ some b) => (HG3.out.2.block b (by have := HB2.out.size; have := HZN.out; simp; omega) (Ne.symm hne)).trans ((HB2.out.block b (by have := HZN.out; omega)).trans (HBZ.out.block b hb))); have HL3 := Lib.hid (show Below (w.heap.size + 2) w0 w3 from ((hbel2.trans (HBZ.out.mono (by have := HKP.out.2; have := HGO.out; omega))).trans (HB2.out.mono (by have := HZN.out; have := HGO.out; omega))).grown HG3.out.2 (by have := HB2.out.size; have := HZN.out; have := HGO.out; omega) (fun q hq => by have := (HA2.out.lt q hq).1; have := HGO.out; omega)); have HXX := Lib.hid (HX2.out.keep (HW3.out (w.heap.size + 1 + 1) (by have := HGO.out; have := HKP.out.2; omega) (fun e => by have := (HA2.out.lt _ e).1; have := HGO.out; omega))); have R1 := Lib.hid (rk_one (vv := vv) HG3.out.1 HQ3.out HGO.out HGB.out.1 HXX.out hlt (fun b hb hne => (HW3.out b (by have := HKP.out.2; omega) (fun e => by have := (HA2.out.lt _ e).1; omega)).trans (HKP.out.1 b hb hne)) (by have := HS3.out; have := HB2.out.size; have := HZN.out; omega) (by omega) HL3.out); have R2 := Lib.hid (rk_two (vv := vv) HG3.out.1 HQ3.out HGO.out HGB.out.1 HXX.out hlt (fun b hb hne => (HW3.out b (by have := HKP.out.2; omega) (fun e => by have := (HA2.out.lt _ e).1; omega)).trans (HKP.out.1 b hb hne)) (by have := HS3.out; have := HB2.out.size; have := HZN.out; omega) (by omega) HL3.out)) | (go_simp; go_at_call 33; refine (HCL.out wz.drew (below_drewN wz wz.heap.size 1)).mono ?_; rintro e w2 ⟨⟨sl2, rfl, hrs⟩, hb2⟩; have hb2' : Below wz.heap.size wz w2 := (below_drewN wz wz.heap.size 1).trans hb2; obtain ⟨o2, c2, hvf2, _⟩ := hrs.form; subst hvf2; have HRS := Lib.hid hrs; have hg2 := (hb2'.cell (p := ⟨w.heap.size + 1 + 1, i, none⟩) (by have := HSZ.out; simp; omega)).trans hgz; have hg2a : ∀ ob, (w2.alloc ob).cell? ⟨w.heap.size + 1 + 1, i, none⟩ = some (.slice ao cur.length cp) := (fun ob => ((below1 w2 ob).cell (p := ⟨w.heap.size + 1 + 1, i, none⟩) (by have := HSZ.out; have := hb2'.size; simp; omega)).trans hg2); have hz2 := (hb2'.frozen (p := ⟨w.heap.size + 1 + 1, i, none⟩) (by have := HSZ.out; simp; omega)).trans hgf; have hz2a : ∀ ob, (w2.alloc ob).frozen? ⟨w.heap.size + 1 + 1, i, none⟩ = false := (fun ob => ((below1 w2 ob).frozen (p := ⟨w.heap.size + 1 + 1, i, none⟩) (by have := HSZ.out; have := hb2'.size; simp; omega)).trans hz2); have HB2 := Lib.hid hb2'; clear hrs hb2 hb2') | (go_simp; go_at_call 33; refine (HCL.out (wz.alloc (.cells #[.int .i64 0, .int .i64 0, .string ⟨#[]⟩, .slice none 0 0] 48)).drew ((below1 wz (.cells #[.int .i64 0, .int .i64 0, .string ⟨#[]⟩, .slice none 0 0] 48)).trans (below_drewN (wz.alloc (.cells #[.int .i64 0, .int .i64 0, .string ⟨#[]⟩, .slice none 0 0] 48)) wz.heap.size 1))).mono ?_; rintro e w2 ⟨⟨sl2, rfl, hrs⟩, hb2⟩; have hb2' : Below wz.heap.size wz w2 := ((below1 wz (.cells #[.int .i64 0, .int .i64 0, .string ⟨#[]⟩, .slice none 0 0] 48)).trans (below_drewN (wz.alloc (.cells #[.int .i64 0, .int .i64 0, .string ⟨#[]⟩, .slice none 0 0] 48)) wz.heap.size 1)).trans (hb2.mono (by show wz.heap.size ≤ (wz.alloc (.cells #[.int .i64 0, .int .i64 0, .string ⟨#[]⟩, .slice none 0 0] 48)).heap.size; simp)); have HZR := Lib.hid (fun (j : Nat) (u : Value) (hu : (V.cs (zeroV, .slice none 0 0))[j]? = some u) => (hb2.cell (p := (⟨wz.heap.size, 0, none⟩ : Addr).add j) (by have hq : wz.heap.size < (wz.alloc (.cells #[.int .i64 0, .int .i64 0, .string ⟨#[]⟩, .slice none 0 0] 48)).heap.size := (by simp); rw [Addr.add_lit]; exact hq)).trans (new_cells wz (V.cs (zeroV, .slice none 0 0)) _ j u hu)); obtain ⟨o2, c2, hvf2, _⟩ := hrs.form; subst hvf2; have HRS := Lib.hid hrs; have hg2 := (hb2'.cell (p := ⟨w.heap.size + 1 + 1, i, none⟩) (by have := HSZ.out; simp; omega)).trans hgz; have hg2a : ∀ ob, (w2.alloc ob).cell? ⟨w.heap.size + 1 + 1, i, none⟩ = some (.slice ao cur.length cp) := (fun ob => ((below1 w2 ob).cell (p := ⟨w.heap.size + 1 + 1, i, none⟩) (by have := HSZ.out; have := hb2'.size; simp; omega)).trans hg2); have hz2 := (hb2'.frozen (p := ⟨w.heap.size + 1 + 1, i, none⟩) (by have := HSZ.out; simp; omega)).trans hgf; have hz2a : ∀ ob, (w2.alloc ob).frozen? ⟨w.heap.size + 1 + 1, i, none⟩ = false := (fun ob => ((below1 w2 ob).frozen (p := ⟨w.heap.size + 1 + 1, i, none⟩) (by have := HSZ.out; have := hb2'.size; simp; omega)).trans hz2); have HB2 := Lib.hid hb2'; clear hrs hb2 hb2'))
              all_goals
                have HK1 := Lib.hid (show k + 1 ≤ a.length from hlt2)
                clear q0 q1 q2 q3 p0 p1 p2 p3 hgw3 hzw3 hg2 hg2a hz2 hz2a hgz hgza hgf x0 x1 x2 x3 xa0 xa1 xa2 xa3
                go_wp2_with fail
                go_roundw
                case rel =>
                  first
                    | with_reducible exact ⟨k + 1, _, HK1.out, by go_num, Lib.hid (by rw [HS2.out, HCUR.out]; exact R1.out.acc), Lib.hid R1.out.row, Lib.hid R1.out.kp, R1.out.bel⟩
                    | with_reducible exact ⟨k + 1, _, HK1.out, by go_num, Lib.hid (by rw [HS2.out, HCUR.out]; exact R2.out.acc), Lib.hid R2.out.row, Lib.hid R2.out.kp, R2.out.bel⟩
                case measure => simp [intOf]; omega
        · have hka : k = a.length := by omega
          have HCA := Lib.hid (show rAx i m ks a = cur by rw [← HCUR.out, hka, List.take_length])
          have hln := rAx_len i m ks a
          go_wp2_with fail
          go_roundw
          case rel =>
            refine ⟨i + 1, upd f i (.slice ao cur.length cp), hlt, by go_num, Lib.hid ⟨HX2.out, fun j h1 h2 => by rw [upd_other _ (by omega)]; exact HA.out.2 j (by omega) h2⟩, Lib.hid (fun j a' h1 h2 => ?_), hbel2, Lib.hid (by have := HGO.out; have := HKP.out.2; omega)⟩
            by_cases e : j = i
            · subst e
              rw [HIA.out] at h2
              cases h2
              rw [upd_same, HCA.out]
              exact (HA2.out.values (by omega)).keep (fun b hb => ⟨by have := HGO.out; have := hb.1; omega, hb.2⟩) (fun _ _ => rfl)
            · rw [upd_other _ e]
              exact (HR.out j a' (by omega) h2).keep (fun b hb => ⟨hb.1, by have := hb.2; have := HKP.out.2; omega⟩) (fun b hb => HKP.out.1 b hb.2 (by have := hb.1; omega))
          case measure => simp [intOf]; omega
    · obtain rfl : i = l.length := by omega
      have hr1 := (hbel.cell (p := ⟨w.heap.size + 1, 0, none⟩) (by simp)).trans (show w0.cell? ⟨w.heap.size + 1, 0, none⟩ = some (.slice none 0 0) from by rw [HW0.out]; exact (HR0.out _ (Below.refl _ _)).2.1)
      have hz1' := (hbel.frozen (p := ⟨w.heap.size + 1, 0, none⟩) (by simp)).trans (show w0.frozen? ⟨w.heap.size + 1, 0, none⟩ = false from by rw [HW0.out]; exact (HR0.out _ (Below.refl _ _)).2.2)
      go_wp2_with fail
      refine bodyPost_ret (v := .tuple #[.agg #[.slice (some ⟨w.heap.size + 1 + 1, 0, none⟩) l.length l.length], .int .i64 0]) (by simp [results, Tryd.results18, go_sem, *]) rfl ?_
      refine ⟨⟨.slice (some ⟨w.heap.size + 1 + 1, 0, none⟩) l.length l.length, by rw [HZ.out.1], ?_⟩, HBW.out.setCell (p := ⟨w.heap.size + 1, 0, none⟩) (Nat.le_succ _) _⟩
      rw [HZ.out.2]
      refine AxR.axes (f := f) (HA.out.1.keep (heap_setCell_other _ _ _ _ (by show w.heap.size + 1 + 1 ≠ w.heap.size + 1; omega))) (by rw [World.size_setCell]; exact HGO.out) hlm (fun j a' h1 h2 => (HR.out j a' h1 h2).keep (fun b hb => ⟨hb.1, by rw [World.size_setCell]; exact hb.2⟩) (fun b hb => heap_setCell_other _ _ _ _ (by have := hb.1; show b ≠ w.heap.size + 1; omega)))

end Go.Proofs.YthnlkijkgnmbhaaDoor
