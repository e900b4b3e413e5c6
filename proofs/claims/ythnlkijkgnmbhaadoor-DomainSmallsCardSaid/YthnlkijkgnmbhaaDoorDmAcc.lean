/-
  Lists that a call builds by append: their elements are values, or slices of values. Nothing is assumed.
-/
import Derived.Test.YthnlkijkgnmbhaaDoorDmCopy
import Derived.Deep.AppendLies
import Derived.OwnWalkIn
namespace Go.Proofs.YthnlkijkgnmbhaaDoor
open Go.RowKit

theorem infoList : (Tryd.prog.info? 33).map (fun i => (i.zero, i.size, i.bytes)) = some (some (.slice none 0 0), 1, 24) := by kernel_rfl

/-- The blocks below B0 and those from base on, below hi, but one. -/
def SB (B0 base hi : Nat) (row : Option Nat) (b : Nat) : Prop := (b < B0 ∨ base ≤ b) ∧ b < hi ∧ row ≠ some b

/-- What an element's cells are. -/
structure Enc (α : Type) where
  enc : α × Value → List Value
  n : Nat
  lst : α → List V
  pos : 0 < n
  len : ∀ p, (enc p).length = n
  one : ∀ p, p.2.oneCell' = true → ∀ u ∈ enc p, u.oneCell' = true
/-- Values. -/
def encV : Enc V := ⟨V.cs, 4, V.l, by decide, fun _ => rfl, fun p h u hu => by
  simp only [V.cs, List.mem_cons, List.not_mem_nil, or_false] at hu
  rcases hu with rfl | rfl | rfl | rfl
  · rfl
  · rfl
  · rfl
  · exact h⟩
/-- Slices of values. -/
def encA : Enc (List V) := ⟨fun p => [p.2], 1, id, by decide, fun _ => rfl, fun p h u hu => by simp at hu; rw [hu]; exact h⟩

/-- A list that the call builds: the row, and what lies behind the elements, beside it. -/
def Acc {α : Type} (E : Enc α) (e : TypeId) (w : World) (B0 base : Nat) (v : Value) (l : List α) : Prop :=
  ∃ ps : List (α × Value), ps.map (·.1) = l ∧ w.ownsRow base e E.n v l.length (ps.flatMap E.enc) ∧ ∀ p, p ∈ ps → RepS w (SB B0 base w.heap.size v.ownBlock) p.2 (E.lst p.1)
theorem Acc.nil {α : Type} (E : Enc α) (e : TypeId) (w : World) (B0 base : Nat) : Acc E e w B0 base (.slice none 0 0) [] := ⟨[], rfl, ⟨by simp, .inl ⟨rfl, rfl⟩⟩, fun p h => by cases h⟩
theorem ownsF_form {w : World} {base e size n : Nat} {v : Value} {xs : List Value} (h : w.ownsRow base e size v n xs) : ∃ ao cap, v = .slice ao n cap := by
  rcases h.2 with ⟨h1, h2⟩ | ⟨g, cap, cur, h1, _⟩
  · exact ⟨Option.none, 0, by rw [h1, h2]⟩
  · exact ⟨_, _, h1⟩
theorem Acc.form {α : Type} {E : Enc α} {e : TypeId} {w : World} {B0 base : Nat} {v : Value} {l : List α} (h : Acc E e w B0 base v l) : ∃ ao cap, v = .slice ao l.length cap := by
  obtain ⟨ps, _, ho, _⟩ := h
  exact ownsF_form ho
theorem Acc.lt {α : Type} {E : Enc α} {e : TypeId} {w : World} {B0 base : Nat} {v : Value} {l : List α} (h : Acc E e w B0 base v l) : ∀ q, v.ownBlock = some q → base ≤ q ∧ q < w.heap.size := by
  obtain ⟨ps, _, ho, _⟩ := h
  exact World.ownsRow.lt ho
theorem owns_keep {w w' : World} {base e size n : Nat} {v : Value} {xs : List Value} (h : w.ownsRow base e size v n xs) (hb : ∀ b, base ≤ b → b < w.heap.size → w'.heap[b]? = w.heap[b]?) : w'.ownsRow base e size v n xs := by
  have hlt := World.ownsRow.lt h
  obtain ⟨h1, h2⟩ := h
  refine ⟨h1, ?_⟩
  rcases h2 with h2 | ⟨g, cap, cur, rfl, hg, hh, r⟩
  · exact .inl h2
  · exact .inr ⟨g, cap, cur, rfl, hg, (hb g hg (hlt g rfl).2).trans hh, r⟩
/-- What happens between B0 and base does not matter. -/
theorem Acc.keep {α : Type} {E : Enc α} {e : TypeId} {w w' : World} {B0 base : Nat} {v : Value} {l : List α} (h : Acc E e w B0 base v l) (hs : w.heap.size ≤ w'.heap.size) (hb : ∀ b, b < B0 ∨ base ≤ b → b < w.heap.size → w'.heap[b]? = w.heap[b]?) : Acc E e w' B0 base v l := by
  obtain ⟨ps, hp, ho, hr⟩ := h
  exact ⟨ps, hp, owns_keep ho (fun b h1 h2 => hb b (.inr h1) h2), fun p hpm => (hr p hpm).keep (fun b ⟨h1, h2, h3⟩ => ⟨h1, by omega, h3⟩) (fun b ⟨h1, h2, _⟩ => hb b h1 h2)⟩
theorem Acc.later {α : Type} {E : Enc α} {e : TypeId} {w w' : World} {B0 base : Nat} {v : Value} {l : List α} (h : Acc E e w B0 base v l) (hb : Below w.heap.size w w') : Acc E e w' B0 base v l := h.keep hb.size (fun b _ h => hb.block b h)
theorem Acc.setCell {α : Type} {E : Enc α} {e : TypeId} {w : World} {B0 base g o : Nat} {u v : Value} {l : List α} (h : Acc E e w B0 base v l) (h0 : B0 ≤ g) (h1 : g < base) : Acc E e (w.setCell ⟨g, o, none⟩ u) B0 base v l :=
  h.keep (by simp) (fun b hb _ => heap_setCell_other _ _ _ _ (by show b ≠ g; omega))

/-- One element more. -/
theorem Acc.run {α : Type} {E : Enc α} {e t : TypeId} {i0 : TypeInfo} {z : Value} {bytes : Nat} (ty : TypeId) (ht : Tryd.prog.underlying t = some (.slice e)) (hi : Tryd.prog.info? e = some i0) (hz0 : i0.zero = some z) (hz1 : i0.size = E.n) (hz2 : i0.bytes = bytes) (hzs : z.cells.size = E.n) (hby : bytes ≤ 100)
    {w : World} (B0 base : Nat) (v : Value) (l : List α) (h : Acc E e w B0 base v l) (ad : Addr) (c : Nat) (a : α) (s : Value) (hs1 : s.oneCell' = true) (hcell : ∀ j u, (E.enc (a, s))[j]? = some u → w.cell? (ad.add j) = some u)
    (hs : RepS w (SB B0 base w.heap.size v.ownBlock) s (E.lst a)) (hlen : l.length ≤ 5000) (hbase : base ≤ w.heap.size) :
    ∃ v' w', (Builtin.append_ #[t, t] ty #[v, .slice (some ad) 1 c]).run Tryd.prog w = .ok v' w' ∧ Acc E e w' B0 base v' (l ++ [a]) ∧ w.grownBy w' v.ownBlock := by
  obtain ⟨ps, hp, hown, hr⟩ := h
  have hl1 : (E.enc (a, s)).length = 1 * E.n := by rw [E.len, Nat.one_mul]
  obtain ⟨v', w', hrun, h1, hg, _, hat⟩ := run_append_own_at (P := Tryd.prog) w base t ty e i0 z E.n bytes ht hi hz0 hz1 hz2 hzs E.pos v l.length _ hown ad 1 c (E.enc (a, s)) hl1 hcell (E.one (a, s) hs1) (by unfold maxLen; omega) (by
    have := Nat.mul_le_mul (show l.length + 1 ≤ 5001 by omega) hby; omega) hbase
  have hsz := hg.size
  have hoff : ∀ b, SB B0 base w.heap.size v.ownBlock b → SB B0 base w'.heap.size v'.ownBlock b := fun b ⟨h2, h3, h4⟩ => ⟨h2, by omega, by
    rcases hat with h5 | h5
    · rw [h5]; exact h4
    · rw [h5]; intro e; cases e; omega⟩
  have hbl : ∀ b, SB B0 base w.heap.size v.ownBlock b → w'.heap[b]? = w.heap[b]? := fun b ⟨_, h3, h4⟩ => hg.block b h3 (Ne.symm h4)
  refine ⟨v', w', hrun, ⟨ps ++ [(a, s)], by simp [hp], ?_, fun p hpm => ?_⟩, hg⟩
  · rw [List.flatMap_append, List.flatMap_singleton, List.length_append]
    exact h1
  · rcases List.mem_append.1 hpm with hpm | hpm
    · exact (hr p hpm).keep hoff hbl
    · rw [List.mem_singleton] at hpm
      subst hpm
      exact hs.keep hoff hbl

theorem Acc.append {α : Type} {E : Enc α} {e t : TypeId} {i0 : TypeInfo} {z : Value} {bytes : Nat} (ht : Tryd.prog.underlying t = some (.slice e)) (hi : Tryd.prog.info? e = some i0) (hz0 : i0.zero = some z) (hz1 : i0.size = E.n) (hz2 : i0.bytes = bytes) (hzs : z.cells.size = E.n) (hby : bytes ≤ 100)
    {w : World} {ops : Array Oper} {rest : List Oper} {o : Oper} {ac : Act} {Q : Exit → Act → World → Prop} (hgd : o.guard = none) (sv x : Operand)
    (ho : o.op = .call { callee := .builtin .append, args := #[sv, x], argTypes := #[t, t] }) (B0 base : Nat) (v : Value) (l : List α) (hsv : ac.eval sv = v) (h : Acc E e w B0 base v l) (ad : Addr) (c : Nat) (a : α) (s : Value) (hx : ac.eval x = .slice (some ad) 1 c) (hs1 : s.oneCell' = true)
    (hcell : ∀ j u, (E.enc (a, s))[j]? = some u → w.cell? (ad.add j) = some u) (hs : RepS w (SB B0 base w.heap.size v.ownBlock) s (E.lst a)) (hlen : l.length ≤ 5000) (hbase : base ≤ w.heap.size)
    (hK : ∀ v' w', Acc E e w' B0 base v' (l ++ [a]) → w.grownBy w' v.ownBlock → wpList Tryd.prog ops Q rest (ac.put o.dst v') w') : wpList Tryd.prog ops Q (o :: rest) ac w := by
  refine wpList_plain hgd fun K hK' => ?_
  obtain ⟨v', w', hr, h1, h2⟩ := Acc.run o.type ht hi hz0 hz1 hz2 hzs hby B0 base v l h ad c a s hs1 hcell hs hlen hbase
  unfold Oper.wp execOp
  simp only [ho, resolve, invoke, builtin, Sem.run_bind, Sem.run_pure, Result.andThen_ok, List.map_toArray, List.map_cons, List.map_nil, hsv, hx, hr]
  exact hK' _ _ (hK v' w' h1 h2)
theorem Acc.step {α : Type} {E : Enc α} {e t : TypeId} {i0 : TypeInfo} {z : Value} {bytes : Nat} (ht : Tryd.prog.underlying t = some (.slice e)) (hi : Tryd.prog.info? e = some i0) (hz0 : i0.zero = some z) (hz1 : i0.size = E.n) (hz2 : i0.bytes = bytes) (hzs : z.cells.size = E.n) (hby : bytes ≤ 100)
    {w : World} {ops : Array Oper} {o : Oper} {ac : Act} {K : Act → World → Prop} {Q : Exit → Act → World → Prop} {X : Prop} (hgd : o.guard = none) (sv x : Operand)
    (ho : o.op = .call { callee := .builtin .append, args := #[sv, x], argTypes := #[t, t] }) (B0 base : Nat) (v : Value) (l : List α) (hsv : ac.eval sv = v) (h : Acc E e w B0 base v l) (ad : Addr) (c : Nat) (a : α) (s : Value) (hx : ac.eval x = .slice (some ad) 1 c) (hs1 : s.oneCell' = true)
    (hcell : ∀ j u, (E.enc (a, s))[j]? = some u → w.cell? (ad.add j) = some u) (hs : RepS w (SB B0 base w.heap.size v.ownBlock) s (E.lst a)) (hlen : l.length ≤ 5000) (hbase : base ≤ w.heap.size)
    (hK : ∀ v' w', Acc E e w' B0 base v' (l ++ [a]) → w.grownBy w' v.ownBlock → K (ac.put o.dst v') w') : if Region.wanted o (yielded ops ac.tmps) = true then Oper.wp Tryd.prog o ac w K Q else X := by
  have hw : Region.wanted o (yielded ops ac.tmps) = true := by simp [Region.wanted, hgd]
  rw [if_pos hw]
  obtain ⟨v', w', hr, h1, h2⟩ := Acc.run o.type ht hi hz0 hz1 hz2 hzs hby B0 base v l h ad c a s hs1 hcell hs hlen hbase
  unfold Oper.wp execOp
  simp only [ho, resolve, invoke, builtin, Sem.run_bind, Sem.run_pure, Result.andThen_ok, List.map_toArray, List.map_cons, List.map_nil, hsv, hx, hr]
  exact hK v' w' h1 h2
theorem Acc.appendIn {α : Type} {E : Enc α} {e t : TypeId} {i0 : TypeInfo} {z : Value} {bytes : Nat} (ht : Tryd.prog.underlying t = some (.slice e)) (hi : Tryd.prog.info? e = some i0) (hz0 : i0.zero = some z) (hz1 : i0.size = E.n) (hz2 : i0.bytes = bytes) (hzs : z.cells.size = E.n) (hby : bytes ≤ 100)
    {F : Fence} {m : Nat} {w : World} {ops : Array Oper} {rest : List Oper} {o : Oper} {ac : Act} {Q : Exit → Act → World → Prop} (hgd : o.guard = none) (sv x : Operand)
    (ho : o.op = .call { callee := .builtin .append, args := #[sv, x], argTypes := #[t, t] }) (B0 base : Nat) (v : Value) (l : List α) (hsv : ac.eval sv = v) (h : Acc E e w B0 base v l) (ad : Addr) (c : Nat) (a : α) (s : Value) (hx : ac.eval x = .slice (some ad) 1 c) (hs1 : s.oneCell' = true)
    (hcell : ∀ j u, (E.enc (a, s))[j]? = some u → w.cell? (ad.add j) = some u) (hs : RepS w (SB B0 base w.heap.size v.ownBlock) s (E.lst a)) (hlen : l.length ≤ 5000) (hbase : base ≤ w.heap.size)
    (hK : ∀ v' w', Acc E e w' B0 base v' (l ++ [a]) → w.grownBy w' v.ownBlock → wpListIn F m Tryd.prog ops Q rest (ac.put o.dst v') w') : wpListIn F m Tryd.prog ops Q (o :: rest) ac w := by
  refine wpListIn_plain hgd fun K hK' => ?_
  obtain ⟨v', w', hr, h1, h2⟩ := Acc.run o.type ht hi hz0 hz1 hz2 hzs hby B0 base v l h ad c a s hs1 hcell hs hlen hbase
  unfold Oper.wpIn
  refine ⟨?_, ?_⟩
  · simp [Oper.about, ho, resolve, Target.leads, Sem.run_pure]
  · rw [Oper.semAt_plain F _ _ (by rw [ho]; intro c hc'; cases hc')]
    simp [execOp, ho, resolve, invoke, builtin, hsv, hx, hr, Result.andThen]
    exact hK' _ _ (hK v' w' h1 h2)

/-- What has been built, as a list of values. -/
theorem Acc.values {w : World} {B0 base : Nat} {v : Value} {l : List V} {e : TypeId} (h : Acc encV e w B0 base v l) (hm : l.length ≤ 9223372036854775807) : RepS w (fun b => (b < B0 ∨ base ≤ b) ∧ b < w.heap.size) v l := by
  obtain ⟨ps, hp, ho, hr⟩ := h
  have hpl : ps.length = l.length := by rw [← hp]; simp
  rcases ho.2 with ⟨rfl, h0⟩ | ⟨g, cap, cur, rfl, hg, _, hnc, _⟩
  · obtain rfl := List.eq_nil_of_length_eq_zero h0
    exact RepS.nil
  · rw [← hpl] at ho
    obtain ⟨_, _, hrow⟩ := RowV.of_owns ho
    rw [hpl] at hrow
    refine RowV.repS hrow ⟨.inr hg, hrow.lt⟩ hnc hm (fun i u hu => ?_)
    rw [← hp, List.getElem?_map] at hu
    obtain ⟨p, hpi, rfl⟩ := Option.map_eq_some_iff.1 hu
    exact ⟨p.2, hpi, (hr p (List.mem_of_getElem? hpi)).keep (fun b ⟨h1, h2, _⟩ => ⟨h1, h2⟩) (fun _ _ => rfl)⟩
/-- .. as a list of axes. -/
theorem Acc.axes {w : World} {B0 base : Nat} {v : Value} {l : List (List V)} {e : TypeId} (h : Acc encA e w B0 base v l) (hm : l.length ≤ 9223372036854775807) : LAx w w.heap.size v l := by
  obtain ⟨ps, hp, ho, hr⟩ := h
  have hpl : ps.length = l.length := by rw [← hp]; simp
  have hfl : ps.flatMap encA.enc = ps.map (·.2) := by
    clear hp ho hr hpl
    induction ps with
    | nil => rfl
    | cons p ps ih => rw [List.flatMap_cons, List.map_cons, ih]; rfl
  rcases ho.2 with ⟨rfl, h0⟩ | ⟨g, cap, cur, rfl, hg, hh, hnc, _⟩
  · obtain rfl := List.eq_nil_of_length_eq_zero h0
    exact LAx.nil
  · have hlt : g < w.heap.size := (Array.getElem?_eq_some_iff.1 hh).1
    refine ⟨_, cap, rfl, hnc, hm, fun i a ha => ?_⟩
    have hil := (List.getElem?_eq_some_iff.1 ha).1
    rw [← hp, List.getElem?_map] at ha
    obtain ⟨p, hpi, rfl⟩ := Option.map_eq_some_iff.1 ha
    have hrp := hr p (List.mem_of_getElem? hpi)
    obtain ⟨oe, ce, he, _⟩ := hrp.form
    have hc := World.ownsRow.cellAt ho i (by show i < l.length * 1; omega)
    rw [hfl, List.getElem?_map, hpi] at hc
    refine ⟨g, 0, oe, ce, rfl, hlt, ?_, ?_⟩
    · rw [Nat.zero_add, hc]
      show some p.2 = _
      rw [he]
      rfl
    · rw [← show p.2 = .slice oe p.1.length ce from he]
      exact hrp.rep (fun b hb => hb.2.1)

end Go.Proofs.YthnlkijkgnmbhaaDoor
