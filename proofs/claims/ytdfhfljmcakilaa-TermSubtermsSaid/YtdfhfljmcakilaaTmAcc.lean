/-
  A list of terms that a call builds by append: the row is the call's own, the arguments lie below it. Nothing is assumed.
-/
import Derived.Test.YtdfhfljmcakilaaTmRClone
namespace Go.Proofs.Ytdfhfljmcakilaa
open Go.RowKit

/-- A list of terms in a row that is the call's own; what the terms point to lies below C. -/
def AccL (w : World) (base C : Nat) (v : Value) (l : List T) : Prop :=
  ∃ xs : List (Int × Value), xs.length = l.length ∧ w.ownsRow base 24 2 v l.length (flatT xs) ∧ ∀ (j : Nat) u, l[j]? = some u → ∃ sl, xs[j]? = some (u.r, sl) ∧ Rep w C sl u.l
theorem AccL.nil (w : World) (base C : Nat) : AccL w base C (.slice none 0 0) [] := ⟨[], rfl, ⟨rfl, .inl ⟨rfl, rfl⟩⟩, fun j u h => by simp at h⟩
theorem AccL.form {w : World} {base C : Nat} {v : Value} {l : List T} (h : AccL w base C v l) : ∃ oa cap, v = .slice oa l.length cap := by
  obtain ⟨xs, hl, ho, _⟩ := h
  rcases ho.2 with ⟨h0, hk⟩ | ⟨g, cap, cur, hv, _⟩
  · exact ⟨none, 0, by rw [h0, hk]⟩
  · exact ⟨_, cap, hv⟩
theorem AccL.lt {w : World} {base C : Nat} {v : Value} {l : List T} (h : AccL w base C v l) : ∀ q, v.ownBlock = some q → base ≤ q ∧ q < w.heap.size := by
  obtain ⟨xs, _, ho, _⟩ := h
  exact fun q hq => ho.lt q hq
theorem AccL.later {w w' : World} {base C : Nat} {v : Value} {l : List T} (h : AccL w base C v l) (hb : Below w.heap.size w w') (hC : C ≤ w.heap.size) : AccL w' base C v l := by
  obtain ⟨xs, hl, ho, hr⟩ := h
  exact ⟨xs, hl, owns_later ho hb, fun j u hu => by obtain ⟨sl, h1, h2⟩ := hr j u hu; exact ⟨sl, h1, h2.later (hb.mono hC)⟩⟩
theorem AccL.rep {w : World} {base C : Nat} {v : Value} {l : List T} (h : AccL w base C v l) (hC : C ≤ w.heap.size) (hl : l.length ≤ 1000) : Rep w w.heap.size v l := by
  obtain ⟨xs, hxl, ho, hr⟩ := h
  rcases ho.2 with ⟨h0, hk⟩ | ⟨g, cap, cur, hv, hg, hh, hcap, hmx, hcs, htk⟩
  · rw [h0, List.eq_nil_of_length_eq_zero hk]
    exact .nil
  · subst hv
    have hgl : g < w.heap.size := (Array.getElem?_eq_some_iff.1 hh).1
    refine .arr g 0 cap l (fun i => match xs[i]? with | some x => x.2 | none => .nilIface) hgl (by omega) (by omega) (fun i u hu => ?_) (fun i u hu => ?_)
    · have hil := (List.getElem?_eq_some_iff.1 hu).1
      obtain ⟨sl, h1, h2⟩ := hr i u hu
      obtain ⟨m0, m1⟩ := flatT_at xs i _ h1
      have n0 := ho.cellAt (i * 2) (by omega)
      have n1 := ho.cellAt (i * 2 + 1) (by omega)
      rw [m0] at n0
      rw [m1] at n1
      simp only [Nat.zero_add, h1]
      exact ⟨n0, n1⟩
    · obtain ⟨sl, h1, h2⟩ := hr i u hu
      simp only [h1]
      exact h2.mono hC

theorem flatT_append (xs ys : List (Int × Value)) : flatT (xs ++ ys) = flatT xs ++ flatT ys := by simp [flatT]
theorem flatT_get (xs : List (Int × Value)) (j : Nat) (u : Value) (h : (flatT xs)[j]? = some u) : ∃ i x, xs[i]? = some x ∧ ((j = i * 2 ∧ u = .int .i64 x.1) ∨ (j = i * 2 + 1 ∧ u = x.2)) := by
  have hj := (List.getElem?_eq_some_iff.1 h).1
  rw [flatT_len] at hj
  have hi : j / 2 < xs.length := by omega
  refine ⟨j / 2, xs[j / 2], List.getElem?_eq_getElem hi, ?_⟩
  obtain ⟨h0, h1⟩ := flatT_at xs (j / 2) _ (List.getElem?_eq_getElem hi)
  rcases Nat.mod_two_eq_zero_or_one j with hm | hm
  · have e : j / 2 * 2 = j := by omega
    rw [e, h] at h0
    exact .inl ⟨e.symm, Option.some.inj h0⟩
  · have e : j / 2 * 2 + 1 = j := by omega
    rw [e, h] at h1
    exact .inr ⟨e.symm, Option.some.inj h1⟩

/-- Where the terms of a list stand that is appended. -/
def Src (w : World) (C : Nat) (oa : Option Addr) (news : List T) : Prop := ∀ (j : Nat) u, news[j]? = some u → ∃ ad sl, oa = some ad ∧ w.cell? (ad.add (j * 2)) = some (.int .i64 u.r) ∧ w.cell? (ad.add (j * 2 + 1)) = some sl ∧ Rep w C sl u.l
theorem Src.later {w w' : World} {C : Nat} {ad : Addr} {news : List T} (h : Src w C (some ad) news) (hb : Below C w w') (ha : ad.block < C) : Src w' C (some ad) news := fun j u hu => by
  obtain ⟨a, sl, e, h1, h2, h3⟩ := h j u hu
  cases e
  have hq : ∀ i, (ad.add i).block = ad.block := fun i => by unfold Addr.add; split <;> rfl
  exact ⟨ad, sl, rfl, (hb.cell (by rw [hq]; exact ha)).trans h1, (hb.cell (by rw [hq]; exact ha)).trans h2, h3.later hb⟩
theorem Src.rows {w : World} {C : Nat} {ad : Addr} {news : List T} (h : Src w C (some ad) news) : ∃ ys : List (Int × Value), ys.length = news.length ∧ (∀ (j : Nat) u, news[j]? = some u → ∃ sl, ys[j]? = some (u.r, sl) ∧ Rep w C sl u.l) ∧
    (∀ (j : Nat) u, (flatT ys)[j]? = some u → w.cell? (ad.add j) = some u) ∧ ∀ u ∈ flatT ys, u.oneCell' = true := by
  have hc : ∀ j : Nat, ∃ x : Int × Value, ∀ u, news[j]? = some u → x.1 = u.r ∧ w.cell? (ad.add (j * 2)) = some (.int .i64 u.r) ∧ w.cell? (ad.add (j * 2 + 1)) = some x.2 ∧ Rep w C x.2 u.l := fun j => by
    cases hn : news[j]? with
    | none => exact ⟨(0, .nilIface), fun u hu => by cases hu⟩
    | some u =>
      obtain ⟨a, sl, e, h1, h2, h3⟩ := h j u hn
      cases e
      exact ⟨(u.r, sl), fun u' hu' => by cases hu'; exact ⟨rfl, h1, h2, h3⟩⟩
  obtain ⟨f, hf⟩ : ∃ f : Nat → Int × Value, ∀ j u, news[j]? = some u → (f j).1 = u.r ∧ w.cell? (ad.add (j * 2)) = some (.int .i64 u.r) ∧ w.cell? (ad.add (j * 2 + 1)) = some (f j).2 ∧ Rep w C (f j).2 u.l := ⟨fun j => (hc j).choose, fun j => (hc j).choose_spec⟩
  have hy : ∀ (j : Nat) x, ((List.range news.length).map f)[j]? = some x → ∃ u, news[j]? = some u ∧ x = (u.r, (f j).2) ∧ w.cell? (ad.add (j * 2)) = some (.int .i64 u.r) ∧ w.cell? (ad.add (j * 2 + 1)) = some (f j).2 ∧ Rep w C (f j).2 u.l := fun j x hx => by
    have hj : j < news.length := by have := (List.getElem?_eq_some_iff.1 hx).1; simpa using this
    rw [List.getElem?_map, List.getElem?_range hj] at hx
    simp at hx
    obtain ⟨h1, h2, h3, h4⟩ := hf j _ (List.getElem?_eq_getElem hj)
    exact ⟨_, List.getElem?_eq_getElem hj, by rw [← hx, ← h1], h2, h3, h4⟩
  have hg : ∀ (j : Nat) u, (flatT ((List.range news.length).map f))[j]? = some u → w.cell? (ad.add j) = some u ∧ u.oneCell' = true := fun j u hu => by
    obtain ⟨i, x, hx, hcase⟩ := flatT_get _ j u hu
    obtain ⟨t, ht, rfl, h1, h2, h3⟩ := hy i x hx
    rcases hcase with ⟨rfl, rfl⟩ | ⟨rfl, rfl⟩
    · exact ⟨h1, rfl⟩
    · obtain ⟨oa, cap, he, _⟩ := h3.form
      refine ⟨h2, ?_⟩
      show (f i).2.oneCell' = true
      rw [he]
      rfl
  refine ⟨(List.range news.length).map f, by simp, fun j u hu => ?_, fun j u hu => (hg j u hu).1, fun u hu => ?_⟩
  · have hj := (List.getElem?_eq_some_iff.1 hu).1
    obtain ⟨u', hu', he, _, _, h4⟩ := hy j (f j) (by rw [List.getElem?_map, List.getElem?_range hj]; rfl)
    rw [hu] at hu'
    cases hu'
    exact ⟨_, by rw [List.getElem?_map, List.getElem?_range hj, Option.map_some, he], h4⟩
  · obtain ⟨j, hj⟩ := List.getElem?_of_mem hu
    exact (hg j u hj).2

/-- 'append(s, x...)' at a list of terms that the call builds. -/
theorem AccL.appends {w : World} {ops : Array Oper} {rest : List Oper} {o : Oper} {a : Act} {Q : Exit → Act → World → Prop} (hgd : o.guard = none) (s x : Operand)
    (ho : o.op = .call { callee := .builtin .append, args := #[s, x], argTypes := #[22, 22] }) (base C : Nat) (v : Value) (l : List T) (hs : a.eval s = v) (h : AccL w base C v l)
    (oa : Option Addr) (m c : Nat) (news : List T) (hx : a.eval x = .slice oa m c) (hm : news.length = m) (hn : Src w C oa news)
    (hlen : l.length + m ≤ 1000) (hC : C ≤ base) (hbase : base ≤ w.heap.size) (hK : ∀ v' w', AccL w' base C v' (l ++ news) → w.grownBy w' v.ownBlock → wpList Try.prog ops Q rest (a.put o.dst v') w') : wpList Try.prog ops Q (o :: rest) a w := by
  obtain ⟨i0, hi, hz0, hz1, hz2⟩ := info_parts infoTerm
  subst hm
  by_cases hnil : news = []
  · subst hnil
    obtain ⟨xs, hl, hown, hrs⟩ := h
    refine wpList_plain hgd fun K hK' => ?_
    have hrun : (Builtin.append_ #[22, 22] o.type #[v, .slice oa 0 c]).run Try.prog w = .ok v w := by
      rcases hown.2 with ⟨rfl, h0⟩ | ⟨g, cap, cur, rfl, _, _, hnc, _⟩
      · cases oa <;> simp [Builtin.append_, run_underlying Try.underlying22, sizeOf, typeInfo, hi, Builtin.lenOf, Builtin.firstCells, loadCells, loadCellsFrom, Result.andThen]
      · cases oa <;> simp [Builtin.append_, run_underlying Try.underlying22, sizeOf, typeInfo, hi, Builtin.lenOf, Builtin.firstCells, hnc, storeCells, loadCells, loadCellsFrom, Result.andThen]
    simp only [List.length_nil] at hx
    unfold Oper.wp
    simp [execOp, ho, resolve, invoke, builtin, hs, hx, hrun, Result.andThen]
    exact hK' _ _ (hK v w (by rw [List.append_nil]; exact ⟨xs, hl, hown, hrs⟩) (World.grownBy.refl w _))
  · have hpos : 0 < news.length := List.length_pos_iff.2 hnil
    obtain ⟨ad, _, rfl, _⟩ := hn 0 _ (List.getElem?_eq_getElem hpos)
    obtain ⟨ys, hyl, hyr, hyc, hyo⟩ := hn.rows
    have hlt := h.lt
    obtain ⟨xs, hl, hown, hrs⟩ := h
    refine wpList_append_own w hgd s x 22 ho base 24 i0 _ 2 32 Try.underlying22 hi hz0 hz1 hz2 rfl (by decide) v l.length (flatT xs) hs hown ad news.length c (flatT ys) hx (by rw [flatT_len, hyl]) hyc hyo
      (by unfold maxLen; omega) (by omega) hbase fun v' w' h1 hg _ => hK v' w' ?_ hg
    have hb : Below C w w' := (Below.refl C w).grown hg (by omega) (fun q hq => Nat.le_trans hC (hlt q hq).1)
    refine ⟨xs ++ ys, by simp [hl, hyl], by rw [List.length_append, flatT_append]; exact h1, fun i u hu => ?_⟩
    by_cases hit : i < l.length
    · rw [List.getElem?_append_left hit] at hu
      obtain ⟨sl, h2, h3⟩ := hrs i u hu
      exact ⟨sl, by rw [List.getElem?_append_left (by omega)]; exact h2, h3.later hb⟩
    · rw [List.getElem?_append_right (by omega)] at hu
      obtain ⟨sl, h2, h3⟩ := hyr _ u hu
      exact ⟨sl, by rw [List.getElem?_append_right (by omega), hl]; exact h2, h3.later hb⟩

theorem addr_add0 (b o i : Nat) : (⟨b, o, none⟩ : Addr).add i = ⟨b, o + i, none⟩ := by
  unfold Addr.add
  split
  · rename_i h; subst h; rfl
  · rfl
theorem Rep.src_take {w : World} {B n c k : Nat} {oa : Option Addr} {l : List T} (h : Rep w B (.slice oa n c) l) : Src w B oa (l.take k) := by
  intro j u hu
  rw [List.getElem?_take] at hu
  split at hu
  · obtain ⟨oa', cap, he, h1, h2, h3⟩ := h.slice
    cases he
    obtain ⟨b, off, oe, ce, rfl, hb, c0, c1, hr⟩ := h3 j u hu
    exact ⟨_, _, rfl, by rw [addr_add0]; exact c0, by rw [addr_add0]; exact c1, hr⟩
  · cases hu
theorem Rep.src_drop {w : World} {B n c k : Nat} {oa : Option Addr} {l : List T} (h : Rep w B (.slice oa n c) l) : Src w B (oa.map (·.add (k * 2))) (l.drop k) := by
  intro j u hu
  rw [List.getElem?_drop] at hu
  obtain ⟨oa', cap, he, h1, h2, h3⟩ := h.slice
  cases he
  obtain ⟨b, off, oe, ce, rfl, hb, c0, c1, hr⟩ := h3 _ u hu
  refine ⟨_, _, rfl, ?_, ?_, hr⟩
  · show w.cell? (((⟨b, off, none⟩ : Addr).add (k * 2)).add (j * 2)) = _
    rw [addr_add0, addr_add0, ← c0, show off + k * 2 + j * 2 = off + (k + j) * 2 by omega]
  · show w.cell? (((⟨b, off, none⟩ : Addr).add (k * 2)).add (j * 2 + 1)) = _
    rw [addr_add0, addr_add0, ← c1, show off + k * 2 + (j * 2 + 1) = off + (k + j) * 2 + 1 by omega]
theorem Src.nil (w : World) (C : Nat) (oa : Option Addr) : Src w C oa [] := fun j u hu => by simp at hu
theorem Src.one {w : World} {C n : Nat} {sl : Value} {u : T} (h : Rep w C sl u.l) (c0 : w.cell? ⟨n, 0, none⟩ = some (.int .i64 u.r)) (c1 : w.cell? ⟨n, 1, none⟩ = some sl) : Src w C (some ⟨n, 0, none⟩) [u] := by
  intro j x hx
  match j, hx with
  | 0, hx => simp at hx; subst hx; exact ⟨_, _, rfl, by rw [addr_add0]; exact c0, by rw [addr_add0]; exact c1, h⟩
  | j + 1, hx => simp at hx

end Go.Proofs.Ytdfhfljmcakilaa
