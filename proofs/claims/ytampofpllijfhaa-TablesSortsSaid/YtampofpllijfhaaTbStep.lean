/-
  append at lists and tables that a call builds: the run itself, and at a step of a region that draws its order. Nothing is assumed.
-/
import Derived.Test.YtampofpllijfhaaTbDrop
namespace Go.Proofs.Ytampofpllijfhaa
open Go.RowKit

theorem run_src (ty : TypeId) {w : World} (H : Nat) (v : Value) (l : List ByteArray) (hown : OwnS w H v l) (oa : Option Addr) (m c : Nat) (news : List ByteArray) (hm : news.length = m)
    (hn : ∀ (j : Nat) z, news[j]? = some z → ∃ ad, oa = some ad ∧ w.cell? (ad.add j) = some (.string z)) (hlen : l.length + m ≤ 1000) (hH : H ≤ w.heap.size) :
    ∃ v' w', (Builtin.append_ #[29, 29] ty #[v, .slice oa m c]).run Try.prog w = .ok v' w' ∧ OwnS w' H v' (l ++ news) ∧ w.grownBy w' v.ownBlock ∧ (v'.ownBlock = v.ownBlock ∨ v'.ownBlock = some w.heap.size) := by
  obtain ⟨i0, hi, hz0, hz1, hz2⟩ := info_parts infoText
  cases oa with
  | none =>
    have hnil : news = [] := by
      cases news with
      | nil => rfl
      | cons z r =>
        obtain ⟨ad, he, _⟩ := hn 0 z rfl
        cases he
    subst hnil
    obtain rfl : m = 0 := hm.symm
    refine ⟨v, w, ?_, by simpa using hown, World.grownBy.refl w _, .inl rfl⟩
    rcases hown.2 with ⟨rfl, h0⟩ | ⟨g, cap, cur, rfl, _, _, hnc, _⟩
    · simp [Builtin.append_, run_underlying Try.underlying29, sizeOf, typeInfo, hi, Builtin.lenOf, Builtin.firstCells]
    · simp [Builtin.append_, run_underlying Try.underlying29, sizeOf, typeInfo, hi, Builtin.lenOf, Builtin.firstCells, hnc, storeCells]
  | some ad =>
    obtain ⟨v', w', hr, h1, h2, _, h3⟩ := run_append_own_at (P := Try.prog) w H 29 ty 9 i0 (.string ⟨#[]⟩) 1 16 Try.underlying29 hi hz0 hz1 hz2 rfl (by decide) v l.length (l.map Value.string) hown ad m c (news.map Value.string) (by simp [hm]) (fun j u hu => by
        simp only [List.getElem?_map, Option.map_eq_some_iff] at hu
        obtain ⟨z, hz, rfl⟩ := hu
        obtain ⟨ad', he, hc⟩ := hn j z hz
        cases he
        exact hc)
      (fun u hu => by simp only [List.mem_map] at hu; obtain ⟨z, _, rfl⟩ := hu; rfl) (by unfold maxLen; omega) (by omega) hH
    refine ⟨v', w', hr, ?_, h2, h3⟩
    unfold OwnS
    rw [List.length_append, List.map_append, hm]
    exact h1
theorem step_src {w : World} {ops : Array Oper} {o : Oper} {a : Act} {K : Act → World → Prop} {Q : Exit → Act → World → Prop} {E : Prop} (hgd : o.guard = none) (s x : Operand)
    (ho : o.op = .call { callee := .builtin .append, args := #[s, x], argTypes := #[29, 29] }) (H : Nat) (v : Value) (l : List ByteArray) (hs : a.eval s = v) (hown : OwnS w H v l)
    (oa : Option Addr) (m c : Nat) (hx : a.eval x = .slice oa m c) (news : List ByteArray) (hm : news.length = m) (hn : ∀ (j : Nat) z, news[j]? = some z → ∃ ad, oa = some ad ∧ w.cell? (ad.add j) = some (.string z))
    (hlen : l.length + m ≤ 1000) (hH : H ≤ w.heap.size) (h : ∀ v' w', OwnS w' H v' (l ++ news) → w.grownBy w' v.ownBlock → (v'.ownBlock = v.ownBlock ∨ v'.ownBlock = some w.heap.size) → K (a.put o.dst v') w') :
    if Region.wanted o (yielded ops a.tmps) = true then Oper.wp Try.prog o a w K Q else E := by
  have hw : Region.wanted o (yielded ops a.tmps) = true := by simp [Region.wanted, hgd]
  rw [if_pos hw]
  obtain ⟨v', w', hr, h1, h2, h3⟩ := run_src o.type H v l hown oa m c news hm hn hlen hH
  unfold Oper.wp execOp
  simp only [ho, resolve, invoke, builtin, Sem.run_bind, Sem.run_pure, Result.andThen_ok, List.map_toArray, List.map_cons, List.map_nil, hs, hx, hr]
  exact h v' w' h1 h2 h3

theorem AccT.run (ty : TypeId) {w : World} (base : Nat) (v : Value) (t : Tab) (h : AccT w base v t) (oa : Option Addr) (m c : Nat) (u : Tab) (hu : HoldsT w (fun b => base ≤ b ∧ v.ownBlock ≠ some b) (.slice oa m c) u)
    (hlen : t.length + u.length ≤ 999) (hbase : base ≤ w.heap.size) :
    ∃ v' w', (Builtin.append_ #[22, 22] ty #[v, .slice oa m c]).run Try.prog w = .ok v' w' ∧ AccT w' base v' (t ++ u) ∧ w.grownBy w' v.ownBlock := by
  obtain ⟨i0, hi, hz0, hz1, hz2⟩ := info_parts infoTexts
  have hm := hu.len.1
  by_cases hnil : u = []
  · subst hnil
    obtain rfl : m = 0 := hm.symm
    obtain ⟨xs, hl, hown, hrs⟩ := h
    refine ⟨v, w, ?_, by rw [List.append_nil]; exact ⟨xs, hl, hown, hrs⟩, World.grownBy.refl w _⟩
    rcases hown.2 with ⟨rfl, h0⟩ | ⟨g, cap, cur, rfl, _, _, hnc, _⟩
    · cases oa <;> simp [Builtin.append_, run_underlying Try.underlying22, sizeOf, typeInfo, hi, Builtin.lenOf, Builtin.firstCells, loadCells, loadCellsFrom, Result.andThen]
    · cases oa <;> simp [Builtin.append_, run_underlying Try.underlying22, sizeOf, typeInfo, hi, Builtin.lenOf, Builtin.firstCells, hnc, storeCells, loadCells, loadCellsFrom, Result.andThen]
  · have hpos : 0 < u.length := List.length_pos_iff.2 hnil
    obtain ⟨b, off, _, _, rfl, _, _, _⟩ := hu.at_ (List.getElem?_eq_getElem hpos)
    obtain ⟨ys, hyl, hyc, hyr⟩ := hu.rows
    obtain ⟨xs, hl, hown, hrs⟩ := h
    obtain ⟨v', w', hr, h1, hg, _, hat⟩ := run_append_own_at (P := Try.prog) w base 22 ty 29 i0 (.slice none 0 0) 1 24 Try.underlying22 hi hz0 hz1 hz2 rfl (by decide) v t.length xs hown ⟨b, off, none⟩ m c ys (by omega) (fun j z hz => by
        have := (hyc j z hz).1
        unfold Addr.add
        split
        · rename_i h0; subst h0; exact this
        · exact this) (fun z hz => by
        obtain ⟨j, hj⟩ := List.getElem?_of_mem hz
        exact (hyc j z hj).2) (by unfold maxLen; omega) (by omega) hbase
    refine ⟨v', w', hr, ?_, hg⟩
    have hs := hg.size
    have hoff : ∀ q, base ≤ q → q < w.heap.size → v.ownBlock ≠ some q → Off base w'.heap.size v'.ownBlock q := fun q h2 h3 h4 => ⟨⟨h2, Nat.lt_of_lt_of_le h3 hs⟩, by
      rcases hat with h5 | h5
      · rw [h5]; exact h4
      · rw [h5]; intro e; cases e; omega⟩
    refine ⟨xs ++ ys, by simp [hl, hyl], by rw [List.length_append, hm]; exact h1, fun i y r h2 h3 => ?_⟩
    by_cases hit : i < t.length
    · rw [List.getElem?_append_left (by omega)] at h2 h3
      exact (hrs i y r h2 h3).keep (fun q hp _ => hoff q hp.1.1 hp.1.2 hp.2) (fun q o hp _ => hg.cell_far ⟨q, o, none⟩ hp.1.2 (Ne.symm hp.2))
    · rw [List.getElem?_append_right (by omega)] at h2 h3
      rw [hl] at h2
      exact (hyr _ y r h2 h3).keep (fun q hp hlt => hoff q hp.1 hlt hp.2) (fun q o hp hlt => hg.cell_far ⟨q, o, none⟩ hlt (Ne.symm hp.2))
theorem step_acc {w : World} {ops : Array Oper} {o : Oper} {a : Act} {K : Act → World → Prop} {Q : Exit → Act → World → Prop} {E : Prop} (hgd : o.guard = none) (s x : Operand)
    (ho : o.op = .call { callee := .builtin .append, args := #[s, x], argTypes := #[22, 22] }) (base : Nat) (v : Value) (t : Tab) (hs : a.eval s = v) (hacc : AccT w base v t)
    (oa : Option Addr) (m c : Nat) (u : Tab) (hx : a.eval x = .slice oa m c) (hu : HoldsT w (fun b => base ≤ b ∧ v.ownBlock ≠ some b) (.slice oa m c) u)
    (hlen : t.length + u.length ≤ 999) (hbase : base ≤ w.heap.size) (h : ∀ v' w', AccT w' base v' (t ++ u) → w.grownBy w' v.ownBlock → K (a.put o.dst v') w') :
    if Region.wanted o (yielded ops a.tmps) = true then Oper.wp Try.prog o a w K Q else E := by
  have hw : Region.wanted o (yielded ops a.tmps) = true := by simp [Region.wanted, hgd]
  rw [if_pos hw]
  obtain ⟨v', w', hr, h1, h2⟩ := AccT.run o.type base v t hacc oa m c u hu hlen hbase
  unfold Oper.wp execOp
  simp only [ho, resolve, invoke, builtin, Sem.run_bind, Sem.run_pure, Result.andThen_ok, List.map_toArray, List.map_cons, List.map_nil, hs, hx, hr]
  exact h v' w' h1 h2

end Go.Proofs.Ytampofpllijfhaa
