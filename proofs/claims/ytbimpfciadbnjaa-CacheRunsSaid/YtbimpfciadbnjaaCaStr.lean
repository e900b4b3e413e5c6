/-
  Lists of texts in memory (out of the texts of layer 8; printed by gen/ca0.py). Nothing is assumed.
-/
import Derived.Test.YtbimpfciadbnjaaCaClone
import Derived.OwnWalk
namespace Go.Proofs.Ytbimpfciadbnjaa
open Go.RowKit

theorem infoText : (Try.prog.info? 9).map (fun i => (i.zero, i.size, i.bytes)) = some (some (.string ⟨#[]⟩), 1, 16) := by kernel_rfl
def Btw (lo hi b : Nat) : Prop := lo ≤ b ∧ b < hi
theorem cell_lt {w : World} {b o : Nat} {v : Value} (h : w.cell? ⟨b, o, none⟩ = some v) : b < w.heap.size := by
  have := World.block_lt_of_cell? _ _ h
  simpa using this
/-- The slice value holds the list of texts in the world, in blocks with P. -/
def HoldsS (w : World) (P : Nat → Prop) (x : Value) (l : List ByteArray) : Prop :=
  ∃ (oa : Option Addr) (cap : Nat), x = .slice oa l.length cap ∧ l.length ≤ cap ∧ cap ≤ 9223372036854775807 ∧
    ∀ (i : Nat) z, l[i]? = some z → ∃ b off : Nat, oa = some ⟨b, off, none⟩ ∧ P b ∧ w.cell? ⟨b, off + i, none⟩ = some (.string z)
theorem HoldsS.keep {w w' : World} {P Q : Nat → Prop} {x : Value} {l : List ByteArray} (h : HoldsS w P x l) (hPQ : ∀ b, P b → b < w.heap.size → Q b) (hc : ∀ b o, P b → b < w.heap.size → w'.cell? ⟨b, o, none⟩ = w.cell? ⟨b, o, none⟩) : HoldsS w' Q x l := by
  obtain ⟨oa, cap, rfl, hl, hm, hel⟩ := h
  refine ⟨oa, cap, rfl, hl, hm, fun i z hz => ?_⟩
  obtain ⟨b, off, rfl, hp, hcc⟩ := hel i z hz
  exact ⟨b, off, rfl, hPQ b hp (cell_lt hcc), (hc b _ hp (cell_lt hcc)).trans hcc⟩
theorem HoldsS.later {w w' : World} {B : Nat} {x : Value} {l : List ByteArray} (h : HoldsS w (· < B) x l) (hb : Below B w w') : HoldsS w' (· < B) x l := h.keep (fun _ h _ => h) (fun b o h _ => hb.cell (p := ⟨b, o, none⟩) h)
theorem HoldsS.mono {w : World} {B C : Nat} {x : Value} {l : List ByteArray} (h : HoldsS w (· < B) x l) (hBC : B ≤ C) : HoldsS w (· < C) x l := h.keep (fun _ h _ => Nat.lt_of_lt_of_le h hBC) (fun _ _ _ _ => rfl)
theorem HoldsS.all {w : World} {P : Nat → Prop} {x : Value} {l : List ByteArray} (h : HoldsS w P x l) : HoldsS w (· < w.heap.size) x l := h.keep (fun _ _ h => h) (fun _ _ _ _ => rfl)
theorem HoldsS.at_ {w : World} {P : Nat → Prop} {n c i : Nat} {oa : Option Addr} {l : List ByteArray} {z : ByteArray} (h : HoldsS w P (.slice oa n c) l) (hz : l[i]? = some z) : ∃ b off : Nat, oa = some ⟨b, off, none⟩ ∧ P b ∧ w.cell? ⟨b, off + i, none⟩ = some (.string z) := by
  obtain ⟨oa', cap, he, _, _, hel⟩ := h
  cases he
  exact hel i z hz
theorem HoldsS.len {w : World} {P : Nat → Prop} {n c : Nat} {oa : Option Addr} {l : List ByteArray} (h : HoldsS w P (.slice oa n c) l) : l.length = n ∧ n ≤ c ∧ c ≤ 9223372036854775807 := by
  obtain ⟨oa', cap, he, h1, h2, _⟩ := h
  cases he
  exact ⟨rfl, h1, h2⟩
theorem HoldsS.nil (w : World) (P : Nat → Prop) : HoldsS w P (.slice none 0 0) [] := ⟨none, 0, rfl, Nat.le_refl _, by simp, fun i z h => by simp at h⟩
/-- .. with the slice's length and capacity as they are written. -/
theorem HoldsS.form {w : World} {P : Nat → Prop} {x : Value} {l : List ByteArray} (h : HoldsS w P x l) : ∃ oa cap, x = .slice oa l.length cap ∧ l.length ≤ cap ∧ cap ≤ 9223372036854775807 := by
  obtain ⟨oa, cap, rfl, h1, h2, _⟩ := h
  exact ⟨oa, cap, rfl, h1, h2⟩
theorem HoldsS.on {w w' : World} {x : Value} {l : List ByteArray} (h : HoldsS w (· < w.heap.size) x l) (hb : Below w.heap.size w w') : HoldsS w' (· < w'.heap.size) x l := (h.later hb).mono hb.size
theorem str_ne {a b : ByteArray} (h : a ≠ b) : (a.toList == b.toList) = false := by
  rw [beq_eq_false_iff_ne, ByteArray.toList_eq, ByteArray.toList_eq]
  intro e
  apply h
  cases a; cases b
  simp only [ByteArray.mk.injEq]
  exact Array.ext' e
/-- A list of texts that the call has built. -/
def OwnS (w : World) (base : Nat) (v : Value) (l : List ByteArray) : Prop := w.ownsRow base 9 1 v l.length (l.map Value.string)
theorem own_lt {w : World} {base e size n : Nat} {v : Value} {xs : List Value} (h : w.ownsRow base e size v n xs) : ∀ q, v.ownBlock = some q → base ≤ q ∧ q < w.heap.size := World.ownsRow.lt h
/-- The cells of a row of the call's own. -/
theorem owns_cells {w : World} {base e n : Nat} {v : Value} {xs : List Value} (h : w.ownsRow base e 1 v n xs) (hn : xs.length = n) : (v = .slice none 0 0 ∧ n = 0) ∨ ∃ g cap, v = .slice (some ⟨g, 0, none⟩) n cap ∧ base ≤ g ∧ g < w.heap.size ∧ n ≤ cap ∧ cap ≤ 9223372036854775807 ∧ ∀ (i : Nat) x, xs[i]? = some x → w.cell? ⟨g, i, none⟩ = some x := by
  rcases h.2 with ⟨rfl, h0⟩ | ⟨g, cap, cur, rfl, hg, hh, hcap, hmx, hsz, htk⟩
  · exact .inl ⟨rfl, h0⟩
  · have hlt : g < w.heap.size := by
      rcases Nat.lt_or_ge g w.heap.size with h | h
      · exact h
      · rw [Array.getElem?_eq_none h] at hh; cases hh
    refine .inr ⟨g, cap, rfl, hg, hlt, hcap, by unfold maxLen at hmx; omega, fun i x hx => ?_⟩
    have hi : i < xs.length := (List.getElem?_eq_some_iff.1 hx).1
    have h1 : cur.toList[i]? = some x := by
      rw [← htk, List.getElem?_take] at hx
      rw [if_pos (by omega)] at hx
      exact hx
    unfold World.cell?
    rw [hh]
    simpa using h1
theorem OwnS.holds {w : World} {base : Nat} {v : Value} {l : List ByteArray} (h : OwnS w base v l) : HoldsS w (Btw base w.heap.size) v l := by
  rcases owns_cells h (by simp) with ⟨rfl, h0⟩ | ⟨g, cap, rfl, hg, hlt, hcap, hmx, hel⟩
  · obtain rfl := List.eq_nil_of_length_eq_zero h0
    exact HoldsS.nil _ _
  · refine ⟨_, cap, rfl, hcap, hmx, fun i z hz => ⟨g, 0, rfl, ⟨hg, hlt⟩, ?_⟩⟩
    rw [Nat.zero_add]
    exact hel i _ (by rw [List.getElem?_map, hz]; rfl)
theorem OwnS.later {w w' : World} {base : Nat} {v : Value} {l : List ByteArray} (h : OwnS w base v l) (hb : Below w.heap.size w w') : OwnS w' base v l := owns_later h hb
theorem OwnS.none (w : World) (base : Nat) : OwnS w base (.slice none 0 0) [] := ⟨rfl, .inl ⟨rfl, rfl⟩⟩
theorem owns_far {w : World} {base e size n : Nat} {v : Value} {xs : List Value} (h : w.ownsRow base e size v n xs) {g : Nat} (hg : g < base) : v.ownBlock ≠ some g := fun e => by
  have := (own_lt h g e).1
  omega
theorem owns_form {w : World} {base e size n : Nat} {v : Value} {xs : List Value} (h : w.ownsRow base e size v n xs) : ∃ ao cap, v = .slice ao n cap := by
  rcases h.2 with ⟨h1, h2⟩ | ⟨g, cap, cur, h1, _⟩
  · exact ⟨Option.none, 0, by rw [h1, h2]⟩
  · exact ⟨_, _, h1⟩
theorem below_grownT {H e size n : Nat} {w0 wr w2 : World} {v : Value} {xs : List Value} (hbel : Below H w0 wr) (hH : H ≤ wr.heap.size) (HO : wr.ownsRow H e size v n xs) (hg : wr.grownBy w2 v.ownBlock) : Below H w0 w2 :=
  hbel.grown hg hH (fun q hq => (own_lt HO q hq).1)
theorem HoldsS.src {w : World} {P : Nat → Prop} {n c : Nat} {oa : Option Addr} {l : List ByteArray} (h : HoldsS w P (.slice oa n c) l) : ∀ (j : Nat) z, l[j]? = some z → ∃ ad, oa = some ad ∧ w.cell? (ad.add j) = some (.string z) := by
  intro j z hz
  obtain ⟨b, off, rfl, _, hc⟩ := h.at_ hz
  refine ⟨_, rfl, ?_⟩
  unfold Addr.add
  split
  · rename_i h0; subst h0; exact hc
  · exact hc
/-- 'append(s, x...)' at a list of the call's own. -/
theorem appendS_src {w : World} {ops : Array Oper} {rest : List Oper} {o : Oper} {a : Act} {Q : Exit → Act → World → Prop} (hgd : o.guard = none) (s x : Operand)
    (ho : o.op = .call { callee := .builtin .append, args := #[s, x], argTypes := #[29, 29] }) (H : Nat) (v : Value) (l : List ByteArray) (hs : a.eval s = v) (hown : OwnS w H v l)
    (oa : Option Addr) (m c : Nat) (hx : a.eval x = .slice oa m c) (news : List ByteArray) (hm : news.length = m) (hn : ∀ (j : Nat) z, news[j]? = some z → ∃ ad, oa = some ad ∧ w.cell? (ad.add j) = some (.string z))
    (hlen : l.length + m ≤ 1000) (hH : H ≤ w.heap.size) (h : ∀ v' w', OwnS w' H v' (l ++ news) → w.grownBy w' v.ownBlock → wpList Try.prog ops Q rest (a.put o.dst v') w') : wpList Try.prog ops Q (o :: rest) a w := by
  obtain ⟨i0, hi, hz0, hz1, hz2⟩ := info_parts infoText
  cases oa with
  | none =>
    have hnil : news = [] := by
      cases news with
      | nil => rfl
      | cons z r =>
        obtain ⟨ad, he, _⟩ := hn 0 z rfl
        cases he
    subst hnil
    obtain rfl : m = 0 := hm.symm
    refine wpList_plain hgd fun K hK => ?_
    have hrun : (Builtin.append_ #[29, 29] o.type #[v, .slice none 0 c]).run Try.prog w = .ok v w := by
      rcases hown.2 with ⟨rfl, h0⟩ | ⟨g, cap, cur, rfl, _, _, hnc, _⟩
      · simp [Builtin.append_, run_underlying Try.underlying29, sizeOf, typeInfo, hi, Builtin.lenOf, Builtin.firstCells]
      · simp [Builtin.append_, run_underlying Try.underlying29, sizeOf, typeInfo, hi, Builtin.lenOf, Builtin.firstCells, hnc, storeCells]
    unfold Oper.wp
    simp [execOp, ho, resolve, invoke, builtin, hs, hx, hrun, Result.andThen]
    exact hK _ _ (h v w (by simpa using hown) (World.grownBy.refl w _))
  | some ad =>
    refine wpList_append_own w hgd s x 29 ho H 9 i0 (.string ⟨#[]⟩) 1 16 Try.underlying29 hi hz0 hz1 hz2 rfl (by decide) v l.length (l.map Value.string) hs hown ad m c (news.map Value.string) hx (by simp [hm]) (fun j u hu => ?_)
      (fun u hu => by simp only [List.mem_map] at hu; obtain ⟨z, _, rfl⟩ := hu; rfl) (by unfold maxLen; omega) (by omega) hH fun v' w' h1 h2 _ => h v' w' ?_ h2
    · simp only [List.getElem?_map, Option.map_eq_some_iff] at hu
      obtain ⟨z, hz, rfl⟩ := hu
      obtain ⟨ad', he, hc⟩ := hn j z hz
      cases he
      exact hc
    · unfold OwnS
      rw [List.length_append, List.map_append, hm]
      exact h1
theorem oneS_src (w : World) (t : TypeId) (z : ByteArray) : ∀ (j : Nat) (y : ByteArray), [z][j]? = some y → ∃ ad, some (⟨w.heap.size, 0, none⟩ : Addr) = some ad ∧ (w.alloc (.cells #[.string z] t)).cell? (ad.add j) = some (.string y) := by
  intro j y hj
  match j, hj with
  | 0, hj => simp at hj; subst hj; exact ⟨_, rfl, by simp [Addr.add]⟩
  | j + 1, hj => simp at hj
/-- An empty composite of the call's own. -/
theorem own_empty (w : World) : OwnS (w.alloc (.cells #[] 9)) w.heap.size (.slice (some ⟨w.heap.size, 0, Option.none⟩) 0 0) [] :=
  ⟨rfl, .inr ⟨w.heap.size, 0, #[], rfl, Nat.le_refl _, by show (w.heap.push _)[w.heap.size]? = _; exact Array.getElem?_push_size, Nat.le_refl _, by unfold maxLen; omega, rfl, rfl⟩⟩
end Go.Proofs.Ytbimpfciadbnjaa
