/-
  Lists and tables that a call builds by append; list and column of the reference. Nothing is assumed.
-/
import Derived.Test.YtampofpllijfhaaTbJoin
import Derived.Deep.AppendLies
namespace Go.Proofs.Ytampofpllijfhaa
open Go.RowKit

/-- A list of texts that the call has built. -/
def OwnS (w : World) (base : Nat) (v : Value) (l : List ByteArray) : Prop := w.ownsRow base 9 1 v l.length (l.map Value.string)
theorem own_lt {w : World} {base e size n : Nat} {v : Value} {xs : List Value} (h : w.ownsRow base e size v n xs) : ∀ q, v.ownBlock = some q → base ≤ q ∧ q < w.heap.size := World.ownsRow.lt h
/-- The cells of a row of the call's own. -/
theorem owns_cells {w : World} {base e n : Nat} {v : Value} {xs : List Value} (h : w.ownsRow base e 1 v n xs) (hn : xs.length = n) : (v = .slice none 0 0 ∧ n = 0) ∨ ∃ g cap, v = .slice (some ⟨g, 0, none⟩) n cap ∧ base ≤ g ∧ g < w.heap.size ∧ n ≤ cap ∧ cap ≤ 9223372036854775807 ∧ ∀ (i : Nat) x, xs[i]? = some x → w.cell? ⟨g, i, none⟩ = some x := by
  rcases h.2 with ⟨rfl, h0⟩ | ⟨g, cap, cur, rfl, hg, hh, hcap, hmx, hsz, htk⟩
  · exact .inl ⟨rfl, h0⟩
  · have hlt : g < w.heap.size := by
      rcases Nat.lt_or_ge g w.heap.size with h | h
      · exact h
      · rw [Array.getElem?_eq_none h] at hh; cases hh
    refine .inr ⟨g, cap, rfl, hg, hlt, hcap, by unfold maxLen at hmx; omega, fun i x hx => ?_⟩
    have hi : i < xs.length := (List.getElem?_eq_some_iff.1 hx).1
    have h1 : cur.toList[i]? = some x := by
      rw [← htk, List.getElem?_take] at hx
      rw [if_pos (by omega)] at hx
      exact hx
    unfold World.cell?
    rw [hh]
    simpa using h1
theorem OwnS.holds {w : World} {base : Nat} {v : Value} {l : List ByteArray} (h : OwnS w base v l) : HoldsS w (Btw base w.heap.size) v l := by
  rcases owns_cells h (by simp) with ⟨rfl, h0⟩ | ⟨g, cap, rfl, hg, hlt, hcap, hmx, hel⟩
  · obtain rfl := List.eq_nil_of_length_eq_zero h0
    exact HoldsS.nil _ _
  · refine ⟨_, cap, rfl, hcap, hmx, fun i z hz => ⟨g, 0, rfl, ⟨hg, hlt⟩, ?_⟩⟩
    rw [Nat.zero_add]
    exact hel i _ (by rw [List.getElem?_map, hz]; rfl)
theorem owns_later {w w' : World} {base e size n : Nat} {v : Value} {xs : List Value} (h : w.ownsRow base e size v n xs) (hb : Below w.heap.size w w') : w'.ownsRow base e size v n xs := by
  obtain ⟨h1, h2⟩ := h
  refine ⟨h1, ?_⟩
  rcases h2 with h2 | ⟨g, cap, cur, hv, hg, hh, r⟩
  · exact .inl h2
  · have hlt : g < w.heap.size := by
      rcases Nat.lt_or_ge g w.heap.size with h | h
      · exact h
      · rw [Array.getElem?_eq_none h] at hh; cases hh
    exact .inr ⟨g, cap, cur, hv, hg, (hb.block g hlt).trans hh, r⟩
theorem OwnS.later {w w' : World} {base : Nat} {v : Value} {l : List ByteArray} (h : OwnS w base v l) (hb : Below w.heap.size w w') : OwnS w' base v l := owns_later h hb
theorem OwnS.none (w : World) (base : Nat) : OwnS w base (.slice none 0 0) [] := ⟨rfl, .inl ⟨rfl, rfl⟩⟩
theorem owns_far {w : World} {base e size n : Nat} {v : Value} {xs : List Value} (h : w.ownsRow base e size v n xs) {g : Nat} (hg : g < base) : v.ownBlock ≠ some g := fun e => by
  have := (own_lt h g e).1
  omega
theorem owns_form {w : World} {base e size n : Nat} {v : Value} {xs : List Value} (h : w.ownsRow base e size v n xs) : ∃ ao cap, v = .slice ao n cap := by
  rcases h.2 with ⟨h1, h2⟩ | ⟨g, cap, cur, h1, _⟩
  · exact ⟨Option.none, 0, by rw [h1, h2]⟩
  · exact ⟨_, _, h1⟩
theorem below_grownT {H e size n : Nat} {w0 wr w2 : World} {v : Value} {xs : List Value} (hbel : Below H w0 wr) (hH : H ≤ wr.heap.size) (HO : wr.ownsRow H e size v n xs) (hg : wr.grownBy w2 v.ownBlock) : Below H w0 w2 :=
  hbel.grown hg hH (fun q hq => (own_lt HO q hq).1)

theorem HoldsS.src {w : World} {P : Nat → Prop} {n c : Nat} {oa : Option Addr} {l : List ByteArray} (h : HoldsS w P (.slice oa n c) l) : ∀ (j : Nat) z, l[j]? = some z → ∃ ad, oa = some ad ∧ w.cell? (ad.add j) = some (.string z) := by
  intro j z hz
  obtain ⟨b, off, rfl, _, hc⟩ := h.at_ hz
  refine ⟨_, rfl, ?_⟩
  unfold Addr.add
  split
  · rename_i h0; subst h0; exact hc
  · exact hc

/-- 'append(s, x...)' at a list of the call's own. -/
theorem append_src {w : World} {ops : Array Oper} {rest : List Oper} {o : Oper} {a : Act} {Q : Exit → Act → World → Prop} (hgd : o.guard = none) (s x : Operand)
    (ho : o.op = .call { callee := .builtin .append, args := #[s, x], argTypes := #[29, 29] }) (H : Nat) (v : Value) (l : List ByteArray) (hs : a.eval s = v) (hown : OwnS w H v l)
    (oa : Option Addr) (m c : Nat) (hx : a.eval x = .slice oa m c) (news : List ByteArray) (hm : news.length = m) (hn : ∀ (j : Nat) z, news[j]? = some z → ∃ ad, oa = some ad ∧ w.cell? (ad.add j) = some (.string z))
    (hlen : l.length + m ≤ 1000) (hH : H ≤ w.heap.size) (h : ∀ v' w', OwnS w' H v' (l ++ news) → w.grownBy w' v.ownBlock → wpList Try.prog ops Q rest (a.put o.dst v') w') : wpList Try.prog ops Q (o :: rest) a w := by
  obtain ⟨i0, hi, hz0, hz1, hz2⟩ := info_parts infoText
  cases oa with
  | none =>
    have hnil : news = [] := by
      cases news with
      | nil => rfl
      | cons z r =>
        obtain ⟨ad, he, _⟩ := hn 0 z rfl
        cases he
    subst hnil
    obtain rfl : m = 0 := hm.symm
    refine wpList_plain hgd fun K hK => ?_
    have hrun : (Builtin.append_ #[29, 29] o.type #[v, .slice none 0 c]).run Try.prog w = .ok v w := by
      rcases hown.2 with ⟨rfl, h0⟩ | ⟨g, cap, cur, rfl, _, _, hnc, _⟩
      · simp [Builtin.append_, run_underlying Try.underlying29, sizeOf, typeInfo, hi, Builtin.lenOf, Builtin.firstCells]
      · simp [Builtin.append_, run_underlying Try.underlying29, sizeOf, typeInfo, hi, Builtin.lenOf, Builtin.firstCells, hnc, storeCells]
    unfold Oper.wp
    simp [execOp, ho, resolve, invoke, builtin, hs, hx, hrun, Result.andThen]
    exact hK _ _ (h v w (by simpa using hown) (World.grownBy.refl w _))
  | some ad =>
    refine wpList_append_own w hgd s x 29 ho H 9 i0 (.string ⟨#[]⟩) 1 16 Try.underlying29 hi hz0 hz1 hz2 rfl (by decide) v l.length (l.map Value.string) hs hown ad m c (news.map Value.string) hx (by simp [hm]) (fun j u hu => ?_)
      (fun u hu => by simp only [List.mem_map] at hu; obtain ⟨z, _, rfl⟩ := hu; rfl) (by unfold maxLen; omega) (by omega) hH fun v' w' h1 h2 _ => h v' w' ?_ h2
    · simp only [List.getElem?_map, Option.map_eq_some_iff] at hu
      obtain ⟨z, hz, rfl⟩ := hu
      obtain ⟨ad', he, hc⟩ := hn j z hz
      cases he
      exact hc
    · unfold OwnS
      rw [List.length_append, List.map_append, hm]
      exact h1
theorem one_src (w : World) (t : TypeId) (z : ByteArray) : ∀ (j : Nat) (y : ByteArray), [z][j]? = some y → ∃ ad, some (⟨w.heap.size, 0, none⟩ : Addr) = some ad ∧ (w.alloc (.cells #[.string z] t)).cell? (ad.add j) = some (.string y) := by
  intro j y hj
  match j, hj with
  | 0, hj => simp at hj; subst hj; exact ⟨_, rfl, by simp [Addr.add]⟩
  | j + 1, hj => simp at hj
/-- An empty composite of the call's own. -/
theorem own_empty (w : World) : OwnS (w.alloc (.cells #[] 9)) w.heap.size (.slice (some ⟨w.heap.size, 0, Option.none⟩) 0 0) [] :=
  ⟨rfl, .inr ⟨w.heap.size, 0, #[], rfl, Nat.le_refl _, by show (w.heap.push _)[w.heap.size]? = _; exact Array.getElem?_push_size, Nat.le_refl _, by unfold maxLen; omega, rfl, rfl⟩⟩

/-- The blocks from lo on, below hi, but one. -/
def Off (lo hi : Nat) (row : Option Nat) (b : Nat) : Prop := Btw lo hi b ∧ row ≠ some b
/-- A table that the call builds: the row of its rows, and the rows, each beside it. -/
def AccT (w : World) (base : Nat) (v : Value) (t : Tab) : Prop :=
  ∃ xs : List Value, xs.length = t.length ∧ w.ownsRow base 29 1 v t.length xs ∧ ∀ (i : Nat) x r, xs[i]? = some x → t[i]? = some r → HoldsS w (Off base w.heap.size v.ownBlock) x r
theorem AccT.nil (w : World) (base : Nat) : AccT w base (.slice none 0 0) [] := ⟨[], rfl, ⟨rfl, .inl ⟨rfl, rfl⟩⟩, fun i x r h => by simp at h⟩
theorem AccT.form {w : World} {base : Nat} {v : Value} {t : Tab} (h : AccT w base v t) : ∃ ao cap, v = .slice ao t.length cap := by
  obtain ⟨xs, _, ho, _⟩ := h
  exact owns_form ho
theorem AccT.lt {w : World} {base : Nat} {v : Value} {t : Tab} (h : AccT w base v t) : ∀ q, v.ownBlock = some q → base ≤ q ∧ q < w.heap.size := by
  obtain ⟨xs, _, ho, _⟩ := h
  exact own_lt ho
theorem AccT.later {w w' : World} {base : Nat} {v : Value} {t : Tab} (h : AccT w base v t) (hb : Below w.heap.size w w') : AccT w' base v t := by
  obtain ⟨xs, hl, ho, hr⟩ := h
  exact ⟨xs, hl, owns_later ho hb, fun i x r h1 h2 => (hr i x r h1 h2).keep (fun b hp _ => ⟨⟨hp.1.1, Nat.lt_of_lt_of_le hp.1.2 hb.size⟩, hp.2⟩) (fun b o _ hlt => hb.cell (p := ⟨b, o, none⟩) hlt)⟩
theorem AccT.holds {w : World} {base : Nat} {v : Value} {t : Tab} (h : AccT w base v t) : HoldsT w (Btw base w.heap.size) v t := by
  obtain ⟨xs, hl, ho, hr⟩ := h
  rcases owns_cells ho hl with ⟨rfl, h0⟩ | ⟨g, cap, rfl, hg, hlt, hcap, hmx, hel⟩
  · obtain rfl := List.eq_nil_of_length_eq_zero h0
    exact HoldsT.nil _ _
  · refine ⟨_, cap, rfl, hcap, hmx, fun i r hi => ?_⟩
    have hlt2 : i < t.length := (List.getElem?_eq_some_iff.1 hi).1
    have hxi : xs[i]? = some xs[i] := List.getElem?_eq_getElem (by omega)
    refine ⟨g, 0, _, rfl, ⟨hg, hlt⟩, ?_, (hr i _ r hxi hi).keep (fun _ hp _ => hp.1) (fun _ _ _ _ => rfl)⟩
    rw [Nat.zero_add]
    exact hel i _ hxi
/-- One row more: 'append' at a table that the call builds. -/
theorem AccT.append {w : World} {ops : Array Oper} {rest : List Oper} {o : Oper} {a : Act} {Q : Exit → Act → World → Prop} (hgd : o.guard = none) (s x : Operand)
    (ho : o.op = .call { callee := .builtin .append, args := #[s, x], argTypes := #[22, 22] }) (base : Nat) (v : Value) (t : Tab) (hs : a.eval s = v) (h : AccT w base v t)
    (ad : Addr) (xr : Value) (r : Row) (hx : a.eval x = .slice (some ad) 1 1) (hcell : w.cell? ad = some xr) (H : Nat) (hr : HoldsS w (Btw H w.heap.size) xr r) (hH : base ≤ H) (hq : ∀ q, v.ownBlock = some q → q < H) (hone : xr.oneCell' = true)
    (hlen : t.length ≤ 999) (hbase : base ≤ w.heap.size) (hK : ∀ v' w', AccT w' base v' (t ++ [r]) → w.grownBy w' v.ownBlock → wpList Try.prog ops Q rest (a.put o.dst v') w') : wpList Try.prog ops Q (o :: rest) a w := by
  obtain ⟨i0, hi, hz0, hz1, hz2⟩ := info_parts infoTexts
  obtain ⟨xs, hl, hown, hrs⟩ := h
  refine wpList_append_lies w hgd s x 22 ho base 29 i0 (.slice none 0 0) 1 24 Try.underlying22 hi hz0 hz1 hz2 rfl (by decide) v t.length xs hs hown ad 1 1 [xr] hx rfl (fun j u hu => ?_) (fun u hu => by simp at hu; subst hu; exact hone)
    (by decide) (by unfold maxLen; omega) (by omega) hbase w.heap.size rfl fun g cap w' h1 hg hat hlt => hK _ w' ?_ hg
  · match j, hu with
    | 0, hu => simp at hu; subst hu; simpa [Addr.add] using hcell
    | j + 1, hu => simp at hu
  · have hs := hg.size
    refine ⟨xs ++ [xr], by simp [hl], ?_, fun i y ry h2 h3 => ?_⟩
    · rw [List.length_append]
      exact h1
    · by_cases hit : i < t.length
      · rw [List.getElem?_append_left (by omega)] at h2 h3
        refine (hrs i y ry h2 h3).keep (fun q hp _ => ⟨⟨hp.1.1, Nat.lt_of_lt_of_le hp.1.2 hs⟩, ?_⟩) (fun q o hp _ => hg.cell_far ⟨q, o, none⟩ hp.1.2 (Ne.symm hp.2))
        simp only [Value.ownBlock, ne_eq, Option.some.injEq]
        rintro rfl
        rcases hat with h | h
        · exact hp.2 h
        · have := hp.1.2; omega
      · rw [List.getElem?_append_right (by omega)] at h2 h3
        rw [hl] at h2
        obtain ⟨hi0, rfl⟩ : i - t.length = 0 ∧ r = ry := by
          match hd : i - t.length, h3 with
          | 0, h3 => simp at h3; exact ⟨rfl, h3⟩
          | k + 1, h3 => simp at h3
        rw [hi0] at h2
        simp at h2
        subst h2
        refine hr.keep (fun q hp _ => ⟨⟨Nat.le_trans hH hp.1, Nat.lt_of_lt_of_le hp.2 hs⟩, ?_⟩) (fun q o hp _ => hg.cell_far ⟨q, o, none⟩ hp.2 (fun e => by have := hq q e.symm; have := hp.1; omega))
        simp only [Value.ownBlock, ne_eq, Option.some.injEq]
        rintro rfl
        rcases hat with h | h
        · have := hq _ h; have := hp.1; omega
        · have := hp.2; omega

set_option maxRecDepth 100000 in
set_option maxHeartbeats 800000 in
theorem rlist_any (x : Value) (l : List ByteArray) (w : World) (B : Nat) (hx : HoldsS w (· < B) x l) (hB : B ≤ w.heap.size) (hl : l.length ≤ 100) :
    Calls Try.prog 55 #[x] w fun e w' => (∃ v, e = .returned v ∧ OwnS w' w.heap.size v l) ∧ Below w.heap.size w w' := by
  have HX := Lib.hid (hx.later ((Below.refl B w).alloc hB (.cells #[] 9)))
  obtain ⟨oa, ca, rfl, _, _⟩ := hx.form
  clear hx
  go_enter Try.func55, Try.ntmps55
  go_wp2_with (at_builtin; refine append_src rfl _ _ rfl w.heap.size _ [] rfl (own_empty w) oa l.length ca rfl l rfl HX.out.src ?c0 ?c1 ?_)
  case c0 => simp; omega
  case c1 => simp
  intro v2 w2 hown2 hgrow2
  have hb2 := below_grownT (below1 w _) (by simp) (own_empty w) hgrow2
  have HO := Lib.hid hown2
  clear hown2 hgrow2
  go_wp2_with fail
  go_ret
  exact ⟨⟨_, rfl, by simpa using HO.out⟩, hb2⟩

end Go.Proofs.Ytampofpllijfhaa
