/-
  Append of a table's rows; Stack of the reference; without and DropRow of both. Nothing is assumed.
-/
import Derived.Test.YtampofpllijfhaaTbStack
import Derived.Test.YtampofpllijfhaaTbPure
import Derived.Maps.AppendAt
namespace Go.Proofs.Ytampofpllijfhaa
open Go.RowKit

theorem HoldsT.take {w : World} {P : Nat → Prop} {n c k : Nat} {oa : Option Addr} {t : Tab} (h : HoldsT w P (.slice oa n c) t) (hk : k ≤ n) : HoldsT w P (.slice oa k c) (t.take k) := by
  obtain ⟨h1, h2, h3⟩ := h.len
  have hlen : (t.take k).length = k := by simp; omega
  refine ⟨oa, c, by rw [hlen], by omega, h3, fun i z hz => ?_⟩
  rw [List.getElem?_take] at hz
  split at hz
  · obtain ⟨b, off, o, cr, he, hp, hc, hr⟩ := h.at_ hz
    exact ⟨b, off, _, he, hp, hc, hr⟩
  · cases hz
theorem HoldsT.drop {w : World} {P : Nat → Prop} {n c k b off : Nat} {t : Tab} (h : HoldsT w P (.slice (some ⟨b, off, none⟩) n c) t) (hk : k ≤ n) : HoldsT w P (.slice (some ⟨b, off + k, none⟩) (n - k) (c - k)) (t.drop k) := by
  obtain ⟨h1, h2, h3⟩ := h.len
  refine ⟨_, c - k, by rw [List.length_drop, h1], by simp; omega, by omega, fun i z hz => ?_⟩
  rw [List.getElem?_drop] at hz
  obtain ⟨b', off', o, cr, he, hp, hcc, hr⟩ := h.at_ hz
  cases he
  exact ⟨b, off + k, _, rfl, hp, by rw [Nat.add_assoc]; exact hcc, hr⟩
theorem HoldsT.empty (w : World) (P : Nat → Prop) (oa : Option Addr) : HoldsT w P (.slice oa 0 0) [] := ⟨oa, 0, rfl, Nat.le_refl _, by omega, fun i z h => by simp at h⟩
/-- The rows of a table as they lie in memory. -/
theorem HoldsT.rows {w : World} {P : Nat → Prop} {n c b off : Nat} {t : Tab} (h : HoldsT w P (.slice (some ⟨b, off, none⟩) n c) t) :
    ∃ xs : List Value, xs.length = t.length ∧ (∀ (i : Nat) x, xs[i]? = some x → w.cell? ⟨b, off + i, none⟩ = some x ∧ x.oneCell' = true) ∧ ∀ (i : Nat) x r, xs[i]? = some x → t[i]? = some r → HoldsS w P x r := by
  refine ⟨(List.range t.length).map fun i => (w.cell? ⟨b, off + i, none⟩).getD undef, by simp, fun i x hx => ?_, fun i x r hx hr => ?_⟩
  · have hi : i < t.length := by have := (List.getElem?_eq_some_iff.1 hx).1; simpa using this
    obtain ⟨b', off', o, cr, he, _, hc, _⟩ := h.at_ (List.getElem?_eq_getElem hi)
    cases he
    rw [List.getElem?_map, List.getElem?_range hi] at hx
    simp [hc] at hx
    subst hx
    exact ⟨hc, rfl⟩
  · have hi : i < t.length := (List.getElem?_eq_some_iff.1 hr).1
    obtain ⟨b', off', o, cr, he, _, hc, hh⟩ := h.at_ hr
    cases he
    rw [List.getElem?_map, List.getElem?_range hi] at hx
    simp [hc] at hx
    subst hx
    exact hh

/-- 'append(s, x...)' at a table that the call builds. -/
theorem AccT.appends {w : World} {ops : Array Oper} {rest : List Oper} {o : Oper} {a : Act} {Q : Exit → Act → World → Prop} (hgd : o.guard = none) (s x : Operand)
    (ho : o.op = .call { callee := .builtin .append, args := #[s, x], argTypes := #[22, 22] }) (base : Nat) (v : Value) (t : Tab) (hs : a.eval s = v) (h : AccT w base v t)
    (oa : Option Addr) (m c : Nat) (u : Tab) (hx : a.eval x = .slice oa m c) (hu : HoldsT w (fun b => base ≤ b ∧ v.ownBlock ≠ some b) (.slice oa m c) u)
    (hlen : t.length + u.length ≤ 999) (hbase : base ≤ w.heap.size) (hK : ∀ v' w', AccT w' base v' (t ++ u) → w.grownBy w' v.ownBlock → wpList Try.prog ops Q rest (a.put o.dst v') w') : wpList Try.prog ops Q (o :: rest) a w := by
  obtain ⟨i0, hi, hz0, hz1, hz2⟩ := info_parts infoTexts
  have hm := hu.len.1
  by_cases hnil : u = []
  · subst hnil
    obtain rfl : m = 0 := hm.symm
    obtain ⟨xs, hl, hown, hrs⟩ := h
    refine wpList_plain hgd fun K hK' => ?_
    have hrun : (Builtin.append_ #[22, 22] o.type #[v, .slice oa 0 c]).run Try.prog w = .ok v w := by
      rcases hown.2 with ⟨rfl, h0⟩ | ⟨g, cap, cur, rfl, _, _, hnc, _⟩
      · cases oa <;> simp [Builtin.append_, run_underlying Try.underlying22, sizeOf, typeInfo, hi, Builtin.lenOf, Builtin.firstCells, loadCells, loadCellsFrom, Result.andThen]
      · cases oa <;> simp [Builtin.append_, run_underlying Try.underlying22, sizeOf, typeInfo, hi, Builtin.lenOf, Builtin.firstCells, hnc, storeCells, loadCells, loadCellsFrom, Result.andThen]
    unfold Oper.wp
    simp [execOp, ho, resolve, invoke, builtin, hs, hx, hrun, Result.andThen]
    exact hK' _ _ (hK v w (by rw [List.append_nil]; exact ⟨xs, hl, hown, hrs⟩) (World.grownBy.refl w _))
  · have hpos : 0 < u.length := List.length_pos_iff.2 hnil
    obtain ⟨b, off, _, _, rfl, _, _, _⟩ := hu.at_ (List.getElem?_eq_getElem hpos)
    obtain ⟨ys, hyl, hyc, hyr⟩ := hu.rows
    obtain ⟨xs, hl, hown, hrs⟩ := h
    refine wpList_append_own_at w hgd s x 22 ho base 29 i0 (.slice none 0 0) 1 24 Try.underlying22 hi hz0 hz1 hz2 rfl (by decide) v t.length xs hs hown ⟨b, off, none⟩ m c ys hx (by omega) (fun j z hz => ?_) (fun z hz => ?_)
      (by unfold maxLen; omega) (by omega) hbase fun v' w' h1 hg _ hat => hK v' w' ?_ hg
    · have := (hyc j z hz).1
      unfold Addr.add
      split
      · rename_i h0; subst h0; exact this
      · exact this
    · obtain ⟨j, hj⟩ := List.getElem?_of_mem hz
      exact (hyc j z hj).2
    · have hs := hg.size
      have hoff : ∀ q, base ≤ q → q < w.heap.size → v.ownBlock ≠ some q → Off base w'.heap.size v'.ownBlock q := fun q h2 h3 h4 => ⟨⟨h2, Nat.lt_of_lt_of_le h3 hs⟩, by
        rcases hat with h5 | h5
        · rw [h5]; exact h4
        · rw [h5]; intro e; cases e; omega⟩
      refine ⟨xs ++ ys, by simp [hl, hyl], by rw [List.length_append, hm]; exact h1, fun i y r h2 h3 => ?_⟩
      by_cases hit : i < t.length
      · rw [List.getElem?_append_left (by omega)] at h2 h3
        exact (hrs i y r h2 h3).keep (fun q hp _ => hoff q hp.1.1 hp.1.2 hp.2) (fun q o hp _ => hg.cell_far ⟨q, o, none⟩ hp.1.2 (Ne.symm hp.2))
      · rw [List.getElem?_append_right (by omega)] at h2 h3
        rw [hl] at h2
        exact (hyr _ y r h2 h3).keep (fun q hp hlt => hoff q hp.1 hlt hp.2) (fun q o hp hlt => hg.cell_far ⟨q, o, none⟩ hlt (Ne.symm hp.2))

set_option maxRecDepth 100000 in
set_option maxHeartbeats 1600000 in
theorem rStack_any (x y : Value) (a b : List (List ByteArray)) (w : World) (B : Nat) (hx : HoldsT w (· < B) x a) (hy : HoldsT w (· < B) y b) (hB : B ≤ w.heap.size) :
    Calls Try.prog 38 #[x, y] w fun e w' => RetTE w w' (stackV a b) (stackE a b) e ∧ Below w.heap.size w w' := by
  have HC := Lib.hid (rboth_any x y a b w B hx hy hB)
  have HX := Lib.hid hx
  have HY := Lib.hid hy
  obtain ⟨oa, ca, rfl, _, _⟩ := hx.form
  obtain ⟨ob, cb, rfl, _, _⟩ := hy.form
  clear hx hy
  by_cases h : bothE a b = 0
  · have fc := neq_fT h
    obtain ⟨h1, h2⟩ := bothE_ok h
    have la := (chkT_rows h1).1
    have lb := (chkT_rows h2).1
    have HRA : Hid (∀ r ∈ a, r.length ≤ 100) := Lib.hid (fun r hr => by have := ((chkT_rows h1).2 r hr).2.2.1; omega)
    have HRB : Hid (∀ r ∈ b, r.length ≤ 100) := Lib.hid (fun r hr => by have := ((chkT_rows h2).2 r hr).2.2.1; omega)
    by_cases hf : 0 < a.length ∧ 0 < b.length ∧ colsT a ≠ colsT b
    · have HV : Hid (stackE a b = 4 ∧ stackV a b = []) := Lib.hid ⟨stackE_form h hf, by unfold stackV; rw [stackE_form h hf]; rfl⟩
      obtain ⟨q1, q2, q3⟩ := hf
      have i1 : (0 : Int) < (a.length : Int) := by omega
      have i2 : (0 : Int) < (b.length : Int) := by omega
      have i3 : ((colsT a : Int) != (colsT b : Int)) = true := by rw [bne_iff_ne]; omega
      clear h h1 h2 q1 q2 q3
      go_enter Try.func38, Try.ntmps38
      go_wp2_with fail
      refine HC.out.mono ?_
      rintro e w1 ⟨rfl, hb1⟩
      have HA := Lib.hid (rcols_any _ a w1 (· < B) (HX.out.later (hb1.mono hB)))
      have HB := Lib.hid (rcols_any _ b w1 (· < B) (HY.out.later (hb1.mono hB)))
      have HB1 := Lib.hid hb1
      clear hb1
      go_wp2_with fail
      refine HA.out.mono ?_
      rintro e w' ⟨rfl, rfl⟩
      go_wp2_with fail
      refine HB.out.mono ?_
      rintro e w' ⟨rfl, rfl⟩
      go_wp2_with fail
      go_ret2
      exact ⟨RetTE.nil HV.out.2 HV.out.1.symm, HB1.out⟩
    have HCOL : Hid (0 < a.length → 0 < b.length → ((colsT a : Int) != (colsT b : Int)) = false) := Lib.hid (fun q1 q2 => by
      have q3 : colsT a = colsT b := by
        by_cases q3 : colsT a = colsT b
        · exact q3
        · exact absurd ⟨q1, q2, q3⟩ hf
      rw [q3]; simp)
    by_cases hs : 8 < a.length + b.length
    · have HV : Hid (stackE a b = 2 ∧ stackV a b = []) := Lib.hid ⟨stackE_size h hf hs, by unfold stackV; rw [stackE_size h hf hs]; rfl⟩
      have i1 : (0 : Int) < (a.length : Int) := by omega
      have i2 : (0 : Int) < (b.length : Int) := by omega
      have i3 := HCOL.out (by omega) (by omega)
      have i4 : (8 : Int) < (a.length : Int) + (b.length : Int) := by omega
      clear h h1 h2 hf hs
      go_enter Try.func38, Try.ntmps38
      go_wp2_with fail
      refine HC.out.mono ?_
      rintro e w1 ⟨rfl, hb1⟩
      have HA := Lib.hid (rcols_any _ a w1 (· < B) (HX.out.later (hb1.mono hB)))
      have HB := Lib.hid (rcols_any _ b w1 (· < B) (HY.out.later (hb1.mono hB)))
      have HB1 := Lib.hid hb1
      clear hb1
      go_wp2_with fail
      refine HA.out.mono ?_
      rintro e w' ⟨rfl, rfl⟩
      go_wp2_with fail
      refine HB.out.mono ?_
      rintro e w' ⟨rfl, rfl⟩
      go_wp2_with fail
      go_ret2
      exact ⟨RetTE.nil HV.out.2 HV.out.1.symm, HB1.out⟩
    have HV : Hid (stackE a b = 0 ∧ stackV a b = a ++ b) := Lib.hid ⟨stackE_ok h hf hs, by unfold stackV; rw [if_pos (stackE_ok h hf hs)]⟩
    have i4 : ¬ (8 : Int) < (a.length : Int) + (b.length : Int) := by omega
    clear h h1 h2 hf hs
    have HFIN : Hid (∀ (w1 : World) (v1 v2 : Value) (w2 w3 : World), Below w.heap.size w w1 → AccD w2 w1.heap.size v1 a → Below w1.heap.size w1 w2 → AccD w3 w2.heap.size v2 b → Below w2.heap.size w2 w3 →
        AccT w3 w1.heap.size v1 a ∧ HoldsT w3 (fun q => w1.heap.size ≤ q ∧ v1.ownBlock ≠ some q) v2 b ∧ Below w.heap.size w w3) := Lib.hid (fun w1 v1 v2 w2 w3 g0 g1 g2 g3 g4 => by
      refine ⟨g1.toT.later g4, (g3.toT.holds).keep (fun q hp _ => ⟨by have := hp.1; have := g2.size; omega, fun e => ?_⟩) (fun _ _ _ _ => rfl), g0.trans ((g2.trans (g4.mono g2.size)).mono g0.size)⟩
      have := (g1.lt q e).2
      have := hp.1
      omega)
    by_cases i12 : 0 < (a.length : Int) ∧ 0 < (b.length : Int)
    · obtain ⟨i1, i2⟩ := i12
      have i3 := HCOL.out (by omega) (by omega)
      go_enter Try.func38, Try.ntmps38
      go_wp2_with fail
      refine HC.out.mono ?_
      rintro e w1 ⟨rfl, hb1⟩
      have HA := Lib.hid (rcols_any _ a w1 (· < B) (HX.out.later (hb1.mono hB)))
      have HB := Lib.hid (rcols_any _ b w1 (· < B) (HY.out.later (hb1.mono hB)))
      have HB1 := Lib.hid hb1
      clear hb1
      go_wp2_with fail
      refine HA.out.mono ?_
      rintro e w' ⟨rfl, rfl⟩
      go_wp2_with fail
      refine HB.out.mono ?_
      rintro e w' ⟨rfl, rfl⟩
      have HTA := Lib.hid (rtable_any _ a w1 B (HX.out.later (HB1.out.mono hB)) (Nat.le_trans hB HB1.out.size) (by omega) HRA.out)
      go_wp2_with fail
      refine HTA.out.mono ?_
      rintro e w2 ⟨⟨v1, rfl, h1⟩, hb2⟩
      have hb02 := HB1.out.trans (hb2.mono HB1.out.size)
      have HTB := Lib.hid (rtable_any _ b w2 B (HY.out.later (hb02.mono hB)) (Nat.le_trans hB hb02.size) (by omega) HRB.out)
      have H1 := Lib.hid h1
      have HB2 := Lib.hid hb2
      obtain ⟨o1, c1, rfl⟩ := h1.form
      clear h1 hb2 hb02
      go_wp2_with fail
      refine HTB.out.mono ?_
      rintro e w3 ⟨⟨v2, rfl, h2⟩, hb3⟩
      have HF := Lib.hid (HFIN.out w1 _ _ w2 w3 HB1.out H1.out HB2.out h2 hb3)
      obtain ⟨o2, c2, rfl⟩ := h2.form
      have hs3 : w1.heap.size ≤ w3.heap.size := Nat.le_trans HB2.out.size hb3.size
      clear h2 hb3
      go_wp2_with (at_builtin; refine AccT.appends rfl _ _ rfl w1.heap.size _ a rfl HF.out.1 o2 b.length c2 b rfl HF.out.2.1 ?c0 hs3 ?_)
      case c0 => omega
      intro v4 w4 h4 hg4
      have HB4 := Lib.hid (HF.out.2.2.grown hg4 (Nat.le_trans HB1.out.size hs3) (fun q hq => Nat.le_trans HB1.out.size (HF.out.1.lt q hq).1))
      have H4 := Lib.hid h4
      clear h4 hg4
      go_wp2_with fail
      go_ret2
      exact ⟨RetTE.mk (H4.out.holds.keep (fun q hp _ => ⟨Nat.le_trans HB1.out.size hp.1, hp.2⟩) (fun _ _ _ _ => rfl)) HV.out.2.symm HV.out.1.symm, HB4.out⟩
    · by_cases i1' : ¬ 0 < (a.length : Int)
      · clear i12
        go_enter Try.func38, Try.ntmps38
        go_wp2_with fail
        refine HC.out.mono ?_
        rintro e w1 ⟨rfl, hb1⟩
        have HB1 := Lib.hid hb1
        clear hb1
        have HTA := Lib.hid (rtable_any _ a w1 B (HX.out.later (HB1.out.mono hB)) (Nat.le_trans hB HB1.out.size) (by omega) HRA.out)
        go_wp2_with fail
        refine HTA.out.mono ?_
        rintro e w2 ⟨⟨v1, rfl, h1⟩, hb2⟩
        have hb02 := HB1.out.trans (hb2.mono HB1.out.size)
        have HTB := Lib.hid (rtable_any _ b w2 B (HY.out.later (hb02.mono hB)) (Nat.le_trans hB hb02.size) (by omega) HRB.out)
        have H1 := Lib.hid h1
        have HB2 := Lib.hid hb2
        obtain ⟨o1, c1, rfl⟩ := h1.form
        clear h1 hb2 hb02
        go_wp2_with fail
        refine HTB.out.mono ?_
        rintro e w3 ⟨⟨v2, rfl, h2⟩, hb3⟩
        have HF := Lib.hid (HFIN.out w1 _ _ w2 w3 HB1.out H1.out HB2.out h2 hb3)
        obtain ⟨o2, c2, rfl⟩ := h2.form
        have hs3 : w1.heap.size ≤ w3.heap.size := Nat.le_trans HB2.out.size hb3.size
        clear h2 hb3
        go_wp2_with (at_builtin; refine AccT.appends rfl _ _ rfl w1.heap.size _ a rfl HF.out.1 o2 b.length c2 b rfl HF.out.2.1 ?c0 hs3 ?_)
        case c0 => omega
        intro v4 w4 h4 hg4
        have HB4 := Lib.hid (HF.out.2.2.grown hg4 (Nat.le_trans HB1.out.size hs3) (fun q hq => Nat.le_trans HB1.out.size (HF.out.1.lt q hq).1))
        have H4 := Lib.hid h4
        clear h4 hg4
        go_wp2_with fail
        go_ret2
        exact ⟨RetTE.mk (H4.out.holds.keep (fun q hp _ => ⟨Nat.le_trans HB1.out.size hp.1, hp.2⟩) (fun _ _ _ _ => rfl)) HV.out.2.symm HV.out.1.symm, HB4.out⟩
      · have i1 : 0 < (a.length : Int) := by omega
        have i2 : ¬ 0 < (b.length : Int) := by omega
        by_cases i3 : True
        · clear i12 i1'
          go_enter Try.func38, Try.ntmps38
          go_wp2_with fail
          refine HC.out.mono ?_
          rintro e w1 ⟨rfl, hb1⟩
          have HB1 := Lib.hid hb1
          clear hb1
          have HTA := Lib.hid (rtable_any _ a w1 B (HX.out.later (HB1.out.mono hB)) (Nat.le_trans hB HB1.out.size) (by omega) HRA.out)
          go_wp2_with fail
          refine HTA.out.mono ?_
          rintro e w2 ⟨⟨v1, rfl, h1⟩, hb2⟩
          have hb02 := HB1.out.trans (hb2.mono HB1.out.size)
          have HTB := Lib.hid (rtable_any _ b w2 B (HY.out.later (hb02.mono hB)) (Nat.le_trans hB hb02.size) (by omega) HRB.out)
          have H1 := Lib.hid h1
          have HB2 := Lib.hid hb2
          obtain ⟨o1, c1, rfl⟩ := h1.form
          clear h1 hb2 hb02
          go_wp2_with fail
          refine HTB.out.mono ?_
          rintro e w3 ⟨⟨v2, rfl, h2⟩, hb3⟩
          have HF := Lib.hid (HFIN.out w1 _ _ w2 w3 HB1.out H1.out HB2.out h2 hb3)
          obtain ⟨o2, c2, rfl⟩ := h2.form
          have hs3 : w1.heap.size ≤ w3.heap.size := Nat.le_trans HB2.out.size hb3.size
          clear h2 hb3
          go_wp2_with (at_builtin; refine AccT.appends rfl _ _ rfl w1.heap.size _ a rfl HF.out.1 o2 b.length c2 b rfl HF.out.2.1 ?c0 hs3 ?_)
          case c0 => omega
          intro v4 w4 h4 hg4
          have HB4 := Lib.hid (HF.out.2.2.grown hg4 (Nat.le_trans HB1.out.size hs3) (fun q hq => Nat.le_trans HB1.out.size (HF.out.1.lt q hq).1))
          have H4 := Lib.hid h4
          clear h4 hg4
          go_wp2_with fail
          go_ret2
          exact ⟨RetTE.mk (H4.out.holds.keep (fun q hp _ => ⟨Nat.le_trans HB1.out.size hp.1, hp.2⟩) (fun _ _ _ _ => rfl)) HV.out.2.symm HV.out.1.symm, HB4.out⟩
        · exact absurd trivial i3
  · have fc := neq_tT h
    have HV : Hid (stackE a b = bothE a b ∧ stackV a b = []) := Lib.hid ⟨stackE_both h, by unfold stackV; rw [stackE_both h, if_neg h]⟩
    clear h
    go_enter Try.func38, Try.ntmps38
    go_wp2_with fail
    refine HC.out.mono ?_
    rintro e w1 ⟨rfl, hb1⟩
    go_wp2_with fail
    go_ret2
    exact ⟨RetTE.nil HV.out.2 HV.out.1.symm, hb1⟩

end Go.Proofs.Ytampofpllijfhaa
