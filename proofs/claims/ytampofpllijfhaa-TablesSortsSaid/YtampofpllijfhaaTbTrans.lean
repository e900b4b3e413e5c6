/-
  Transpose of both. Nothing is assumed.
-/
import Derived.Test.YtampofpllijfhaaTbRow
namespace Go.Proofs.Ytampofpllijfhaa
open Go.RowKit

/-- What Transpose returns. -/
def transT (t : Tab) : Tab := if chkT t = 0 then (List.range (colsT t)).map (colOf t) else []
def transK (t : Tab) (k : Nat) : Tab := (List.range k).map (colOf t)
theorem transK_len (t : Tab) (k : Nat) : (transK t k).length = k := by simp [transK]
theorem transK_next (t : Tab) (k : Nat) : transK t (k + 1) = transK t k ++ [colOf t k] := by simp [transK, List.range_succ]
theorem transK_at (t : Tab) (k i : Nat) (r : Row) (h : (transK t k)[i]? = some r) : i < k ∧ r = colOf t i := by
  unfold transK at h
  rw [List.getElem?_map] at h
  have hi : i < k := by
    rcases Nat.lt_or_ge i k with hi | hi
    · exact hi
    · rw [List.getElem?_eq_none (by simp; omega)] at h; cases h
  rw [List.getElem?_eq_getElem (by simpa using hi)] at h
  simp at h
  exact ⟨hi, h.symm⟩

/-- A row of rows that is filled from its head on: the rows lie beside it. -/
def RowsT (w : World) (H g n : Nat) (t : Tab) : Prop :=
  ∃ xs : List Value, xs.length = t.length ∧ Row1 w 29 g n xs ∧ ∀ (i : Nat) x r, xs[i]? = some x → t[i]? = some r → HoldsS w (fun b => Btw H w.heap.size b ∧ b ≠ g) x r
theorem RowsT.nil {w : World} {H g n : Nat} (h : Row1 w 29 g n []) : RowsT w H g n [] := ⟨[], rfl, h, fun i x r h => by simp at h⟩
theorem RowsT.lt {w : World} {H g n : Nat} {t : Tab} (h : RowsT w H g n t) : g < w.heap.size := by
  obtain ⟨_, _, hr, _⟩ := h
  exact hr.lt
theorem RowsT.later {w w' : World} {H g n : Nat} {t : Tab} (h : RowsT w H g n t) (hb : Below w.heap.size w w') : RowsT w' H g n t := by
  obtain ⟨xs, hl, hr, hx⟩ := h
  exact ⟨xs, hl, hr.later hb hr.lt, fun i x r h1 h2 => (hx i x r h1 h2).keep (fun b hp _ => ⟨⟨hp.1.1, Nat.lt_of_lt_of_le hp.1.2 hb.size⟩, hp.2⟩) (fun b o _ hlt => hb.cell (p := ⟨b, o, none⟩) hlt)⟩
theorem RowsT.step {w : World} {H g n k : Nat} {t : Tab} {x : Value} {r : Row} (h : RowsT w H g n t) (hk : k < n) (ho : t.length = k) (hr : HoldsS w (fun b => Btw H w.heap.size b ∧ b ≠ g) x r) : RowsT (w.setCell ⟨g, k, none⟩ x) H g n (t ++ [r]) := by
  obtain ⟨xs, hl, h1, hx⟩ := h
  have hsz : (w.setCell ⟨g, k, none⟩ x).heap.size = w.heap.size := by simp [World.setCell]
  have move : ∀ {y : Value} {q : Row}, HoldsS w (fun b => Btw H w.heap.size b ∧ b ≠ g) y q → HoldsS (w.setCell ⟨g, k, none⟩ x) (fun b => Btw H (w.setCell ⟨g, k, none⟩ x).heap.size b ∧ b ≠ g) y q := fun hy =>
    hy.keep (fun b hp _ => ⟨by rw [hsz]; exact hp.1, hp.2⟩) (fun b o hp _ => World.cell?_setCell_other _ _ _ _ (by intro e; injection e with e1; exact hp.2 e1.symm))
  refine ⟨xs ++ [x], by simp [hl], h1.step (by omega) (by omega) x, fun i y q h2 h3 => ?_⟩
  by_cases hit : i < t.length
  · rw [List.getElem?_append_left (by omega)] at h2 h3
    exact move (hx i y q h2 h3)
  · rw [List.getElem?_append_right (by omega)] at h2 h3
    rw [hl] at h2
    obtain ⟨hi0, rfl⟩ : i - t.length = 0 ∧ r = q := by
      match hd : i - t.length, h3 with
      | 0, h3 => simp at h3; exact ⟨rfl, h3⟩
      | k + 1, h3 => simp at h3
    rw [hi0] at h2
    simp at h2
    subst h2
    exact move hr
theorem RowsT.holds {w : World} {H g n : Nat} {t : Tab} (h : RowsT w H g n t) (hl : t.length = n) (hm : n ≤ 1000) (hg : H ≤ g) : HoldsT w (Btw H w.heap.size) (.slice (some ⟨g, 0, none⟩) n n) t := by
  have hlt := h.lt
  obtain ⟨xs, hx, h1, hr⟩ := h
  exact h1.table hl (by omega) hm ⟨hg, hlt⟩ (fun i x r h1 h2 => (hr i x r h1 h2).keep (fun _ hp _ => hp.1) (fun _ _ _ _ => rfl))

/-- A table of the call's own. -/
def RetT (w w' : World) (t : Tab) (e : Ending) : Prop := ∃ v, e = .returned v ∧ HoldsT w' (Btw w.heap.size w'.heap.size) v t
theorem RetT.nil {w w' : World} {t : Tab} (h : t = []) : RetT w w' t (.returned (.slice none 0 0)) := by
  subst h
  exact ⟨_, rfl, HoldsT.nil _ _⟩
theorem RetT.mk {w w' : World} {t u : Tab} {v : Value} (h : HoldsT w' (Btw w.heap.size w'.heap.size) v t) (he : t = u) : RetT w w' u (.returned v) := by
  subst he
  exact ⟨_, rfl, h⟩

set_option maxRecDepth 100000 in
set_option maxHeartbeats 1600000 in
theorem Transpose_any (x : Value) (t : List (List ByteArray)) (w : World) (B : Nat) (hx : HoldsT w (· < B) x t) (hB : B ≤ w.heap.size) :
    Calls Try.prog 16 #[x] w fun e w' => RetT w w' (transT t) e ∧ Below w.heap.size w w' := by
  obtain ⟨i0, hi0, hz0, hz1, hz2⟩ := info_parts infoTexts
  have HC := Lib.hid (chk_any x t w (· < B) hx)
  have HK := Lib.hid (cols_any x t w (· < B) hx)
  have HX := Lib.hid hx
  obtain ⟨oa, ca, rfl, _, _⟩ := hx.form
  clear hx
  by_cases hc0 : chkT t = 0
  · have fc := neq_fT hc0
    have HT : Hid (transT t = transK t (colsT t)) := Lib.hid (if_pos hc0)
    have HV := Lib.hid hc0
    have hc8 := colsT_le hc0
    obtain ⟨n, hn⟩ : ∃ n, colsT t = n := ⟨_, rfl⟩
    rw [hn] at HK HT hc8
    have HN := Lib.hid hn
    clear hc0 hn
    go_enter Try.func16, Try.ntmps16
    go_wp2_with fail
    refine HC.out.mono ?_
    rintro e w' ⟨rfl, rfl⟩
    go_wp2_with fail
    refine HK.out.mono ?_
    rintro e w' ⟨rfl, rfl⟩
    go_wp2_with (at_make; refine wpList_make_full _ rfl _ _ 22 rfl w.heap.size 29 i0 _ 1 Try.underlying22 hi0 hz0 hz1 _ _ _ _ n rfl rfl rfl rfl ?b2 ?b3 (Nat.le_refl _) ?_)
    case b2 => rw [hz2]; omega
    case b3 => unfold maxLen; omega
    intro w1 hown hgrow
    have hrow : RowsT w1 w.heap.size w.heap.size n (transK t 0) := RowsT.nil (Row1.made hown)
    have hg1 : w.heap.size < w1.heap.size := hrow.lt
    have hbw1 : Below w.heap.size w w1 := ((Below.refl _ _).grown hgrow (Nat.le_refl _) (fun k h => by cases h))
    clear hown hgrow
    go_wp2_with fail
    go_loopw [13] (fun j wr => ∃ k : Nat, k ≤ n ∧ j = .int .i64 k ∧ Hid (RowsT wr w.heap.size w.heap.size n (transK t k)) ∧ Below w.heap.size w wr) (fun j _ => n - (intOf j).toNat)
    case atStart => exact ⟨0, Nat.zero_le _, rfl, Lib.hid hrow, hbw1⟩
    case round =>
      obtain ⟨k, hk, rfl, HR, hbel⟩ := hrel
      clear hrow hg1 hbw1
      have hsz := hbel.size
      by_cases hlt : k < n
      · have HCO := Lib.hid (cellsOf_any _ t k wr B (HX.out.later (hbel.mono hB)) (by omega) (chkT_rows HV.out).1 (cols_lt HV.out (by rw [HN.out]; exact hlt)))
        have hki0 : (0 : Int) ≤ (k : Int) := by omega
        have hki1 : (k : Int) < (n : Int) := by omega
        go_wp2_with fail
        refine HCO.out.mono ?_
        rintro e w2 ⟨⟨v, rfl, ho⟩, hb2⟩
        have HO := Lib.hid ho
        obtain ⟨ov, cv, rfl, _, _⟩ := ho.form
        have HR2 := Lib.hid (HR.out.later hb2)
        have hbel2 := hbel.trans (hb2.mono hsz)
        have hgl := HR.out.lt
        have hsz2 := hb2.size
        obtain ⟨u0, e0, z0⟩ : ∃ u, w2.cell? ⟨w.heap.size, k, none⟩ = some u ∧ w2.frozen? ⟨w.heap.size, k, none⟩ = false := by
          obtain ⟨xs, _, h1, _⟩ := HR2.out
          exact h1.cell k hlt
        clear ho HR
        go_wp2_with fail
        refine ⟨⟨k + 1, hlt, by go_num, ?_, hbel2.setCell (p := ⟨w.heap.size, k, none⟩) (Nat.le_refl _) _⟩, by simp [intOf]; omega⟩
        refine Lib.hid ?_
        rw [transK_next]
        exact HR2.out.step hlt (transK_len t k) (HO.out.keep (fun b hp _ => ⟨⟨Nat.le_trans hsz hp.1, hp.2⟩, by have := hp.1; omega⟩) (fun _ _ _ _ => rfl))
      · obtain rfl : k = n := by omega
        go_wp2_with fail
        go_ret
        exact ⟨RetT.mk (HR.out.holds (transK_len t k) (by omega) (Nat.le_refl _)) HT.out.symm, hbel⟩
  · have fc := neq_tT hc0
    have HT : Hid (transT t = []) := Lib.hid (if_neg hc0)
    clear hc0
    go_enter Try.func16, Try.ntmps16
    go_wp2_with fail
    refine HC.out.mono ?_
    rintro e w' ⟨rfl, rfl⟩
    go_wp2_with fail
    go_ret
    exact ⟨RetT.nil HT.out, Below.refl _ _⟩

set_option maxRecDepth 100000 in
set_option maxHeartbeats 1600000 in
theorem rTranspose_any (x : Value) (t : List (List ByteArray)) (w : World) (B : Nat) (hx : HoldsT w (· < B) x t) (hB : B ≤ w.heap.size) :
    Calls Try.prog 17 #[x] w fun e w' => RetT w w' (transT t) e ∧ Below w.heap.size w w' := by
  have HC := Lib.hid (rchk_any x t w B hx hB)
  have HX := Lib.hid hx
  obtain ⟨oa, ca, rfl, _, _⟩ := hx.form
  clear hx
  by_cases hc0 : chkT t = 0
  · have fc := neq_fT hc0
    have HT : Hid (transT t = transK t (colsT t)) := Lib.hid (if_pos hc0)
    have HV := Lib.hid hc0
    have hc8 := colsT_le hc0
    obtain ⟨n, hn⟩ : ∃ n, colsT t = n := ⟨_, rfl⟩
    rw [hn] at HT hc8
    have HN := Lib.hid hn
    clear hc0 hn
    go_enter Try.func17, Try.ntmps17
    go_wp2_with fail
    refine HC.out.mono ?_
    rintro e w1 ⟨rfl, hb1⟩
    have HB1 := Lib.hid hb1
    clear hb1
    go_wp2_with fail
    go_loopw [3, 4] (fun v j wr => ∃ k : Nat, k ≤ n ∧ j = .int .i64 k ∧ Hid (AccT wr w.heap.size v (transK t k)) ∧ Below w.heap.size w wr) (fun _ j _ => n - (intOf j).toNat)
    case atStart => exact ⟨0, Nat.zero_le _, rfl, Lib.hid (AccT.nil _ _), HB1.out⟩
    case round =>
      obtain ⟨k, hk, rfl, HA, hbel⟩ := hrel
      have hsz := hbel.size
      have HXW := Lib.hid (HX.out.later (hbel.mono hB))
      have HK := Lib.hid (rcols_any _ t wr _ HXW.out)
      rw [HN.out] at HK
      by_cases hlt : k < n
      · have HCO := Lib.hid (rcolumn_any _ t k wr B HXW.out (by omega) (chkT_rows HV.out).1 (cols_lt HV.out (by rw [HN.out]; exact hlt)))
        have hki0 : (0 : Int) ≤ (k : Int) := by omega
        have hki1 : (k : Int) < (n : Int) := by omega
        go_wp2_with fail
        refine HK.out.mono ?_
        rintro e w' ⟨rfl, rfl⟩
        go_wp2_with fail
        refine HCO.out.mono ?_
        rintro e w2 ⟨⟨v, rfl, ho⟩, hb2⟩
        have HO := Lib.hid (ho.holds)
        obtain ⟨ov, cv, rfl⟩ := owns_form ho
        have HA2 := Lib.hid ((HA.out.later hb2).later (below1 w2 (.cells #[(.slice ov (colOf t k).length cv)] 29)))
        have hq := HA.out.lt
        have HQ := Lib.hid hq
        have hbel2 := hbel.trans (hb2.mono hsz)
        have hsz2 := hb2.size
        have HO2 : Hid (HoldsS (w2.alloc (.cells #[(.slice ov (colOf t k).length cv)] 29)) (Btw wr.heap.size (w2.alloc (.cells #[(.slice ov (colOf t k).length cv)] 29)).heap.size) (.slice ov (colOf t k).length cv) (colOf t k)) := Lib.hid (HO.out.keep (fun b hp _ => ⟨hp.1, by have := hp.2; simp; omega⟩) (fun b o _ hl => (below1 w2 _).cell (p := ⟨b, o, none⟩) hl))
        clear ho hq HA HO
        have hlen := transK_len t k
        have HLN := Lib.hid hlen
        clear hlen
        go_wp2_with (at_builtin; refine AccT.append rfl _ _ rfl w.heap.size _ _ rfl HA2.out ⟨w2.heap.size, 0, none⟩ (.slice ov (colOf t k).length cv) (colOf t k) rfl (by simp) wr.heap.size HO2.out hsz (fun q hq => (HQ.out q hq).2) rfl ?c0 ?c1 ?_)
        case c0 => rw [HLN.out]; omega
        case c1 => simp; omega
        intro v3 w3 hacc hgrow
        have hb3 := (hbel2.alloc (by omega : w.heap.size ≤ w2.heap.size) (.cells #[(.slice ov (colOf t k).length cv)] 29)).grown hgrow (by simp; omega) (fun q hq => (HA2.out.lt q hq).1)
        have HA3 := Lib.hid hacc
        clear hacc hgrow
        go_wp2_with fail
        go_roundw
        case rel => exact ⟨k + 1, hlt, by go_num, Lib.hid (by rw [transK_next]; exact HA3.out), hb3⟩
        case measure => simp [intOf]; omega
      · obtain rfl : k = n := by omega
        go_wp2_with fail
        refine HK.out.mono ?_
        rintro e w' ⟨rfl, rfl⟩
        go_wp2_with fail
        go_ret
        exact ⟨RetT.mk HA.out.holds HT.out.symm, hbel⟩
  · have fc := neq_tT hc0
    have HT : Hid (transT t = []) := Lib.hid (if_neg hc0)
    clear hc0
    go_enter Try.func17, Try.ntmps17
    go_wp2_with fail
    refine HC.out.mono ?_
    rintro e w1 ⟨rfl, hb1⟩
    go_wp2_with fail
    go_ret
    exact ⟨RetT.nil HT.out, hb1⟩

end Go.Proofs.Ytampofpllijfhaa
