/-
  column of the reference; Row, Column of both. Nothing is assumed.
-/
import Derived.Test.YtampofpllijfhaaTbOwn
namespace Go.Proofs.Ytampofpllijfhaa
open Go.RowKit

theorem colOf_next (t : Tab) (c k : Nat) (h : k < t.length) (hc : c < t[k].length) : colOf (t.take (k + 1)) c = colOf (t.take k) c ++ [t[k][c]] := by
  rw [take_snoc t k h]
  unfold colOf
  rw [List.map_append]
  congr 1
  simp [hc]
theorem colOf_tk (t : Tab) (c k : Nat) (h : k ≤ t.length) : (colOf (t.take k) c).length = k := by simp [colOf]; omega

set_option maxRecDepth 100000 in
set_option maxHeartbeats 1600000 in
theorem rcolumn_any (x : Value) (t : List (List ByteArray)) (c : Nat) (w : World) (B : Nat) (hx : HoldsT w (· < B) x t) (hB : B ≤ w.heap.size) (hl : t.length ≤ 8) (hc : ∀ r ∈ t, c < r.length) :
    Calls Try.prog 49 #[x, .int .i64 (c : Int)] w fun e w' => (∃ v, e = .returned v ∧ OwnS w' w.heap.size v (colOf t c)) ∧ Below w.heap.size w w' := by
  have HX := Lib.hid hx
  have HC := Lib.hid hc
  obtain ⟨oa, ca, rfl, _, _⟩ := hx.form
  clear hx hc
  go_enter Try.func49, Try.ntmps49
  go_wp2_with fail
  go_loopw [5, 6] (fun v j wr => ∃ k : Nat, k ≤ t.length ∧ j = .int .i64 k ∧ Hid (OwnS wr w.heap.size v (colOf (t.take k) c)) ∧ Below w.heap.size w wr) (fun _ j _ => t.length - (intOf j).toNat)
  case atStart => exact ⟨0, Nat.zero_le _, rfl, Lib.hid (OwnS.none _ _), Below.refl _ _⟩
  case round =>
    obtain ⟨k, hk, rfl, HO, hbel⟩ := hrel
    have HLN := Lib.hid (colOf_tk t c k hk)
    have hsz := hbel.size
    by_cases hlt : k < t.length
    · obtain ⟨b, off, o, cr, rfl, hb, h0, hrow⟩ := HX.out.at_ (List.getElem?_eq_getElem hlt)
      have hcl : c < t[k].length := HC.out _ (List.getElem_mem hlt)
      obtain ⟨b2, off2, rfl, hb2, h1⟩ := hrow.at_ (List.getElem?_eq_getElem hcl)
      rw [← hbel.cell (p := ⟨b, _, none⟩) (Nat.lt_of_lt_of_le hb hB)] at h0
      rw [← hbel.cell (p := ⟨b2, _, none⟩) (Nat.lt_of_lt_of_le hb2 hB)] at h1
      have HSN := Lib.hid (colOf_next t c k hlt hcl)
      have hki0 : (0 : Int) ≤ (k : Int) := by omega
      have hki1 : (k : Int) < (t.length : Int) := by omega
      have hci : (c : Int) < (t[k].length : Int) := by omega
      have hci0 : (0 : Int) ≤ (c : Int) := by omega
      clear hrow
      go_wp2_with (at_builtin; refine append_src rfl _ _ rfl w.heap.size _ _ rfl (HO.out.later (below1 _ _)) (some ⟨wr.heap.size, 0, none⟩) 1 1 rfl [t[k][c]] rfl (one_src _ _ _) ?c0 ?c1 ?_)
      case c0 => rw [HLN.out]; omega
      case c1 => simp; omega
      intro v2 w2 hown2 hgrow2
      have hb3 := below_grownT (hbel.alloc hsz _) (by simp; omega) (HO.out.later (below1 _ _)) hgrow2
      have HW := Lib.hid hown2
      clear hown2 hgrow2
      go_wp2_with fail
      go_roundw
      case rel => exact ⟨k + 1, hlt, by go_num, Lib.hid (by rw [HSN.out]; exact HW.out), hb3⟩
      case measure => simp [intOf]; omega
    · obtain rfl : k = t.length := by omega
      go_wp2_with fail
      go_ret
      exact ⟨⟨_, rfl, by have := HO.out; rw [List.take_length] at this; exact this⟩, hbel⟩

/-- What Row returns. -/
def rowV (t : Tab) (i : Int) : Row := if chkT t = 0 then ((idxO i t.length).bind fun k => t[k]?).getD [] else []
def colV (t : Tab) (i : Int) : Row := if chkT t = 0 then ((idxO i (colsT t)).map fun k => colOf t k).getD [] else []
/-- A list of texts of the call's own, and an error. -/
def RetSE (w w' : World) (l : Row) (n : Int) (e : Ending) : Prop := ∃ v, e = .returned (.tuple #[v, .int .i64 n]) ∧ HoldsS w' (Btw w.heap.size w'.heap.size) v l
theorem RetSE.nil {w w' : World} {l : Row} {n m : Int} (hl : l = []) (hn : n = m) : RetSE w w' l m (.returned (.tuple #[.slice none 0 0, .int .i64 n])) := by
  subst hl
  subst hn
  exact ⟨_, rfl, HoldsS.nil _ _⟩
theorem RetSE.mk {w w' : World} {l m : Row} {v : Value} {n k : Int} (h : HoldsS w' (Btw w.heap.size w'.heap.size) v l) (hl : l = m) (hn : n = k) : RetSE w w' m k (.returned (.tuple #[v, .int .i64 n])) := by
  subst hl
  subst hn
  exact ⟨_, rfl, h⟩
theorem part_one (w : World) (B : Nat) (x : Value) (r : Row) (h : HoldsS w (· < B) x r) (hB : B ≤ w.heap.size) : HoldsT (w.alloc (.cells #[x] 29)) (· < w.heap.size + 1) (.slice (some ⟨w.heap.size, 0, none⟩) 1 1) [r] := by
  refine ⟨_, 1, rfl, Nat.le_refl _, by omega, fun i y hi => ?_⟩
  match i, hi with
  | 0, hi =>
    simp at hi
    subst hi
    exact ⟨_, 0, x, rfl, by omega, by simp, (h.later (below1 w _ |>.mono hB)).mono (by omega)⟩
  | i + 1, hi => simp at hi
theorem cols_lt {t : Tab} {c : Nat} (h : chkT t = 0) (hc : c < colsT t) : ∀ r ∈ t, c < r.length := fun r hr => by
  rw [((chkT_rows h).2 r hr).1]
  exact hc

set_option maxRecDepth 100000 in
set_option maxHeartbeats 800000 in
theorem Row_any (x : Value) (t : List (List ByteArray)) (i : Int) (w : World) (B : Nat) (hx : HoldsT w (· < B) x t) (hB : B ≤ w.heap.size) (hi : I64 i) :
    Calls Try.prog 20 #[x, .int .i64 i] w fun e w' => RetSE w w' (rowV t i) (locE (chkT t) i t.length) e ∧ Below w.heap.size w w' := by
  have HC := Lib.hid (rowIndex_any x t i w (· < B) hx hi)
  have HX := Lib.hid hx
  obtain ⟨oa, ca, rfl, _, _⟩ := hx.form
  clear hx
  obtain ⟨V, hV⟩ : ∃ V, locV (chkT t) i t.length = V := ⟨_, rfl⟩
  obtain ⟨E, hE⟩ : ∃ E, locE (chkT t) i t.length = E := ⟨_, rfl⟩
  rw [hV, hE] at HC
  rw [hE]
  by_cases he0 : E = 0
  · obtain ⟨hc0, k, hko⟩ : chkT t = 0 ∧ ∃ k, idxO i t.length = some k := by
      unfold locE at hE
      split at hE
      · rename_i hc
        refine ⟨hc, ?_⟩
        unfold idxE at hE
        split at hE
        · rename_i h
          exact Option.isSome_iff_exists.1 h
        · omega
      · omega
    have hlt := idxO_lt hko
    obtain ⟨b, off, o, cr, rfl, hb, h0, hrow⟩ := HX.out.at_ (List.getElem?_eq_getElem hlt)
    have HV : Hid (rowV t i = t[k]) := Lib.hid (by unfold rowV; rw [if_pos hc0, hko]; simp [hlt])
    have hVk : V = (k : Int) := by rw [← hV]; unfold locV; rw [if_pos hc0, (idx_some hko).1]
    subst hVk
    have fc := neq_fT he0
    have HP := Lib.hid (part_one w B _ _ hrow hB)
    have hr8 := (chkT_rows hc0).2 _ (List.getElem_mem hlt)
    have HJ := Lib.hid (joined_any _ [t[k]] _ (w.heap.size + 1) HP.out (by simp) (by simp; omega) (by simp))
    have hfl : [t[k]].flatten = t[k] := by simp
    rw [hfl] at HJ
    have hki0 : (0 : Int) ≤ (k : Int) := by omega
    have hki1 : (k : Int) < (t.length : Int) := by omega
    have HN := Lib.hid hr8
    subst he0
    clear hrow hV hE hko hc0 hr8 hfl
    go_enter Try.func20, Try.ntmps20
    go_wp2_with fail
    refine HC.out.mono ?_
    rintro e w' ⟨rfl, rfl⟩
    go_wp2_with fail
    refine HJ.out.mono ?_
    rintro e w2 ⟨⟨g, rfl, hg, ho⟩, hb2⟩
    have HO := Lib.hid ho
    have hbb := (below1 w (.cells #[.slice o t[k].length cr] 29)).trans (hb2.mono (by simp))
    clear ho
    go_wp2_with fail
    go_ret2
    exact ⟨RetSE.mk (HO.out.holds rfl (by have := HN.out; omega) ⟨Nat.le_trans (by simp) hg, HO.out.lt⟩) HV.out.symm rfl, hbb⟩
  · have fc := neq_tT he0
    have HV : Hid (rowV t i = []) := Lib.hid (by
      unfold rowV
      split
      · rename_i hc
        have hno : idxO i t.length = none := by
          cases ho : idxO i t.length with
          | none => rfl
          | some k => exact absurd (by rw [← hE]; unfold locE; rw [if_pos hc, (idx_some ho).2]) he0
        rw [hno]
        rfl
      · rfl)
    clear he0 hV hE
    go_enter Try.func20, Try.ntmps20
    go_wp2_with fail
    refine HC.out.mono ?_
    rintro e w' ⟨rfl, rfl⟩
    go_wp2_with fail
    go_ret2
    exact ⟨RetSE.nil HV.out rfl, Below.refl _ _⟩

set_option maxRecDepth 100000 in
set_option maxHeartbeats 800000 in
theorem Column_any (x : Value) (t : List (List ByteArray)) (i : Int) (w : World) (B : Nat) (hx : HoldsT w (· < B) x t) (hB : B ≤ w.heap.size) (hi : I64 i) :
    Calls Try.prog 22 #[x, .int .i64 i] w fun e w' => RetSE w w' (colV t i) (locE (chkT t) i (colsT t)) e ∧ Below w.heap.size w w' := by
  have HC := Lib.hid (columnIndex_any x t i w (· < B) hx hi)
  have HX := Lib.hid hx
  obtain ⟨oa, ca, rfl, _, _⟩ := hx.form
  clear hx
  obtain ⟨V, hV⟩ : ∃ V, locV (chkT t) i (colsT t) = V := ⟨_, rfl⟩
  obtain ⟨E, hE⟩ : ∃ E, locE (chkT t) i (colsT t) = E := ⟨_, rfl⟩
  rw [hV, hE] at HC
  rw [hE]
  by_cases he0 : E = 0
  · obtain ⟨hc0, k, hko⟩ : chkT t = 0 ∧ ∃ k, idxO i (colsT t) = some k := by
      unfold locE at hE
      split at hE
      · rename_i hc
        refine ⟨hc, ?_⟩
        unfold idxE at hE
        split at hE
        · rename_i h
          exact Option.isSome_iff_exists.1 h
        · omega
      · omega
    have hlt := idxO_lt hko
    have HV : Hid (colV t i = colOf t k) := Lib.hid (by unfold colV; rw [if_pos hc0, hko]; rfl)
    have hVk : V = (k : Int) := by rw [← hV]; unfold locV; rw [if_pos hc0, (idx_some hko).1]
    subst hVk
    have fc := neq_fT he0
    have HJ := Lib.hid (cellsOf_any _ t k w B HX.out hB (chkT_rows hc0).1 (cols_lt hc0 hlt))
    subst he0
    clear hV hE hko hc0
    go_enter Try.func22, Try.ntmps22
    go_wp2_with fail
    refine HC.out.mono ?_
    rintro e w' ⟨rfl, rfl⟩
    go_wp2_with fail
    refine HJ.out.mono ?_
    rintro e w2 ⟨⟨v, rfl, ho⟩, hb2⟩
    have HO := Lib.hid ho
    clear ho
    go_wp2_with fail
    go_ret2
    exact ⟨RetSE.mk HO.out HV.out.symm rfl, hb2⟩
  · have fc := neq_tT he0
    have HV : Hid (colV t i = []) := Lib.hid (by
      unfold colV
      split
      · rename_i hc
        have hno : idxO i (colsT t) = none := by
          cases ho : idxO i (colsT t) with
          | none => rfl
          | some k => exact absurd (by rw [← hE]; unfold locE; rw [if_pos hc, (idx_some ho).2]) he0
        rw [hno]
        rfl
      · rfl)
    clear he0 hV hE
    go_enter Try.func22, Try.ntmps22
    go_wp2_with fail
    refine HC.out.mono ?_
    rintro e w' ⟨rfl, rfl⟩
    go_wp2_with fail
    go_ret2
    exact ⟨RetSE.nil HV.out rfl, Below.refl _ _⟩

end Go.Proofs.Ytampofpllijfhaa
