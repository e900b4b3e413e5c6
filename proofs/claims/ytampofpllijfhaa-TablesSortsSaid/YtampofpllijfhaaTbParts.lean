/-
  Row, Column of the reference; Cell of both. Nothing is assumed.
-/
import Derived.Test.YtampofpllijfhaaTbTrans
namespace Go.Proofs.Ytampofpllijfhaa
open Go.RowKit

theorem ridx_some {i : Int} {n k : Nat} (h : idxO i n = some k) : ridx i n = k := by unfold ridx; rw [h]
theorem ridx_none {i : Int} {n : Nat} (h : idxO i n = none) : ridx i n = -1 := by unfold ridx; rw [h]
theorem OwnS.form {w : World} {base : Nat} {v : Value} {l : Row} (h : OwnS w base v l) : ∃ o c, v = .slice o l.length c := owns_form h

set_option maxRecDepth 100000 in
set_option maxHeartbeats 800000 in
theorem rRow_any (x : Value) (t : List (List ByteArray)) (i : Int) (w : World) (B : Nat) (hx : HoldsT w (· < B) x t) (hB : B ≤ w.heap.size) (hi : I64 i) :
    Calls Try.prog 21 #[x, .int .i64 i] w fun e w' => RetSE w w' (rowV t i) (locE (chkT t) i t.length) e ∧ Below w.heap.size w w' := by
  have HC := Lib.hid (rchk_any x t w B hx hB)
  have HX := Lib.hid hx
  obtain ⟨oa, ca, rfl, _, _⟩ := hx.form
  clear hx
  by_cases hc0 : chkT t = 0
  · have fc := neq_fT hc0
    have h8 := (chkT_rows hc0).1
    have HI := Lib.hid (fun w => rindex_any i t.length w hi (by omega))
    cases hko : idxO i t.length with
    | some k =>
      have hlt := idxO_lt hko
      have HV : Hid (rowV t i = t[k] ∧ locE (chkT t) i t.length = 0) := Lib.hid ⟨by unfold rowV; rw [if_pos hc0, hko]; simp [hlt], by unfold locE; rw [if_pos hc0, (idx_some hko).2]⟩
      rw [ridx_some hko] at HI
      have hr8 := (chkT_rows hc0).2 _ (List.getElem_mem hlt)
      have HN := Lib.hid hr8
      have hki0 : (0 : Int) ≤ (k : Int) := by omega
      have hki00 : ¬ (k : Int) < 0 := by omega
      have hki1 : (k : Int) < (t.length : Int) := by omega
      have hc0' := Lib.hid hc0
      clear hko hc0 hr8
      go_enter Try.func21, Try.ntmps21
      go_wp2_with fail
      refine HC.out.mono ?_
      rintro e w1 ⟨rfl, hb1⟩
      obtain ⟨b, off, o, cr, rfl, hb, h0, hrow⟩ := (HX.out.later (hb1.mono hB)).at_ (List.getElem?_eq_getElem hlt)
      have HL := Lib.hid (rlist_any _ t[k] w1 B hrow (Nat.le_trans hB hb1.size) (by have := HN.out; omega))
      clear hrow
      go_wp2_with fail
      refine (HI.out _).mono ?_
      rintro e w' ⟨rfl, rfl⟩
      go_wp2_with fail
      refine (HI.out _).mono ?_
      rintro e w' ⟨rfl, rfl⟩
      go_wp2_with fail
      refine HL.out.mono ?_
      rintro e w2 ⟨⟨v, rfl, ho⟩, hb2⟩
      have HO := Lib.hid ho.holds
      have hs1 := hb1.size
      have hb3 := hb1.trans (hb2.mono hs1)
      clear ho
      go_wp2_with fail
      go_ret2
      exact ⟨RetSE.mk (HO.out.keep (fun _ hp _ => ⟨Nat.le_trans hs1 hp.1, hp.2⟩) (fun _ _ _ _ => rfl)) HV.out.1.symm HV.out.2.symm, hb3⟩
    | none =>
      have HV : Hid (rowV t i = [] ∧ locE (chkT t) i t.length = 7) := Lib.hid ⟨by unfold rowV; rw [if_pos hc0, hko]; rfl, by unfold locE; rw [if_pos hc0, (idx_none hko).2]⟩
      rw [ridx_none hko] at HI
      clear hko hc0
      go_enter Try.func21, Try.ntmps21
      go_wp2_with fail
      refine HC.out.mono ?_
      rintro e w1 ⟨rfl, hb1⟩
      go_wp2_with fail
      refine (HI.out _).mono ?_
      rintro e w' ⟨rfl, rfl⟩
      go_wp2_with fail
      go_ret2
      exact ⟨RetSE.nil HV.out.1 HV.out.2.symm, hb1⟩
  · have fc := neq_tT hc0
    have HV : Hid (rowV t i = [] ∧ locE (chkT t) i t.length = chkT t) := Lib.hid ⟨if_neg hc0, if_neg hc0⟩
    clear hc0
    go_enter Try.func21, Try.ntmps21
    go_wp2_with fail
    refine HC.out.mono ?_
    rintro e w1 ⟨rfl, hb1⟩
    go_wp2_with fail
    go_ret2
    exact ⟨RetSE.nil HV.out.1 HV.out.2.symm, hb1⟩

set_option maxRecDepth 100000 in
set_option maxHeartbeats 800000 in
theorem rColumn_any (x : Value) (t : List (List ByteArray)) (i : Int) (w : World) (B : Nat) (hx : HoldsT w (· < B) x t) (hB : B ≤ w.heap.size) (hi : I64 i) :
    Calls Try.prog 23 #[x, .int .i64 i] w fun e w' => RetSE w w' (colV t i) (locE (chkT t) i (colsT t)) e ∧ Below w.heap.size w w' := by
  have HC := Lib.hid (rchk_any x t w B hx hB)
  have HX := Lib.hid hx
  obtain ⟨oa, ca, rfl, _, _⟩ := hx.form
  clear hx
  by_cases hc0 : chkT t = 0
  · have fc := neq_fT hc0
    have h8 := (chkT_rows hc0).1
    have hc8 := colsT_le hc0
    have HI := Lib.hid (fun w => rindex_any i (colsT t) w hi (by omega))
    cases hko : idxO i (colsT t) with
    | some k =>
      have hlt := idxO_lt hko
      have HV : Hid (colV t i = colOf t k ∧ locE (chkT t) i (colsT t) = 0) := Lib.hid ⟨by unfold colV; rw [if_pos hc0, hko]; rfl, by unfold locE; rw [if_pos hc0, (idx_some hko).2]⟩
      rw [ridx_some hko] at HI
      have hki0 : ¬ (k : Int) < 0 := by omega
      have HCL := Lib.hid (cols_lt hc0 hlt)
      clear hko hc0
      go_enter Try.func23, Try.ntmps23
      go_wp2_with fail
      refine HC.out.mono ?_
      rintro e w1 ⟨rfl, hb1⟩
      have hs1 := hb1.size
      have HX1 := Lib.hid (HX.out.later (hb1.mono hB))
      have HK := Lib.hid (rcols_any _ t w1 _ HX1.out)
      have HL := Lib.hid (rcolumn_any _ t k w1 B HX1.out (Nat.le_trans hB hs1) h8 HCL.out)
      go_wp2_with fail
      refine HK.out.mono ?_
      rintro e w' ⟨rfl, rfl⟩
      go_wp2_with fail
      refine (HI.out _).mono ?_
      rintro e w' ⟨rfl, rfl⟩
      go_wp2_with fail
      refine HL.out.mono ?_
      rintro e w2 ⟨⟨v, rfl, ho⟩, hb2⟩
      have HO := Lib.hid ho.holds
      have hb3 := hb1.trans (hb2.mono hs1)
      clear ho
      go_wp2_with fail
      go_ret2
      exact ⟨RetSE.mk (HO.out.keep (fun _ hp _ => ⟨Nat.le_trans hs1 hp.1, hp.2⟩) (fun _ _ _ _ => rfl)) HV.out.1.symm HV.out.2.symm, hb3⟩
    | none =>
      have HV : Hid (colV t i = [] ∧ locE (chkT t) i (colsT t) = 7) := Lib.hid ⟨by unfold colV; rw [if_pos hc0, hko]; rfl, by unfold locE; rw [if_pos hc0, (idx_none hko).2]⟩
      rw [ridx_none hko] at HI
      clear hko hc0
      go_enter Try.func23, Try.ntmps23
      go_wp2_with fail
      refine HC.out.mono ?_
      rintro e w1 ⟨rfl, hb1⟩
      have HK := Lib.hid (rcols_any _ t w1 _ (HX.out.later (hb1.mono hB)))
      go_wp2_with fail
      refine HK.out.mono ?_
      rintro e w' ⟨rfl, rfl⟩
      go_wp2_with fail
      refine (HI.out _).mono ?_
      rintro e w' ⟨rfl, rfl⟩
      go_wp2_with fail
      go_ret2
      exact ⟨RetSE.nil HV.out.1 HV.out.2.symm, hb1⟩
  · have fc := neq_tT hc0
    have HV : Hid (colV t i = [] ∧ locE (chkT t) i (colsT t) = chkT t) := Lib.hid ⟨if_neg hc0, if_neg hc0⟩
    clear hc0
    go_enter Try.func23, Try.ntmps23
    go_wp2_with fail
    refine HC.out.mono ?_
    rintro e w1 ⟨rfl, hb1⟩
    go_wp2_with fail
    go_ret2
    exact ⟨RetSE.nil HV.out.1 HV.out.2.symm, hb1⟩

/-- What Cell returns. -/
def cellR (t : Tab) (i k : Int) : ByteArray × Int :=
  if chkT t = 0 then (match idxO i t.length with
    | none => (⟨#[]⟩, 7)
    | some a => match idxO k (colsT t) with
      | none => (⟨#[]⟩, 7)
      | some b => (((t[a]?).bind fun r => r[b]?).getD ⟨#[]⟩, 0))
  else (⟨#[]⟩, chkT t)
theorem ret_cell {p : ByteArray × Int} {s : ByteArray} {n : Int} (h : p = (s, n)) : Ending.returned (.tuple #[.string s, .int .i64 n]) = .returned (.tuple #[.string p.1, .int .i64 p.2]) := by rw [h]

set_option maxRecDepth 100000 in
set_option maxHeartbeats 800000 in
theorem Cell_any (x : Value) (t : List (List ByteArray)) (i k : Int) (w : World) (P : Nat → Prop) (hx : HoldsT w P x t) (hi : I64 i) (hk : I64 k) :
    Calls Try.prog 24 #[x, .int .i64 i, .int .i64 k] w fun e w' => e = .returned (.tuple #[.string (cellR t i k).1, .int .i64 (cellR t i k).2]) ∧ w = w' := by
  have HC := Lib.hid (rowIndex_any x t i w P hx hi)
  have HK := Lib.hid (cols_any x t w P hx)
  have HX := Lib.hid hx
  obtain ⟨oa, ca, rfl, _, _⟩ := hx.form
  clear hx
  by_cases hc0 : chkT t = 0
  · have hc8 := colsT_le hc0
    have HI := Lib.hid (index_any k (colsT t) w hk (by omega))
    cases ha : idxO i t.length with
    | none =>
      have HV : Hid (cellR t i k = (⟨#[]⟩, 7)) := Lib.hid (by unfold cellR; rw [if_pos hc0, ha])
      unfold locV locE at HC
      rw [if_pos hc0, if_pos hc0, (idx_none ha).1, (idx_none ha).2] at HC
      clear ha hc0
      go_enter Try.func24, Try.ntmps24
      go_wp2_with fail
      refine HC.out.mono ?_
      rintro e w' ⟨rfl, rfl⟩
      go_wp2_with fail
      go_ret2
      exact ⟨ret_cell HV.out, rfl⟩
    | some a =>
      have hat := idxO_lt ha
      unfold locV locE at HC
      rw [if_pos hc0, if_pos hc0, (idx_some ha).1, (idx_some ha).2] at HC
      cases hb : idxO k (colsT t) with
      | none =>
        have HV : Hid (cellR t i k = (⟨#[]⟩, 7)) := Lib.hid (by unfold cellR; rw [if_pos hc0, ha]; dsimp only; rw [hb])
        rw [(idx_none hb).1, (idx_none hb).2] at HI
        clear ha hb hc0
        go_enter Try.func24, Try.ntmps24
        go_wp2_with fail
        refine HC.out.mono ?_
        rintro e w' ⟨rfl, rfl⟩
        go_wp2_with fail
        refine HK.out.mono ?_
        rintro e w' ⟨rfl, rfl⟩
        go_wp2_with fail
        refine HI.out.mono ?_
        rintro e w' ⟨rfl, rfl⟩
        go_wp2_with fail
        go_ret2
        exact ⟨ret_cell HV.out, rfl⟩
      | some b =>
        have hbl : b < t[a].length := by
          rw [((chkT_rows hc0).2 _ (List.getElem_mem hat)).1]
          exact idxO_lt hb
        have HV : Hid (cellR t i k = (t[a][b], 0)) := Lib.hid (by unfold cellR; rw [if_pos hc0, ha]; dsimp only; rw [hb]; simp [hat, hbl])
        rw [(idx_some hb).1, (idx_some hb).2] at HI
        obtain ⟨b1, off, o, cr, rfl, _, h0, hrow⟩ := HX.out.at_ (List.getElem?_eq_getElem hat)
        obtain ⟨b2, off2, rfl, _, h1⟩ := hrow.at_ (List.getElem?_eq_getElem hbl)
        have hki0 : (0 : Int) ≤ (a : Int) := by omega
        have hki1 : (a : Int) < (t.length : Int) := by omega
        have hbi0 : (0 : Int) ≤ (b : Int) := by omega
        have hbi1 : (b : Int) < (t[a].length : Int) := by omega
        clear ha hb hc0 hrow
        go_enter Try.func24, Try.ntmps24
        go_wp2_with fail
        refine HC.out.mono ?_
        rintro e w' ⟨rfl, rfl⟩
        go_wp2_with fail
        refine HK.out.mono ?_
        rintro e w' ⟨rfl, rfl⟩
        go_wp2_with fail
        refine HI.out.mono ?_
        rintro e w' ⟨rfl, rfl⟩
        go_wp2_with fail
        go_ret2
        exact ⟨ret_cell HV.out, rfl⟩
  · have fc := neq_tT hc0
    have HV : Hid (cellR t i k = (⟨#[]⟩, chkT t)) := Lib.hid (if_neg hc0)
    unfold locV locE at HC
    rw [if_neg hc0, if_neg hc0] at HC
    clear hc0
    go_enter Try.func24, Try.ntmps24
    go_wp2_with fail
    refine HC.out.mono ?_
    rintro e w' ⟨rfl, rfl⟩
    go_wp2_with fail
    go_ret2
    exact ⟨ret_cell HV.out, rfl⟩

set_option maxRecDepth 100000 in
set_option maxHeartbeats 800000 in
theorem rCell_any (x : Value) (t : List (List ByteArray)) (i k : Int) (w : World) (B : Nat) (hx : HoldsT w (· < B) x t) (hB : B ≤ w.heap.size) (hi : I64 i) (hk : I64 k) :
    Calls Try.prog 25 #[x, .int .i64 i, .int .i64 k] w fun e w' => e = .returned (.tuple #[.string (cellR t i k).1, .int .i64 (cellR t i k).2]) ∧ Below w.heap.size w w' := by
  have HC := Lib.hid (rRow_any x t i w B hx hB hi)
  obtain ⟨oa, ca, rfl, _, _⟩ := hx.form
  clear hx
  by_cases hc0 : chkT t = 0
  · have hc8 := colsT_le hc0
    have HI := Lib.hid (fun w => rindex_any k (colsT t) w hk (by omega))
    unfold locE rowV at HC
    rw [if_pos hc0, if_pos hc0] at HC
    cases ha : idxO i t.length with
    | none =>
      have HV : Hid (cellR t i k = (⟨#[]⟩, 7)) := Lib.hid (by unfold cellR; rw [if_pos hc0, ha])
      rw [(idx_none ha).2] at HC
      clear ha hc0
      go_enter Try.func25, Try.ntmps25
      go_wp2_with fail
      refine HC.out.mono ?_
      rintro e w1 ⟨⟨v, rfl, ho⟩, hb1⟩
      clear ho
      go_wp2_with fail
      go_ret2
      exact ⟨ret_cell HV.out, hb1⟩
    | some a =>
      have hat := idxO_lt ha
      have hlen := ((chkT_rows hc0).2 _ (List.getElem_mem hat)).1
      have hget : (((some a).bind fun k => t[k]?).getD [] : Row) = t[a] := by simp [hat]
      rw [(idx_some ha).2, ha, hget] at HC
      have HLN := Lib.hid hlen
      cases hb : idxO k (colsT t) with
      | none =>
        have HV : Hid (cellR t i k = (⟨#[]⟩, 7)) := Lib.hid (by unfold cellR; rw [if_pos hc0, ha]; dsimp only; rw [hb])
        rw [ridx_none hb, ← hlen] at HI
        clear ha hb hc0 hlen hget
        go_enter Try.func25, Try.ntmps25
        go_wp2_with fail
        refine HC.out.mono ?_
        rintro e w1 ⟨⟨v, rfl, ho⟩, hb1⟩
        obtain ⟨o, cr, rfl, _, _⟩ := ho.form
        clear ho
        go_wp2_with fail
        refine (HI.out _).mono ?_
        rintro e w' ⟨rfl, rfl⟩
        go_wp2_with fail
        go_ret2
        exact ⟨ret_cell HV.out, hb1⟩
      | some b =>
        have hbl : b < t[a].length := by
          rw [hlen]
          exact idxO_lt hb
        have HV : Hid (cellR t i k = (t[a][b], 0)) := Lib.hid (by unfold cellR; rw [if_pos hc0, ha]; dsimp only; rw [hb]; simp [hat, hbl])
        rw [ridx_some hb, ← hlen] at HI
        have hbi0 : (0 : Int) ≤ (b : Int) := by omega
        have hbi00 : ¬ (b : Int) < 0 := by omega
        have hbi1 : (b : Int) < (t[a].length : Int) := by omega
        clear ha hb hc0 hlen hget
        go_enter Try.func25, Try.ntmps25
        go_wp2_with fail
        refine HC.out.mono ?_
        rintro e w1 ⟨⟨v, rfl, ho⟩, hb1⟩
        obtain ⟨o, cr, rfl, _, _⟩ := ho.form
        obtain ⟨b2, off2, rfl, _, h1⟩ := ho.at_ (List.getElem?_eq_getElem hbl)
        clear ho
        go_wp2_with fail
        refine (HI.out _).mono ?_
        rintro e w' ⟨rfl, rfl⟩
        go_wp2_with fail
        refine (HI.out _).mono ?_
        rintro e w' ⟨rfl, rfl⟩
        go_wp2_with fail
        go_ret2
        exact ⟨ret_cell HV.out, hb1⟩
  · have fc := neq_tT hc0
    have HV : Hid (cellR t i k = (⟨#[]⟩, chkT t)) := Lib.hid (if_neg hc0)
    unfold locE at HC
    rw [if_neg hc0] at HC
    clear hc0
    go_enter Try.func25, Try.ntmps25
    go_wp2_with fail
    refine HC.out.mono ?_
    rintro e w1 ⟨⟨v, rfl, ho⟩, hb1⟩
    clear ho
    go_wp2_with fail
    go_ret2
    exact ⟨ret_cell HV.out, hb1⟩

end Go.Proofs.Ytampofpllijfhaa
