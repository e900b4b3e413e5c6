/-
  index, columns, rowIndex, columnIndex of the package; index and Columns of the reference. Nothing is assumed.
-/
import Derived.Test.YtampofpllijfhaaTbRChk
namespace Go.Proofs.Ytampofpllijfhaa
open Go.RowKit

theorem ret_two {a b c d : Int} (h : a = b) (h' : c = d) : Ending.returned (.tuple #[.int .i64 a, .int .i64 c]) = .returned (.tuple #[.int .i64 b, .int .i64 d]) := by rw [h, h']
/-- The index that a number stands for, which counts from the end if it is negative. -/
def idxO (i : Int) (n : Nat) : Option Nat := if 0 ≤ i then (if i < n then some i.toNat else none) else (if 0 ≤ i + n then some (i + n).toNat else none)
theorem idxO_lt {i : Int} {n k : Nat} (h : idxO i n = some k) : k < n := by
  unfold idxO at h
  split at h
  · split at h
    · cases h; omega
    · cases h
  · split at h
    · cases h; omega
    · cases h
theorem idxO_some {i : Int} {n k : Nat} (h : idxO i n = some k) : (0 ≤ i ∧ i = k ∧ k < n) ∨ (i < 0 ∧ i + n = k ∧ k < n) := by
  unfold idxO at h
  split at h
  · split at h
    · cases h; left; omega
    · cases h
  · split at h
    · cases h; right; omega
    · cases h
theorem idxO_none {i : Int} {n : Nat} (h : idxO i n = none) : i + n < 0 ∨ (n : Int) ≤ i := by
  unfold idxO at h
  split at h
  · split at h
    · cases h
    · omega
  · split at h
    · cases h
    · omega
def idxV (i : Int) (n : Nat) : Int := ((idxO i n).map (fun (k : Nat) => (k : Int))).getD 0
def idxE (i : Int) (n : Nat) : Int := if (idxO i n).isSome then 0 else 7
theorem idx_some {i : Int} {n k : Nat} (h : idxO i n = some k) : idxV i n = k ∧ idxE i n = 0 := by simp [idxV, idxE, h]
theorem idx_none {i : Int} {n : Nat} (h : idxO i n = none) : idxV i n = 0 ∧ idxE i n = 7 := by simp [idxV, idxE, h]
/-- A number of 64 bits. -/
def I64 (i : Int) : Prop := -9223372036854775808 ≤ i ∧ i ≤ 9223372036854775807

set_option maxHeartbeats 800000 in
theorem index_any (i : Int) (n : Nat) (w : World) (hi : I64 i) (hn : n ≤ 1000) :
    Calls Try.prog 57 #[.int .i64 i, .int .i64 (n : Int)] w fun e w' => e = .returned (.tuple #[.int .i64 (idxV i n), .int .i64 (idxE i n)]) ∧ w = w' := by
  obtain ⟨hi1, hi2⟩ := hi
  cases ho : idxO i n with
  | some k =>
    have HE := Lib.hid (idx_some ho)
    rcases idxO_some ho with ⟨h0, rfl, hk⟩ | ⟨h0, hk1, hk⟩
    · have h1 : (k : Int) < (n : Int) := by omega
      clear ho h0
      go_enter Try.func57, Try.ntmps57
      go_wp2_with fail
      go_ret2
      exact ⟨ret_two HE.out.1.symm HE.out.2.symm, rfl⟩
    · have h1 : (k : Int) < (n : Int) := by omega
      have h2 : (0 : Int) ≤ (k : Int) := by omega
      clear ho
      go_enter Try.func57, Try.ntmps57
      go_wp2_with fail
      go_ret2
      exact ⟨ret_two (by rw [HE.out.1]) HE.out.2.symm, rfl⟩
  | none =>
    have HE := Lib.hid (idx_none ho)
    have hno := idxO_none ho
    clear ho
    by_cases h0 : i < 0
    · have h1 : i + (n : Int) < 0 := by omega
      clear hno
      go_enter Try.func57, Try.ntmps57
      go_wp2_with fail
      go_ret2
      exact ⟨ret_two HE.out.1.symm HE.out.2.symm, rfl⟩
    · have h1 : (n : Int) ≤ i := by omega
      clear hno
      go_enter Try.func57, Try.ntmps57
      go_wp2_with fail
      go_ret2
      exact ⟨ret_two HE.out.1.symm HE.out.2.symm, rfl⟩

/-- What index of the reference returns. -/
def ridx (i : Int) (n : Nat) : Int := match idxO i n with
  | some k => k
  | none => -1
set_option maxHeartbeats 800000 in
theorem rindex_any (i : Int) (n : Nat) (w : World) (hi : I64 i) (hn : n ≤ 1000) :
    Calls Try.prog 54 #[.int .i64 i, .int .i64 (n : Int)] w fun e w' => e = .returned (.int .i64 (ridx i n)) ∧ w = w' := by
  obtain ⟨hi1, hi2⟩ := hi
  unfold ridx
  cases ho : idxO i n with
  | some k =>
    rcases idxO_some ho with ⟨h0, rfl, hk⟩ | ⟨h0, hk1, hk⟩
    · have h1 : (k : Int) < (n : Int) := by omega
      have h2 : ¬ (k : Int) < -(n : Int) := by omega
      have h3 : ((k : Int) + (n : Int)).tmod (n : Int) = (k : Int) := by
        rw [Int.tmod_eq_emod_of_nonneg (by omega), Int.add_emod_right, Int.emod_eq_of_lt (by omega) h1]
      have h4 : ¬ (n : Int) = 0 := by omega
      clear ho h0
      go_enter Try.func54, Try.ntmps54
      go_wp2_with fail
      go_ret
      exact ⟨rfl, rfl⟩
    · have h1 : i < (n : Int) := by omega
      have h2 : ¬ i < -(n : Int) := by omega
      have h3 : (k : Int).tmod (n : Int) = (k : Int) := by
        rw [Int.tmod_eq_emod_of_nonneg (by omega), Int.emod_eq_of_lt (by omega) (by omega)]
      have h4 : ¬ (n : Int) = 0 := by omega
      clear ho
      go_enter Try.func54, Try.ntmps54
      go_wp2_with fail
      go_ret
      exact ⟨rfl, rfl⟩
  | none =>
    have hno := idxO_none ho
    clear ho
    by_cases h0 : i < -(n : Int)
    · clear hno
      go_enter Try.func54, Try.ntmps54
      go_wp2_with fail
      go_ret
      exact ⟨rfl, rfl⟩
    · have h1 : (n : Int) ≤ i := by omega
      clear hno
      go_enter Try.func54, Try.ntmps54
      go_wp2_with fail
      go_ret
      exact ⟨rfl, rfl⟩

set_option maxHeartbeats 400000 in
theorem cols_any (x : Value) (t : List (List ByteArray)) (w : World) (P : Nat → Prop) (hx : HoldsT w P x t) :
    Calls Try.prog 46 #[x] w fun e w' => e = .returned (.int .i64 (colsT t : Int)) ∧ w = w' := by
  have HX := Lib.hid hx
  obtain ⟨oa, ca, rfl, _, _⟩ := hx.form
  clear hx
  by_cases h0 : (t.length : Int) = 0
  · have hc : colsT t = 0 := by
      obtain rfl := List.eq_nil_of_length_eq_zero (by omega : t.length = 0)
      rfl
    have HC := Lib.hid hc
    have hb : ((t.length : Int) == 0) = true := by rw [h0]; rfl
    clear hc h0
    go_enter Try.func46, Try.ntmps46
    go_wp2_with fail
    go_ret
    exact ⟨ret_int (by rw [HC.out]; rfl), rfl⟩
  · have h0t : 0 < t.length := by omega
    obtain ⟨b, off, o, cr, rfl, _, g0, _⟩ := HX.out.at_ (List.getElem?_eq_getElem h0t)
    simp only [Nat.add_zero] at g0
    have HC := Lib.hid (colsT_at h0t)
    have hki0 : (0 : Int) < (t.length : Int) := by omega
    have hb : ((t.length : Int) == 0) = false := by rw [beq_eq_false_iff_ne]; exact h0
    clear h0
    go_enter Try.func46, Try.ntmps46
    go_wp2_with fail
    go_ret
    exact ⟨ret_int (by rw [HC.out]), rfl⟩

set_option maxHeartbeats 400000 in
theorem rcols_any (x : Value) (t : List (List ByteArray)) (w : World) (P : Nat → Prop) (hx : HoldsT w P x t) :
    Calls Try.prog 48 #[x] w fun e w' => e = .returned (.int .i64 (colsT t : Int)) ∧ w = w' := by
  have HX := Lib.hid hx
  obtain ⟨oa, ca, rfl, _, _⟩ := hx.form
  clear hx
  by_cases h0 : (t.length : Int) = 0
  · have hc : colsT t = 0 := by
      obtain rfl := List.eq_nil_of_length_eq_zero (by omega : t.length = 0)
      rfl
    have HC := Lib.hid hc
    have hb : ((t.length : Int) == 0) = true := by rw [h0]; rfl
    clear hc h0
    go_enter Try.func48, Try.ntmps48
    go_wp2_with fail
    go_ret
    exact ⟨ret_int (by rw [HC.out]; rfl), rfl⟩
  · have h0t : 0 < t.length := by omega
    obtain ⟨b, off, o, cr, rfl, _, g0, _⟩ := HX.out.at_ (List.getElem?_eq_getElem h0t)
    simp only [Nat.add_zero] at g0
    have HC := Lib.hid (colsT_at h0t)
    have hki0 : (0 : Int) < (t.length : Int) := by omega
    have hb : ((t.length : Int) == 0) = false := by rw [beq_eq_false_iff_ne]; exact h0
    clear h0
    go_enter Try.func48, Try.ntmps48
    go_wp2_with fail
    go_ret
    exact ⟨ret_int (by rw [HC.out]), rfl⟩

/-- Where a row or column is: the error of Check first. -/
def locV (c : Int) (i : Int) (n : Nat) : Int := if c = 0 then idxV i n else 0
def locE (c : Int) (i : Int) (n : Nat) : Int := if c = 0 then idxE i n else c

set_option maxHeartbeats 400000 in
theorem rowIndex_any (x : Value) (t : List (List ByteArray)) (i : Int) (w : World) (P : Nat → Prop) (hx : HoldsT w P x t) (hi : I64 i) :
    Calls Try.prog 52 #[x, .int .i64 i] w fun e w' => e = .returned (.tuple #[.int .i64 (locV (chkT t) i t.length), .int .i64 (locE (chkT t) i t.length)]) ∧ w = w' := by
  have HC := Lib.hid (chk_any x t w P hx)
  have HX := Lib.hid hx
  obtain ⟨oa, ca, rfl, _, _⟩ := hx.form
  clear hx
  by_cases hc0 : chkT t = 0
  · have fc := neq_fT hc0
    have HI := Lib.hid (index_any i t.length w hi (by have := (chkT_rows hc0).1; omega))
    have HE : Hid (locV (chkT t) i t.length = idxV i t.length ∧ locE (chkT t) i t.length = idxE i t.length) := Lib.hid ⟨if_pos hc0, if_pos hc0⟩
    clear hc0
    go_enter Try.func52, Try.ntmps52
    go_wp2_with fail
    refine HC.out.mono ?_
    rintro e w' ⟨rfl, rfl⟩
    go_wp2_with fail
    refine HI.out.mono ?_
    rintro e w' ⟨rfl, rfl⟩
    go_wp2_with fail
    go_ret2
    exact ⟨ret_two HE.out.1.symm HE.out.2.symm, rfl⟩
  · have fc := neq_tT hc0
    have HE : Hid (locV (chkT t) i t.length = 0 ∧ locE (chkT t) i t.length = chkT t) := Lib.hid ⟨if_neg hc0, if_neg hc0⟩
    clear hc0
    go_enter Try.func52, Try.ntmps52
    go_wp2_with fail
    refine HC.out.mono ?_
    rintro e w' ⟨rfl, rfl⟩
    go_wp2_with fail
    go_ret2
    exact ⟨ret_two HE.out.1.symm HE.out.2.symm, rfl⟩

set_option maxHeartbeats 400000 in
theorem columnIndex_any (x : Value) (t : List (List ByteArray)) (i : Int) (w : World) (P : Nat → Prop) (hx : HoldsT w P x t) (hi : I64 i) :
    Calls Try.prog 56 #[x, .int .i64 i] w fun e w' => e = .returned (.tuple #[.int .i64 (locV (chkT t) i (colsT t)), .int .i64 (locE (chkT t) i (colsT t))]) ∧ w = w' := by
  have HC := Lib.hid (chk_any x t w P hx)
  have HX := Lib.hid hx
  obtain ⟨oa, ca, rfl, _, _⟩ := hx.form
  clear hx
  by_cases hc0 : chkT t = 0
  · have fc := neq_fT hc0
    have HI := Lib.hid (index_any i (colsT t) w hi (by have := colsT_le hc0; omega))
    have HE : Hid (locV (chkT t) i (colsT t) = idxV i (colsT t) ∧ locE (chkT t) i (colsT t) = idxE i (colsT t)) := Lib.hid ⟨if_pos hc0, if_pos hc0⟩
    have HCO := Lib.hid (cols_any _ t w P HX.out)
    clear hc0
    go_enter Try.func56, Try.ntmps56
    go_wp2_with fail
    refine HC.out.mono ?_
    rintro e w' ⟨rfl, rfl⟩
    go_wp2_with fail
    refine HCO.out.mono ?_
    rintro e w' ⟨rfl, rfl⟩
    go_wp2_with fail
    refine HI.out.mono ?_
    rintro e w' ⟨rfl, rfl⟩
    go_wp2_with fail
    go_ret2
    exact ⟨ret_two HE.out.1.symm HE.out.2.symm, rfl⟩
  · have fc := neq_tT hc0
    have HE : Hid (locV (chkT t) i (colsT t) = 0 ∧ locE (chkT t) i (colsT t) = chkT t) := Lib.hid ⟨if_neg hc0, if_neg hc0⟩
    clear hc0
    go_enter Try.func56, Try.ntmps56
    go_wp2_with fail
    refine HC.out.mono ?_
    rintro e w' ⟨rfl, rfl⟩
    go_wp2_with fail
    go_ret2
    exact ⟨ret_two HE.out.1.symm HE.out.2.symm, rfl⟩

end Go.Proofs.Ytampofpllijfhaa
