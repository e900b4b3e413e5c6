/-
  The contracts of Slice and Char, of the package and of the reference. Nothing is assumed.
-/
import Derived.Test.YtlpmaeemegphiaaDoorStNum
import Derived.Test.YtlpmaeemegphiaaDoorChecked
import Derived.OwnWalk
import Derived.Lib.Hide
namespace Go.Proofs.YtlpmaeemegphiaaDoor
open Go.RowKit

theorem ret_int {k : IntKind} {a b : Int} (h : a = b) : Ending.returned (.int k a) = .returned (.int k b) := by rw [h]
theorem ret_bool {a b : Bool} (h : a = b) : Ending.returned (.bool a) = .returned (.bool b) := by rw [h]
theorem ret_string {a b : ByteArray} (h : a = b) : Ending.returned (.string a) = .returned (.string b) := by rw [h]
theorem ret_se {a b : ByteArray} {m n : Int} (h : a = b) (g : m = n) : Ending.returned (.tuple #[.string a, .int .i64 m]) = .returned (.tuple #[.string b, .int .i64 n]) := by rw [h, g]
theorem ret_ie {k : IntKind} {a b m n : Int} (h : a = b) (g : m = n) : Ending.returned (.tuple #[.int k a, .int .i64 m]) = .returned (.tuple #[.int k b, .int .i64 n]) := by rw [h, g]
theorem below1 (w : World) (o : Obj) : Below w.heap.size w (w.alloc o) := (Below.refl _ _).alloc (Nat.le_refl _) o

/-- What Slice returns. -/
def slBad (s : ByteArray) (a b : Int) : Bool := decide (a < 0) || decide (b < a) || decide ((s.size : Int) < b)
def slS (s : ByteArray) (a b : Int) : ByteArray := if slBad s a b then ⟨#[]⟩ else s.extract a.toNat b.toNat
def slE (s : ByteArray) (a b : Int) : Int := if slBad s a b then 1 else 0
theorem slS_bad {s : ByteArray} {a b : Int} (h : a < 0 ∨ b < a ∨ (s.size : Int) < b) : slS s a b = ⟨#[]⟩ ∧ slE s a b = 1 := by
  have : slBad s a b = true := by simp [slBad]; omega
  unfold slS slE
  rw [this]
  exact ⟨rfl, rfl⟩
theorem slS_ok {s : ByteArray} {a b : Nat} (h : a ≤ b) (h2 : b ≤ s.size) : slS s a b = s.extract a b ∧ slE s a b = 0 := by
  have : slBad s a b = false := by simp [slBad]; omega
  unfold slS slE
  rw [this]
  exact ⟨by simp, rfl⟩

/-- What index returns. -/
def ixI (k : Int) (n : Nat) : Int := match idx k n with | some i => i | none => 0
def ixE (k : Int) (n : Nat) : Int := match idx k n with | some _ => 0 | none => 1
def ixR (k : Int) (n : Nat) : Int := match idx k n with | some i => i | none => -1
theorem idx_pos {k n : Nat} (h : k < n) : idx (k : Int) n = some k := by
  unfold idx
  rw [if_pos (by omega), if_pos (by omega)]
  simp
theorem idx_neg {k : Int} {n : Nat} (h : k < 0) (h2 : 0 ≤ k + n) : idx k n = some (k + n).toNat := by
  unfold idx
  rw [if_neg (by omega), if_pos h2]
theorem idx_no {k : Int} {n : Nat} (h : (n : Int) ≤ k ∨ k + n < 0) : idx k n = none := by
  unfold idx
  split
  · rw [if_neg (by omega)]
  · rw [if_neg (by omega)]

/-- What Char returns. -/
def chS (s : ByteArray) (k : Int) : ByteArray := match idx k s.size with | some i => s.extract i (i + 1) | none => ⟨#[]⟩
section
set_option maxHeartbeats 400000
theorem slice_any (s : ByteArray) (a b : Int) (w : World) :
    Calls Tryd.prog 13 #[.string s, .int .i64 a, .int .i64 b] w fun e w' => e = .returned (.tuple #[.string (slS s a b), .int .i64 (slE s a b)]) ∧ w' = w := by
  by_cases h : a < 0 ∨ b < a ∨ (s.size : Int) < b
  · obtain ⟨e1, e2⟩ := slS_bad h
    rw [e1, e2]
    clear e1 e2
    by_cases h1 : a < 0
    · clear h
      go_enter Tryd.func13, Tryd.ntmps13
      go_wp2_with fail
      go_ret2
      exact ⟨rfl, rfl⟩
    by_cases h2 : b < a
    · clear h
      go_enter Tryd.func13, Tryd.ntmps13
      go_wp2_with fail
      go_ret2
      exact ⟨rfl, rfl⟩
    have h3 : (s.size : Int) < b := by omega
    clear h
    · skip
      go_enter Tryd.func13, Tryd.ntmps13
      go_wp2_with fail
      go_ret2
      exact ⟨rfl, rfl⟩
  · obtain ⟨m, rfl⟩ := Int.eq_ofNat_of_zero_le (a := a) (by omega)
    obtain ⟨n, rfl⟩ := Int.eq_ofNat_of_zero_le (a := b) (by omega)
    have h1 : m ≤ n := by omega
    have h2 : n ≤ s.size := by omega
    clear h
    obtain ⟨e1, e2⟩ := slS_ok h1 h2
    have E1 := Lib.hid e1
    rw [e2]
    clear e1 e2
    go_enter Tryd.func13, Tryd.ntmps13
    go_wp2_with fail
    go_ret2
    exact ⟨ret_se E1.out.symm rfl, rfl⟩
theorem rslice_any (s : ByteArray) (a b : Int) (w : World) :
    Calls Tryd.prog 14 #[.string s, .int .i64 a, .int .i64 b] w fun e w' => e = .returned (.tuple #[.string (slS s a b), .int .i64 (slE s a b)]) ∧ w' = w := by
  by_cases h : a < 0 ∨ b < a ∨ (s.size : Int) < b
  · obtain ⟨e1, e2⟩ := slS_bad h
    rw [e1, e2]
    clear e1 e2
    by_cases h1 : a < 0
    · clear h
      go_enter Tryd.func14, Tryd.ntmps14
      go_wp2_with fail
      go_ret2
      exact ⟨rfl, rfl⟩
    by_cases h2 : b < a
    · clear h
      go_enter Tryd.func14, Tryd.ntmps14
      go_wp2_with fail
      go_ret2
      exact ⟨rfl, rfl⟩
    have h3 : (s.size : Int) < b := by omega
    clear h
    · skip
      go_enter Tryd.func14, Tryd.ntmps14
      go_wp2_with fail
      go_ret2
      exact ⟨rfl, rfl⟩
  · obtain ⟨m, rfl⟩ := Int.eq_ofNat_of_zero_le (a := a) (by omega)
    obtain ⟨n, rfl⟩ := Int.eq_ofNat_of_zero_le (a := b) (by omega)
    have h1 : m ≤ n := by omega
    have h2 : n ≤ s.size := by omega
    clear h
    obtain ⟨e1, e2⟩ := slS_ok h1 h2
    have E1 := Lib.hid e1
    rw [e2]
    clear e1 e2
    go_enter Tryd.func14, Tryd.ntmps14
    go_wp2_with fail
    go_ret2
    exact ⟨ret_se E1.out.symm rfl, rfl⟩
theorem index_any (k : Int) (n : Nat) (w : World) (hk0 : -9223372036854775808 ≤ k) (hn : n ≤ 9223372036854775807) :
    Calls Tryd.prog 36 #[.int .i64 k, .int .i64 n] w fun e w' => e = .returned (.tuple #[.int .i64 (ixI k n), .int .i64 (ixE k n)]) ∧ w' = w := by
  by_cases h : (n : Int) ≤ k ∨ k + n < 0
  · have E := Lib.hid (idx_no h)
    by_cases h1 : k < 0
    · have h2 : k + n < 0 := by omega
      have h3 : ¬ (-(n : Int) ≤ k) := by omega
      clear h
      go_enter Tryd.func36, Tryd.ntmps36
      go_wp2_with fail
      go_ret2
      exact ⟨ret_ie (by unfold ixI; rw [E.out]) (by unfold ixE; rw [E.out]), rfl⟩
    · have h2 : (n : Int) ≤ k := by omega
      clear h
      go_enter Tryd.func36, Tryd.ntmps36
      go_wp2_with fail
      go_ret2
      exact ⟨ret_ie (by unfold ixI; rw [E.out]) (by unfold ixE; rw [E.out]), rfl⟩
  · by_cases h1 : k < 0
    · have h2 : 0 ≤ k + n := by omega
      have h3 : k + n < n := by omega
      have h4 : -(n : Int) ≤ k := by omega
      have E := Lib.hid (idx_neg h1 h2)
      clear h
      go_enter Tryd.func36, Tryd.ntmps36
      go_wp2_with fail
      go_ret2
      exact ⟨ret_ie (by unfold ixI; rw [E.out]; simp only []; omega) (by unfold ixE; rw [E.out]), rfl⟩
    · obtain ⟨m, rfl⟩ := Int.eq_ofNat_of_zero_le (a := k) (by omega)
      have h2 : m < n := by omega
      have E := Lib.hid (idx_pos h2)
      clear h h1
      go_enter Tryd.func36, Tryd.ntmps36
      go_wp2_with fail
      go_ret2
      exact ⟨ret_ie (by unfold ixI; rw [E.out]) (by unfold ixE; rw [E.out]), rfl⟩
theorem rindex_any (k : Int) (n : Nat) (w : World) (hk0 : -9223372036854775808 ≤ k) (hn : n ≤ 9223372036854775807) :
    Calls Tryd.prog 37 #[.int .i64 k, .int .i64 n] w fun e w' => e = .returned (.int .i64 (ixR k n)) ∧ w' = w := by
  by_cases h : (n : Int) ≤ k ∨ k + n < 0
  · have E := Lib.hid (idx_no h)
    by_cases h1 : k < 0
    · have h2 : k + n < 0 := by omega
      have h3 : ¬ (-(n : Int) ≤ k) := by omega
      clear h
      go_enter Tryd.func37, Tryd.ntmps37
      go_wp2_with fail
      go_ret
      exact ⟨ret_int (by unfold ixR; rw [E.out]), rfl⟩
    · have h2 : (n : Int) ≤ k := by omega
      clear h
      go_enter Tryd.func37, Tryd.ntmps37
      go_wp2_with fail
      go_ret
      exact ⟨ret_int (by unfold ixR; rw [E.out]), rfl⟩
  · by_cases h1 : k < 0
    · have h2 : 0 ≤ k + n := by omega
      have h3 : k + n < n := by omega
      have h4 : -(n : Int) ≤ k := by omega
      have E := Lib.hid (idx_neg h1 h2)
      clear h
      go_enter Tryd.func37, Tryd.ntmps37
      go_wp2_with fail
      go_ret
      exact ⟨ret_int (by unfold ixR; rw [E.out]; simp only []; omega), rfl⟩
    · obtain ⟨m, rfl⟩ := Int.eq_ofNat_of_zero_le (a := k) (by omega)
      have h2 : m < n := by omega
      have E := Lib.hid (idx_pos h2)
      clear h h1
      go_enter Tryd.func37, Tryd.ntmps37
      go_wp2_with fail
      go_ret
      exact ⟨ret_int (by unfold ixR; rw [E.out]), rfl⟩
theorem char_any (s : ByteArray) (k : Int) (w : World) (hk0 : -9223372036854775808 ≤ k) (hs : s.size ≤ 1000) :
    Calls Tryd.prog 15 #[.string s, .int .i64 k] w fun e w' => e = .returned (.tuple #[.string (chS s k), .int .i64 (ixE k s.size)]) ∧ w' = w := by
  have HC := fun w => index_any k s.size w hk0 (by omega)
  clear hk0
  unfold chS ixE
  unfold ixI ixE at HC
  cases hi : idx k s.size with
  | none =>
    simp only [hi] at HC ⊢
    clear hi
    go_enter Tryd.func15, Tryd.ntmps15
    go_wp2_with (go_at_call 36; refine (HC _).mono ?_; rintro e w' ⟨rfl, hw'⟩; obtain rfl := hw'.symm)
    go_ret2
    exact ⟨rfl, rfl⟩
  | some i =>
    simp only [hi] at HC ⊢
    have hlt := idx_lt hi
    clear hi
    obtain ⟨j, hj⟩ : ∃ j : Nat, (i : Int) + 1 = (j : Int) := ⟨i + 1, by omega⟩
    have hj' : i + 1 = j := by omega
    rw [hj']
    clear hj'
    have h0 : i ≤ j := by omega
    have h1 : j ≤ s.size := by omega
    clear hlt
    go_enter Tryd.func15, Tryd.ntmps15
    go_wp2_with (go_at_call 36; refine (HC _).mono ?_; rintro e w' ⟨rfl, hw'⟩; obtain rfl := hw'.symm)
    go_ret2
    exact ⟨rfl, rfl⟩
theorem rchar_any (s : ByteArray) (k : Int) (w : World) (hk0 : -9223372036854775808 ≤ k) (hs : s.size ≤ 1000) :
    Calls Tryd.prog 16 #[.string s, .int .i64 k] w fun e w' => e = .returned (.tuple #[.string (chS s k), .int .i64 (ixE k s.size)]) ∧ w' = w := by
  have HC := fun w => rindex_any k s.size w hk0 (by omega)
  clear hk0
  unfold chS ixE
  unfold ixR at HC
  cases hi : idx k s.size with
  | none =>
    simp only [hi] at HC ⊢
    clear hi
    go_enter Tryd.func16, Tryd.ntmps16
    go_wp2_with (go_at_call 37; refine (HC _).mono ?_; rintro e w' ⟨rfl, hw'⟩; obtain rfl := hw'.symm)
    go_ret2
    exact ⟨rfl, rfl⟩
  | some i =>
    simp only [hi] at HC ⊢
    have hlt := idx_lt hi
    clear hi
    obtain ⟨j, hj⟩ : ∃ j : Nat, (i : Int) + 1 = (j : Int) := ⟨i + 1, by omega⟩
    have hj' : i + 1 = j := by omega
    rw [hj']
    clear hj'
    have h0 : i ≤ j := by omega
    have h1 : j ≤ s.size := by omega
    clear hlt
    go_enter Tryd.func16, Tryd.ntmps16
    go_wp2_with (go_at_call 37; refine (HC _).mono ?_; rintro e w' ⟨rfl, hw'⟩; obtain rfl := hw'.symm)
    go_ret2
    exact ⟨rfl, rfl⟩
end
end Go.Proofs.YtlpmaeemegphiaaDoor
