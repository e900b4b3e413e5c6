/-
  Solve of the package and of the reference at names that are no operations; Solve at every name. Nothing is assumed.
-/
import Derived.Test.YtlpmaeemegphiaaBvSolve2
import Derived.Test.YtlpmaeemegphiaaBvSolve3
namespace Go.Proofs.Ytlpmaeemegphiaa
open Go.RowKit

theorem str_ne {a : ByteArray} {l : List UInt8} (h : a ≠ ⟨l.toArray⟩) : (a.toList == l) = false := by
  rw [ByteArray.toList_eq]
  refine beq_eq_false_iff_ne.2 fun e => h ?_
  apply ByteArray.ext
  rw [← e]

theorem operationN_any (op : ByteArray) (h0 : (op.toList == [98, 97, 110, 100]) = false) (h1 : (op.toList == [98, 111, 114]) = false) (h2 : (op.toList == [98, 120, 111, 114]) = false) (h3 : (op.toList == [98, 97, 100, 100]) = false) (h4 : (op.toList == [98, 115, 117, 98]) = false) (h5 : (op.toList == [98, 109, 117, 108]) = false) (h6 : (op.toList == [98, 108, 101, 102, 116]) = false) (h7 : (op.toList == [98, 114, 105, 103, 104, 116]) = false) (h8 : (op.toList == [98, 97, 114, 105, 116, 104]) = false) (h9 : (op.toList == [98, 110, 111, 116]) = false) (w : World) : Calls Try.prog 48 #[.string op] w fun e w' => e = .returned (.tuple #[.nilFunc, .bool false]) ∧ w' = w := by
  go_enter Try.func48, Try.ntmps48
  go_wp2_with fail
  go_ret2
  exact ⟨rfl, rfl⟩
theorem rapplyN_any (op : ByteArray) (h0 : (op.toList == [98, 97, 110, 100]) = false) (h1 : (op.toList == [98, 111, 114]) = false) (h2 : (op.toList == [98, 120, 111, 114]) = false) (h3 : (op.toList == [98, 97, 100, 100]) = false) (h4 : (op.toList == [98, 115, 117, 98]) = false) (h5 : (op.toList == [98, 109, 117, 108]) = false) (h6 : (op.toList == [98, 108, 101, 102, 116]) = false) (h7 : (op.toList == [98, 114, 105, 103, 104, 116]) = false) (h8 : (op.toList == [98, 97, 114, 105, 116, 104]) = false) (h9 : (op.toList == [98, 110, 111, 116]) = false) (x k : Int) (w : World) : Calls Try.prog 49 #[.string op, .int .i64 x, .int .i64 k] w fun e w' => e = .returned (.tuple #[.int .i64 0, .bool false]) ∧ w' = w := by
  go_enter Try.func49, Try.ntmps49
  go_wp2_with fail
  go_ret2
  exact ⟨rfl, rfl⟩
set_option maxRecDepth 100000 in
set_option maxHeartbeats 800000 in
theorem solveN_any (op : ByteArray) (h0 : (op.toList == [98, 97, 110, 100]) = false) (h1 : (op.toList == [98, 111, 114]) = false) (h2 : (op.toList == [98, 120, 111, 114]) = false) (h3 : (op.toList == [98, 97, 100, 100]) = false) (h4 : (op.toList == [98, 115, 117, 98]) = false) (h5 : (op.toList == [98, 109, 117, 108]) = false) (h6 : (op.toList == [98, 108, 101, 102, 116]) = false) (h7 : (op.toList == [98, 114, 105, 103, 104, 116]) = false) (h8 : (op.toList == [98, 97, 114, 105, 116, 104]) = false) (h9 : (op.toList == [98, 110, 111, 116]) = false) (r k : Int) (w : World) : Calls Try.prog 38 #[.string op, .int .i64 r, .int .i64 k] w fun e w' => RetI w.heap.size [] e w' ∧ Below w.heap.size w w' := by
  have HC := fun w => operationN_any op h0 h1 h2 h3 h4 h5 h6 h7 h8 h9 w
  clear h0 h1 h2 h3 h4 h5 h6 h7 h8 h9
  have hnf := run_eq_nil
  go_enter Try.func38, Try.ntmps38
  go_wp2_with (first | (go_at_call 48; refine (HC _).mono ?_; rintro e w' ⟨rfl, rfl⟩) | (go_at_call 10; refine (valid_any _ _).mono ?_; rintro e w' ⟨rfl, rfl⟩))
  go_ret
  exact ⟨RetI.none _ _, Below.refl _ _⟩
set_option maxRecDepth 100000 in
set_option maxHeartbeats 800000 in
theorem rsolveN_any (op : ByteArray) (h0 : (op.toList == [98, 97, 110, 100]) = false) (h1 : (op.toList == [98, 111, 114]) = false) (h2 : (op.toList == [98, 120, 111, 114]) = false) (h3 : (op.toList == [98, 97, 100, 100]) = false) (h4 : (op.toList == [98, 115, 117, 98]) = false) (h5 : (op.toList == [98, 109, 117, 108]) = false) (h6 : (op.toList == [98, 108, 101, 102, 116]) = false) (h7 : (op.toList == [98, 114, 105, 103, 104, 116]) = false) (h8 : (op.toList == [98, 97, 114, 105, 116, 104]) = false) (h9 : (op.toList == [98, 110, 111, 116]) = false) (r k : Int) (w : World) : Calls Try.prog 39 #[.string op, .int .i64 r, .int .i64 k] w fun e w' => RetI w.heap.size [] e w' ∧ Below w.heap.size w w' := by
  have HC := fun x w => rapplyN_any op h0 h1 h2 h3 h4 h5 h6 h7 h8 h9 x k w
  clear h0 h1 h2 h3 h4 h5 h6 h7 h8 h9
  go_enter Try.func39, Try.ntmps39
  go_wp2_with fail
  go_loop [7, 8] (fun v j => v = .slice none 0 0 ∧ ∃ n : Nat, n ≤ 256 ∧ j = .int .i64 n) (fun _ j => 256 - (intOf j).toNat)
  case atStart => exact ⟨rfl, 0, Nat.zero_le _, rfl⟩
  case round =>
    obtain ⟨rfl, n, hn, rfl⟩ := hrel
    by_cases hlt : n < 256
    · go_wp2_with (first | (go_at_call 49; refine (HC _ _).mono ?_; rintro e w' ⟨rfl, hw'⟩; obtain rfl := hw'.symm) | (go_at_call 11; refine (rvalid_any _ _).mono ?_; rintro e w' ⟨rfl, rfl⟩))
      go_round
      case rel => exact ⟨rfl, n + 1, hlt, by go_num⟩
      case measure => simp [intOf]; omega
    · go_wp2_with fail
      go_ret
      exact ⟨RetI.none _ _, Below.refl _ _⟩

/-- What Solve returns, of the package and of the reference: one list. -/
theorem solve_both (op : ByteArray) (r k : Int) : ∃ l : List Int, l.length ≤ 256 ∧
    (∀ w : World, Calls Try.prog 38 #[.string op, .int .i64 r, .int .i64 k] w fun e w' => RetI w.heap.size l e w' ∧ Below w.heap.size w w') ∧
    (∀ w : World, Calls Try.prog 39 #[.string op, .int .i64 r, .int .i64 k] w fun e w' => RetI w.heap.size l e w' ∧ Below w.heap.size w w') := by
  by_cases h0 : op = ⟨#[98, 97, 110, 100]⟩
  · subst h0
    exact ⟨sol 0 r k, sol_len _ _ _, fun w => solve0_any r k w, fun w => rsolve0_any r k w⟩
  by_cases h1 : op = ⟨#[98, 111, 114]⟩
  · subst h1
    exact ⟨sol 1 r k, sol_len _ _ _, fun w => solve1_any r k w, fun w => rsolve1_any r k w⟩
  by_cases h2 : op = ⟨#[98, 120, 111, 114]⟩
  · subst h2
    exact ⟨sol 2 r k, sol_len _ _ _, fun w => solve2_any r k w, fun w => rsolve2_any r k w⟩
  by_cases h3 : op = ⟨#[98, 97, 100, 100]⟩
  · subst h3
    exact ⟨sol 3 r k, sol_len _ _ _, fun w => solve3_any r k w, fun w => rsolve3_any r k w⟩
  by_cases h4 : op = ⟨#[98, 115, 117, 98]⟩
  · subst h4
    exact ⟨sol 4 r k, sol_len _ _ _, fun w => solve4_any r k w, fun w => rsolve4_any r k w⟩
  by_cases h5 : op = ⟨#[98, 109, 117, 108]⟩
  · subst h5
    exact ⟨sol 5 r k, sol_len _ _ _, fun w => solve5_any r k w, fun w => rsolve5_any r k w⟩
  by_cases h6 : op = ⟨#[98, 108, 101, 102, 116]⟩
  · subst h6
    exact ⟨sol 6 r k, sol_len _ _ _, fun w => solve6_any r k w, fun w => rsolve6_any r k w⟩
  by_cases h7 : op = ⟨#[98, 114, 105, 103, 104, 116]⟩
  · subst h7
    exact ⟨sol 7 r k, sol_len _ _ _, fun w => solve7_any r k w, fun w => rsolve7_any r k w⟩
  by_cases h8 : op = ⟨#[98, 97, 114, 105, 116, 104]⟩
  · subst h8
    exact ⟨sol 8 r k, sol_len _ _ _, fun w => solve8_any r k w, fun w => rsolve8_any r k w⟩
  by_cases h9 : op = ⟨#[98, 110, 111, 116]⟩
  · subst h9
    exact ⟨sol 9 r k, sol_len _ _ _, fun w => solve9_any r k w, fun w => rsolve9_any r k w⟩
  exact ⟨[], by simp, fun w => solveN_any op (str_ne (l := [98, 97, 110, 100]) h0) (str_ne (l := [98, 111, 114]) h1) (str_ne (l := [98, 120, 111, 114]) h2) (str_ne (l := [98, 97, 100, 100]) h3) (str_ne (l := [98, 115, 117, 98]) h4) (str_ne (l := [98, 109, 117, 108]) h5) (str_ne (l := [98, 108, 101, 102, 116]) h6) (str_ne (l := [98, 114, 105, 103, 104, 116]) h7) (str_ne (l := [98, 97, 114, 105, 116, 104]) h8) (str_ne (l := [98, 110, 111, 116]) h9) r k w, fun w => rsolveN_any op (str_ne (l := [98, 97, 110, 100]) h0) (str_ne (l := [98, 111, 114]) h1) (str_ne (l := [98, 120, 111, 114]) h2) (str_ne (l := [98, 97, 100, 100]) h3) (str_ne (l := [98, 115, 117, 98]) h4) (str_ne (l := [98, 109, 117, 108]) h5) (str_ne (l := [98, 108, 101, 102, 116]) h6) (str_ne (l := [98, 114, 105, 103, 104, 116]) h7) (str_ne (l := [98, 97, 114, 105, 116, 104]) h8) (str_ne (l := [98, 110, 111, 116]) h9) r k w⟩

end Go.Proofs.Ytlpmaeemegphiaa
