/-
  The walks of Check, of the program and of the reference.
-/
import Derived.Test.YthnlkijkgnmbhaaDoorNames
namespace Go.Proofs.YthnlkijkgnmbhaaDoor
open Go.RowKit

set_option maxHeartbeats 400000 in
theorem checkRange_any (n lo hi : Int) (w : World) :
    Calls Tryd.prog 84 #[.int .i64 n, .int .i64 lo, .int .i64 hi] w fun e w' => e = .returned (.int .i64 (chkRange n lo hi)) ∧ w = w' := by
  by_cases h1 : n < lo
  · have hz : chkRange n lo hi = 1 := if_pos (.inl h1)
    have HZ := Lib.hid hz; clear hz
    go_enter Tryd.func84, Tryd.ntmps84
    go_wp2_with fail
    go_ret
    exact ⟨ret_int HZ.out.symm, rfl⟩
  by_cases h2 : hi < n
  · have hz : chkRange n lo hi = 1 := if_pos (.inr h2)
    have HZ := Lib.hid hz; clear hz
    go_enter Tryd.func84, Tryd.ntmps84
    go_wp2_with fail
    go_ret
    exact ⟨ret_int HZ.out.symm, rfl⟩
  · have hz : chkRange n lo hi = 0 := if_neg (by omega)
    have HZ := Lib.hid hz; clear hz
    go_enter Tryd.func84, Tryd.ntmps84
    go_wp2_with fail
    go_ret
    exact ⟨ret_int HZ.out.symm, rfl⟩

theorem drop_byte (s : ByteArray) (k : Nat) (h : k < s.size) : s.data.toList.drop k = s[k] :: s.data.toList.drop (k + 1) := by
  rw [List.drop_eq_getElem_cons (by simpa using h)]; rfl

theorem chkText_in {s : ByteArray} {a b : Nat} (h1 : a ≤ s.size) (h2 : s.size ≤ b) : chkText s a b = chkBytes s.data.toList := by
  unfold chkText; rw [if_neg (by omega)]
theorem chkText_out {s : ByteArray} {a b : Nat} (h : s.size < a ∨ b < s.size) : chkText s a b = 2 := by unfold chkText; rw [if_pos h]

set_option maxHeartbeats 800000 in
theorem checkText_any (s : ByteArray) (w : World) :
    Calls Tryd.prog 85 #[.string s] w fun e w' => e = .returned (.int .i64 (chkText s 0 64)) ∧ w = w' := by
  by_cases hl : 64 < (s.size : Int)
  · have HZ := Lib.hid (chkText_out (s := s) (a := 0) (b := 64) (by omega))
    go_enter Tryd.func85, Tryd.ntmps85
    go_wp2_with fail
    go_ret
    exact ⟨ret_int HZ.out.symm, rfl⟩
  · have HZ := Lib.hid (chkText_in (s := s) (a := 0) (b := 64) (by omega) (by omega))
    go_enter Tryd.func85, Tryd.ntmps85
    go_wp2_with fail
    go_loop [9] (fun i => ∃ k : Nat, k ≤ s.size ∧ i = .int .i64 k ∧ chkBytes (s.data.toList.drop k) = chkBytes s.data.toList) (fun i => s.size - (intOf i).toNat)
    case atStart => exact ⟨0, Nat.zero_le _, rfl, rfl⟩
    case round =>
      obtain ⟨k, hk, rfl, hd⟩ := hrel
      have HD := Lib.hid hd; clear hd
      by_cases hlt : k < s.size
      · have HS := Lib.hid (drop_byte s k hlt)
        by_cases h1 : (s[k].toNat : Int) < 32
        · go_wp2_with fail
          go_ret
          exact ⟨ret_int (by rw [HZ.out, ← HD.out, HS.out, chkBytes_bad _ _ (by simp [badByte]; omega)]), rfl⟩
        by_cases h2 : 126 < (s[k].toNat : Int)
        · go_wp2_with fail
          go_ret
          exact ⟨ret_int (by rw [HZ.out, ← HD.out, HS.out, chkBytes_bad _ _ (by simp [badByte]; omega)]), rfl⟩
        · go_wp2_with fail
          go_round
          case rel => exact ⟨k + 1, hlt, by go_num, by rw [← HD.out, HS.out, chkBytes_good _ _ (by simp [badByte]; omega)]⟩
          case measure => simp [intOf]; omega
      · go_wp2_with fail
        go_ret
        exact ⟨ret_int (by rw [HZ.out, ← HD.out, List.drop_of_length_le (by simp; omega)]; rfl), rfl⟩

theorem str_nil {s : ByteArray} (h : s.toList = []) : s.size = 0 := by
  rw [ByteArray.toList_eq] at h
  have := congrArg List.length h
  simpa using this
theorem str_some {s : ByteArray} (h : ¬s.toList = []) : s.size ≠ 0 := fun e => h (by
  rw [ByteArray.toList_eq]
  exact List.eq_nil_of_length_eq_zero (by simpa using e))

set_option maxHeartbeats 3200000 in
theorem hasUnused_any (t n : Int) (s : ByteArray) (oa : Option Addr) (len cap : Nat) (w : World) (h1 : 1 ≤ t) (h8 : t ≤ 8) :
    Calls Tryd.prog 83 #[.agg #[.int .i64 t, .int .i64 n, .string s, .slice oa len cap]] w fun e w' => e = .returned (.bool (badForm t n s len)) ∧ Below w.heap.size w w' := by
  rcases ty_cases h1 h8 with rfl | rfl | rfl | rfl | rfl | rfl | rfl | rfl
  all_goals
    clear h1 h8
    go_enter Tryd.func83, Tryd.ntmps83
    go_wp2_with fail
    all_goals
      go_ret
      refine ⟨ret_bool ?_, below1 _ _⟩
      first
        | (have hs := str_nil ‹s.toList = []›; simp_all [badForm, usesNum, usesText, usesItems]; done)
        | (have hs := str_some ‹¬s.toList = []›; simp_all [badForm, usesNum, usesText, usesItems]; done)
        | (simp_all [badForm, usesNum, usesText, usesItems]; done)
        | skip

end Go.Proofs.YthnlkijkgnmbhaaDoor
