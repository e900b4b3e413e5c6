/-
  The contracts of the reference of layer 3: what each function returns. Nothing is assumed.
-/
import Derived.Test.YtlpmaeemegphiaaBvShift
namespace Go.Proofs.Ytlpmaeemegphiaa
open Go.RowKit

theorem rvalid_any (a : Int) (w : World) : Calls Try.prog 11 #[.int .i64 a] w fun e w' => e = .returned (.bool (vld a)) ∧ w' = w := by
  cases h : vld a
  · rcases vld_no h with h1 | h1
    · clear h
      go_enter Try.func11, Try.ntmps11
      go_wp2
      go_ret
      exact ⟨rfl, rfl⟩
    · clear h
      have h2 : 0 ≤ a := by omega
      have h3 : decide (a ≤ 255) = false := by simpa using h1
      go_enter Try.func11, Try.ntmps11
      go_wp2
      go_ret
      exact ⟨rfl, rfl⟩
  · obtain ⟨h1, h2⟩ := vld_yes h
    clear h
    go_enter Try.func11, Try.ntmps11
    go_wp2
    go_ret
    exact ⟨rfl, rfl⟩

set_option maxHeartbeats 400000 in
theorem power_any (n : Nat) (hn : n ≤ 8) (w : World) : Calls Try.prog 43 #[.int .i64 n] w fun e w' => e = .returned (.int .i64 ((2 : Int) ^ n)) ∧ w' = w := by
  go_enter Try.func43, Try.ntmps43
  go_wp2_with fail
  go_loop [3, 4] (fun p i => ∃ k : Nat, k ≤ n ∧ i = .int .i64 k ∧ p = .int .i64 ((2 : Int) ^ k)) (fun _ i => n - (intOf i).toNat)
  case atStart => exact ⟨0, Nat.zero_le _, rfl, rfl⟩
  case round =>
    obtain ⟨k, hk, rfl, rfl⟩ := hrel
    have hb := pow_bd k (by omega)
    have HS := Lib.hid (pow_step k)
    generalize hP : (2 : Int) ^ k = P at *
    have HP := Lib.hid hP; clear hP
    by_cases hlt : k < n
    · go_wp2_with fail
      go_round
      case rel => exact ⟨k + 1, hlt, by go_num, by rw [HS.out]⟩
      case measure => simp [intOf]; omega
    · obtain rfl : k = n := by omega
      go_wp2_with fail
      go_ret
      exact ⟨ret_int HP.out.symm, rfl⟩

set_option maxHeartbeats 400000 in
theorem bit_any (a : Int) (i : Nat) (ha : vld a = true) (hi : i ≤ 8) (w : World) : Calls Try.prog 47 #[.int .i64 a, .int .i64 i] w fun e w' => e = .returned (.int .i64 (bt a i)) ∧ w' = w := by
  obtain ⟨h0, h1⟩ := vld_yes ha
  clear ha
  have hb := pow_bd i hi
  have H := power_any i hi
  unfold bt
  generalize (2 : Int) ^ i = P at *
  have hq : 0 ≤ a / P := Int.ediv_nonneg h0 (by omega)
  go_enter Try.func47, Try.ntmps47
  go_wp2_with (go_at_call 43; refine (H _).mono ?_; rintro e w' ⟨rfl, rfl⟩)
  go_ret
  exact ⟨rfl, rfl⟩

-- BITS

set_option maxRecDepth 100000 in
set_option maxHeartbeats 800000 in
theorem bits0_any (a b : Int) (w : World) : Calls Try.prog 41 #[.int .i64 0, .int .i64 a, .int .i64 b] w fun e w' => e = .returned (.int .i64 (bvB 0 a b)) ∧ w' = w := by
  by_cases hv : vld a = true ∧ vld b = true
  · obtain ⟨ha, hb⟩ := hv
    have HA := Lib.hid ha
    have HB := Lib.hid hb
    have HR := Lib.hid (accB_bv 0 a b ha hb)
    have HBD := Lib.hid (accB_bd 0 a b ha hb)
    go_enter Try.func41, Try.ntmps41
    go_wp2_with (go_at_call 11; refine (rvalid_any _ _).mono ?_; rintro e w' ⟨rfl, rfl⟩)
    clear ha hb
    go_loop [7, 8] (fun o i => ∃ k : Nat, k ≤ 8 ∧ i = .int .i64 k ∧ o = .int .i64 (accB 0 a b k)) (fun _ i => 8 - (intOf i).toNat)
    case atStart => exact ⟨0, Nat.zero_le _, rfl, rfl⟩
    case round =>
      obtain ⟨k, hk, rfl, rfl⟩ := hrel
      have hbd := HBD.out k
      by_cases hlt : k < 8
      · have hbd1 := HBD.out (k + 1)
        have hpw := pow_bd k hk
        have hstep : accB 0 a b (k + 1) = accB 0 a b k + if hit 0 (bt a k + bt b k) then (2 : Int) ^ k else 0 := rfl
        have HP := fun w => power_any k hk w
        generalize (2 : Int) ^ k = P at *
        rcases bt_01 a k with h1 | h1 <;> rcases bt_01 b k with h2 | h2
        all_goals
          rw [h1, h2] at hstep
          have HS := Lib.hid hstep; clear hstep
          clear hbd1
          generalize accB 0 a b k = A at *
          go_wp2_with (first | (go_at_call 47; refine (bit_any _ _ (by first | exact HA.out | exact HB.out) hk _).mono ?_; rintro e w' ⟨rfl, rfl⟩) | (go_at_call 43; refine (HP _).mono ?_; rintro e w' ⟨rfl, rfl⟩))
          go_round
          case rel => exact ⟨k + 1, hlt, by go_num, by rw [HS.out]; first | rfl | (rw [show (if hit _ _ then P else 0) = 0 from rfl, Int.add_zero])⟩
          case measure => simp [intOf]; omega
      · obtain rfl : k = 8 := by omega
        go_wp2_with fail
        go_ret
        exact ⟨ret_int HR.out, rfl⟩
  · have hz : bvB 0 a b = 0 := by unfold bvB; rw [if_neg (by simpa using hv)]
    rw [hz]
    clear hz
    cases ha : vld a
    · have HA := Lib.hid ha
      go_enter Try.func41, Try.ntmps41
      go_wp2_with (go_at_call 11; refine (rvalid_any _ _).mono ?_; rintro e w' ⟨rfl, rfl⟩)
      go_ret
      exact ⟨rfl, rfl⟩
    · have hb : vld b = false := by
        cases hb : vld b
        · rfl
        · exact absurd ⟨ha, hb⟩ hv
      clear hv
      go_enter Try.func41, Try.ntmps41
      go_wp2_with (go_at_call 11; refine (rvalid_any _ _).mono ?_; rintro e w' ⟨rfl, rfl⟩)
      go_ret
      exact ⟨rfl, rfl⟩

theorem rand_any (a b : Int) (w : World) : Calls Try.prog 13 #[.int .i64 a, .int .i64 b] w fun e w' => e = .returned (.int .i64 (bvB 0 a b)) ∧ w' = w := by
  go_enter Try.func13, Try.ntmps13
  go_wp2_with (go_at_call 41; refine (bits0_any _ _ _).mono ?_; rintro e w' ⟨rfl, rfl⟩)
  go_ret
  exact ⟨rfl, rfl⟩

set_option maxRecDepth 100000 in
set_option maxHeartbeats 800000 in
theorem bits1_any (a b : Int) (w : World) : Calls Try.prog 41 #[.int .i64 1, .int .i64 a, .int .i64 b] w fun e w' => e = .returned (.int .i64 (bvB 1 a b)) ∧ w' = w := by
  by_cases hv : vld a = true ∧ vld b = true
  · obtain ⟨ha, hb⟩ := hv
    have HA := Lib.hid ha
    have HB := Lib.hid hb
    have HR := Lib.hid (accB_bv 1 a b ha hb)
    have HBD := Lib.hid (accB_bd 1 a b ha hb)
    go_enter Try.func41, Try.ntmps41
    go_wp2_with (go_at_call 11; refine (rvalid_any _ _).mono ?_; rintro e w' ⟨rfl, rfl⟩)
    clear ha hb
    go_loop [7, 8] (fun o i => ∃ k : Nat, k ≤ 8 ∧ i = .int .i64 k ∧ o = .int .i64 (accB 1 a b k)) (fun _ i => 8 - (intOf i).toNat)
    case atStart => exact ⟨0, Nat.zero_le _, rfl, rfl⟩
    case round =>
      obtain ⟨k, hk, rfl, rfl⟩ := hrel
      have hbd := HBD.out k
      by_cases hlt : k < 8
      · have hbd1 := HBD.out (k + 1)
        have hpw := pow_bd k hk
        have hstep : accB 1 a b (k + 1) = accB 1 a b k + if hit 1 (bt a k + bt b k) then (2 : Int) ^ k else 0 := rfl
        have HP := fun w => power_any k hk w
        generalize (2 : Int) ^ k = P at *
        rcases bt_01 a k with h1 | h1 <;> rcases bt_01 b k with h2 | h2
        all_goals
          rw [h1, h2] at hstep
          have HS := Lib.hid hstep; clear hstep
          clear hbd1
          generalize accB 1 a b k = A at *
          go_wp2_with (first | (go_at_call 47; refine (bit_any _ _ (by first | exact HA.out | exact HB.out) hk _).mono ?_; rintro e w' ⟨rfl, rfl⟩) | (go_at_call 43; refine (HP _).mono ?_; rintro e w' ⟨rfl, rfl⟩))
          go_round
          case rel => exact ⟨k + 1, hlt, by go_num, by rw [HS.out]; first | rfl | (rw [show (if hit _ _ then P else 0) = 0 from rfl, Int.add_zero])⟩
          case measure => simp [intOf]; omega
      · obtain rfl : k = 8 := by omega
        go_wp2_with fail
        go_ret
        exact ⟨ret_int HR.out, rfl⟩
  · have hz : bvB 1 a b = 0 := by unfold bvB; rw [if_neg (by simpa using hv)]
    rw [hz]
    clear hz
    cases ha : vld a
    · have HA := Lib.hid ha
      go_enter Try.func41, Try.ntmps41
      go_wp2_with (go_at_call 11; refine (rvalid_any _ _).mono ?_; rintro e w' ⟨rfl, rfl⟩)
      go_ret
      exact ⟨rfl, rfl⟩
    · have hb : vld b = false := by
        cases hb : vld b
        · rfl
        · exact absurd ⟨ha, hb⟩ hv
      clear hv
      go_enter Try.func41, Try.ntmps41
      go_wp2_with (go_at_call 11; refine (rvalid_any _ _).mono ?_; rintro e w' ⟨rfl, rfl⟩)
      go_ret
      exact ⟨rfl, rfl⟩

theorem ror_any (a b : Int) (w : World) : Calls Try.prog 15 #[.int .i64 a, .int .i64 b] w fun e w' => e = .returned (.int .i64 (bvB 1 a b)) ∧ w' = w := by
  go_enter Try.func15, Try.ntmps15
  go_wp2_with (go_at_call 41; refine (bits1_any _ _ _).mono ?_; rintro e w' ⟨rfl, rfl⟩)
  go_ret
  exact ⟨rfl, rfl⟩

set_option maxRecDepth 100000 in
set_option maxHeartbeats 800000 in
theorem bits2_any (a b : Int) (w : World) : Calls Try.prog 41 #[.int .i64 2, .int .i64 a, .int .i64 b] w fun e w' => e = .returned (.int .i64 (bvB 2 a b)) ∧ w' = w := by
  by_cases hv : vld a = true ∧ vld b = true
  · obtain ⟨ha, hb⟩ := hv
    have HA := Lib.hid ha
    have HB := Lib.hid hb
    have HR := Lib.hid (accB_bv 2 a b ha hb)
    have HBD := Lib.hid (accB_bd 2 a b ha hb)
    go_enter Try.func41, Try.ntmps41
    go_wp2_with (go_at_call 11; refine (rvalid_any _ _).mono ?_; rintro e w' ⟨rfl, rfl⟩)
    clear ha hb
    go_loop [7, 8] (fun o i => ∃ k : Nat, k ≤ 8 ∧ i = .int .i64 k ∧ o = .int .i64 (accB 2 a b k)) (fun _ i => 8 - (intOf i).toNat)
    case atStart => exact ⟨0, Nat.zero_le _, rfl, rfl⟩
    case round =>
      obtain ⟨k, hk, rfl, rfl⟩ := hrel
      have hbd := HBD.out k
      by_cases hlt : k < 8
      · have hbd1 := HBD.out (k + 1)
        have hpw := pow_bd k hk
        have hstep : accB 2 a b (k + 1) = accB 2 a b k + if hit 2 (bt a k + bt b k) then (2 : Int) ^ k else 0 := rfl
        have HP := fun w => power_any k hk w
        generalize (2 : Int) ^ k = P at *
        rcases bt_01 a k with h1 | h1 <;> rcases bt_01 b k with h2 | h2
        all_goals
          rw [h1, h2] at hstep
          have HS := Lib.hid hstep; clear hstep
          clear hbd1
          generalize accB 2 a b k = A at *
          go_wp2_with (first | (go_at_call 47; refine (bit_any _ _ (by first | exact HA.out | exact HB.out) hk _).mono ?_; rintro e w' ⟨rfl, rfl⟩) | (go_at_call 43; refine (HP _).mono ?_; rintro e w' ⟨rfl, rfl⟩))
          go_round
          case rel => exact ⟨k + 1, hlt, by go_num, by rw [HS.out]; first | rfl | (rw [show (if hit _ _ then P else 0) = 0 from rfl, Int.add_zero])⟩
          case measure => simp [intOf]; omega
      · obtain rfl : k = 8 := by omega
        go_wp2_with fail
        go_ret
        exact ⟨ret_int HR.out, rfl⟩
  · have hz : bvB 2 a b = 0 := by unfold bvB; rw [if_neg (by simpa using hv)]
    rw [hz]
    clear hz
    cases ha : vld a
    · have HA := Lib.hid ha
      go_enter Try.func41, Try.ntmps41
      go_wp2_with (go_at_call 11; refine (rvalid_any _ _).mono ?_; rintro e w' ⟨rfl, rfl⟩)
      go_ret
      exact ⟨rfl, rfl⟩
    · have hb : vld b = false := by
        cases hb : vld b
        · rfl
        · exact absurd ⟨ha, hb⟩ hv
      clear hv
      go_enter Try.func41, Try.ntmps41
      go_wp2_with (go_at_call 11; refine (rvalid_any _ _).mono ?_; rintro e w' ⟨rfl, rfl⟩)
      go_ret
      exact ⟨rfl, rfl⟩

theorem rxor_any (a b : Int) (w : World) : Calls Try.prog 17 #[.int .i64 a, .int .i64 b] w fun e w' => e = .returned (.int .i64 (bvB 2 a b)) ∧ w' = w := by
  go_enter Try.func17, Try.ntmps17
  go_wp2_with (go_at_call 41; refine (bits2_any _ _ _).mono ?_; rintro e w' ⟨rfl, rfl⟩)
  go_ret
  exact ⟨rfl, rfl⟩

end Go.Proofs.Ytlpmaeemegphiaa
