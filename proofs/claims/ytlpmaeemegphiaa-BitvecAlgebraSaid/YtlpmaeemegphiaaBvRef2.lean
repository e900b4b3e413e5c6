/-
  The contracts of the reference of layer 3: the arithmetic, the shifts, Ones. Nothing is assumed.
-/
import Derived.Test.YtlpmaeemegphiaaBvRef
namespace Go.Proofs.Ytlpmaeemegphiaa
open Go.RowKit

theorem rdistance_any (n : Int) (w : World) : Calls Try.prog 44 #[.int .i64 n] w fun e w' => e = .returned (.int .i64 (dst n)) ∧ w' = w := by
  go_enter Try.func44, Try.ntmps44
  go_wp2_with fail
  go_ret
  refine ⟨ret_int ?_, rfl⟩
  rw [← dst_min]
  omega

theorem rnot_any (a : Int) (w : World) : Calls Try.prog 19 #[.int .i64 a] w fun e w' => e = .returned (.int .i64 (bvNot a)) ∧ w' = w := by
  unfold bvNot
  cases hv : vld a
  · have HV := Lib.hid hv
    go_enter Try.func19, Try.ntmps19
    go_wp2_with (go_at_call 11; refine (rvalid_any _ _).mono ?_; rintro e w' ⟨rfl, rfl⟩)
    go_ret
    exact ⟨rfl, rfl⟩
  · have HV := Lib.hid hv
    have hb := vld_yes hv
    obtain ⟨h0, h1⟩ := hb
    go_enter Try.func19, Try.ntmps19
    go_wp2_with (go_at_call 11; refine (rvalid_any _ _).mono ?_; rintro e w' ⟨rfl, rfl⟩)
    go_ret
    exact ⟨rfl, rfl⟩

set_option maxHeartbeats 800000 in
theorem radd_any (a b : Int) (w : World) : Calls Try.prog 22 #[.int .i64 a, .int .i64 b] w fun e w' => e = .returned (.int .i64 (bvAdd a b)) ∧ w' = w := by
  by_cases hv : vld a = true ∧ vld b = true
  · obtain ⟨ha, hb⟩ := hv
    obtain ⟨h0, h1⟩ := vld_yes ha
    obtain ⟨g0, g1⟩ := vld_yes hb
    have HR := Lib.hid (bvAdd_at ha hb)
    go_enter Try.func22, Try.ntmps22
    go_wp2_with (go_at_call 11; refine (rvalid_any _ _).mono ?_; rintro e w' ⟨rfl, rfl⟩)
    go_ret
    exact ⟨ret_int (by rw [HR.out]), rfl⟩
  · have hz : bvAdd a b = 0 := by unfold bvAdd; rw [if_neg (by simpa using hv)]
    rw [hz]
    clear hz
    cases ha : vld a
    · have HA := Lib.hid ha
      go_enter Try.func22, Try.ntmps22
      go_wp2_with (go_at_call 11; refine (rvalid_any _ _).mono ?_; rintro e w' ⟨rfl, rfl⟩)
      go_ret
      exact ⟨rfl, rfl⟩
    · have hb : vld b = false := by
        cases hb : vld b
        · rfl
        · exact absurd ⟨ha, hb⟩ hv
      clear hv
      go_enter Try.func22, Try.ntmps22
      go_wp2_with (go_at_call 11; refine (rvalid_any _ _).mono ?_; rintro e w' ⟨rfl, rfl⟩)
      go_ret
      exact ⟨rfl, rfl⟩

set_option maxHeartbeats 800000 in
theorem rsub_any (a b : Int) (w : World) : Calls Try.prog 24 #[.int .i64 a, .int .i64 b] w fun e w' => e = .returned (.int .i64 (bvSub a b)) ∧ w' = w := by
  by_cases hv : vld a = true ∧ vld b = true
  · obtain ⟨ha, hb⟩ := hv
    obtain ⟨h0, h1⟩ := vld_yes ha
    obtain ⟨g0, g1⟩ := vld_yes hb
    have HR := Lib.hid (bvSub_at ha hb)
    go_enter Try.func24, Try.ntmps24
    go_wp2_with (go_at_call 11; refine (rvalid_any _ _).mono ?_; rintro e w' ⟨rfl, rfl⟩)
    go_ret
    exact ⟨ret_int (by rw [HR.out]; omega), rfl⟩
  · have hz : bvSub a b = 0 := by unfold bvSub; rw [if_neg (by simpa using hv)]
    rw [hz]
    clear hz
    cases ha : vld a
    · have HA := Lib.hid ha
      go_enter Try.func24, Try.ntmps24
      go_wp2_with (go_at_call 11; refine (rvalid_any _ _).mono ?_; rintro e w' ⟨rfl, rfl⟩)
      go_ret
      exact ⟨rfl, rfl⟩
    · have hb : vld b = false := by
        cases hb : vld b
        · rfl
        · exact absurd ⟨ha, hb⟩ hv
      clear hv
      go_enter Try.func24, Try.ntmps24
      go_wp2_with (go_at_call 11; refine (rvalid_any _ _).mono ?_; rintro e w' ⟨rfl, rfl⟩)
      go_ret
      exact ⟨rfl, rfl⟩

set_option maxHeartbeats 800000 in
theorem rmul_any (a b : Int) (w : World) : Calls Try.prog 26 #[.int .i64 a, .int .i64 b] w fun e w' => e = .returned (.int .i64 (bvMul a b)) ∧ w' = w := by
  by_cases hv : vld a = true ∧ vld b = true
  · obtain ⟨ha, hb⟩ := hv
    obtain ⟨h0, h1⟩ := vld_yes ha
    obtain ⟨g0, g1⟩ := vld_yes hb
    have hm0 : 0 ≤ a * b := Int.mul_nonneg h0 g0
    have hm1 : a * b ≤ 255 * 255 := Int.mul_le_mul h1 g1 g0 (by omega)
    have HR := Lib.hid (bvMul_at ha hb)
    go_enter Try.func26, Try.ntmps26
    go_wp2_with (go_at_call 11; refine (rvalid_any _ _).mono ?_; rintro e w' ⟨rfl, rfl⟩)
    go_ret
    exact ⟨ret_int (by rw [HR.out]), rfl⟩
  · have hz : bvMul a b = 0 := by unfold bvMul; rw [if_neg (by simpa using hv)]
    rw [hz]
    clear hz
    cases ha : vld a
    · have HA := Lib.hid ha
      go_enter Try.func26, Try.ntmps26
      go_wp2_with (go_at_call 11; refine (rvalid_any _ _).mono ?_; rintro e w' ⟨rfl, rfl⟩)
      go_ret
      exact ⟨rfl, rfl⟩
    · have hb : vld b = false := by
        cases hb : vld b
        · rfl
        · exact absurd ⟨ha, hb⟩ hv
      clear hv
      go_enter Try.func26, Try.ntmps26
      go_wp2_with (go_at_call 11; refine (rvalid_any _ _).mono ?_; rintro e w' ⟨rfl, rfl⟩)
      go_ret
      exact ⟨rfl, rfl⟩

set_option maxHeartbeats 800000 in
theorem rleft_any (a n : Int) (w : World) : Calls Try.prog 28 #[.int .i64 a, .int .i64 n] w fun e w' => e = .returned (.int .i64 (bvLeft a n)) ∧ w' = w := by
  cases hv : vld a
  · have HV := Lib.hid hv
    go_enter Try.func28, Try.ntmps28
    go_wp2_with (go_at_call 11; refine (rvalid_any _ _).mono ?_; rintro e w' ⟨rfl, rfl⟩)
    go_ret
    exact ⟨ret_int (by unfold bvLeft; rw [HV.out]; rfl), rfl⟩
  · have HV := Lib.hid hv
    obtain ⟨h0, h1⟩ := vld_yes hv
    have hd := dst_le n
    have HP := fun w => power_any (dst n) hd w
    have hpw := pow_bd (dst n) hd
    have HX := Lib.hid (arith_ref a (dst n) hd)
    have hR : bvLeft a n = a * (2 : Int) ^ dst n % 256 := by unfold bvLeft; rw [if_pos hv]
    have HR := Lib.hid hR; clear hR
    generalize (2 : Int) ^ dst n = P at *
    obtain ⟨p0, p1⟩ := hpw
    have hm0 : 0 ≤ a * P := Int.mul_nonneg h0 (by omega)
    have hm1 : a * P ≤ 255 * 256 := Int.mul_le_mul h1 p1 (by omega) (by omega)
    go_enter Try.func28, Try.ntmps28
    go_wp2_with (first | (go_at_call 11; refine (rvalid_any _ _).mono ?_; rintro e w' ⟨rfl, rfl⟩) | (go_at_call 44; refine (rdistance_any _ _).mono ?_; rintro e w' ⟨rfl, rfl⟩) | (go_at_call 43; refine (HP _).mono ?_; rintro e w' ⟨rfl, rfl⟩))
    go_ret
    exact ⟨ret_int HR.out.symm, rfl⟩

set_option maxHeartbeats 800000 in
theorem rright_any (a n : Int) (w : World) : Calls Try.prog 30 #[.int .i64 a, .int .i64 n] w fun e w' => e = .returned (.int .i64 (bvRight a n)) ∧ w' = w := by
  cases hv : vld a
  · have HV := Lib.hid hv
    go_enter Try.func30, Try.ntmps30
    go_wp2_with (go_at_call 11; refine (rvalid_any _ _).mono ?_; rintro e w' ⟨rfl, rfl⟩)
    go_ret
    exact ⟨ret_int (by unfold bvRight; rw [HV.out]; rfl), rfl⟩
  · have HV := Lib.hid hv
    obtain ⟨h0, h1⟩ := vld_yes hv
    have hd := dst_le n
    have HP := fun w => power_any (dst n) hd w
    have hpw := pow_bd (dst n) hd
    have HX := Lib.hid (arith_ref a (dst n) hd)
    have hR : bvRight a n = a / (2 : Int) ^ dst n := by unfold bvRight; rw [if_pos hv]
    have HR := Lib.hid hR; clear hR
    generalize (2 : Int) ^ dst n = P at *
    obtain ⟨p0, p1⟩ := hpw
    have hq : 0 ≤ a / P := Int.ediv_nonneg h0 (by omega)
    go_enter Try.func30, Try.ntmps30
    go_wp2_with (first | (go_at_call 11; refine (rvalid_any _ _).mono ?_; rintro e w' ⟨rfl, rfl⟩) | (go_at_call 44; refine (rdistance_any _ _).mono ?_; rintro e w' ⟨rfl, rfl⟩) | (go_at_call 43; refine (HP _).mono ?_; rintro e w' ⟨rfl, rfl⟩))
    go_ret
    exact ⟨ret_int HR.out.symm, rfl⟩

set_option maxHeartbeats 800000 in
theorem rarith_any (a n : Int) (w : World) : Calls Try.prog 32 #[.int .i64 a, .int .i64 n] w fun e w' => e = .returned (.int .i64 (bvArith a n)) ∧ w' = w := by
  cases hv : vld a
  · have HV := Lib.hid hv
    go_enter Try.func32, Try.ntmps32
    go_wp2_with (go_at_call 11; refine (rvalid_any _ _).mono ?_; rintro e w' ⟨rfl, rfl⟩)
    go_ret
    exact ⟨ret_int (by unfold bvArith; rw [HV.out]; rfl), rfl⟩
  · have HV := Lib.hid hv
    obtain ⟨h0, h1⟩ := vld_yes hv
    have hd := dst_le n
    have HP := fun w => power_any (dst n) hd w
    have hpw := pow_bd (dst n) hd
    have HX := Lib.hid (arith_ref a (dst n) hd)
    have hR : bvArith a n = sgn a / (2 : Int) ^ dst n % 256 := by unfold bvArith; rw [if_pos hv]
    have HR := Lib.hid hR; clear hR
    generalize (2 : Int) ^ dst n = P at *
    obtain ⟨p0, p1⟩ := hpw
    by_cases hs : 128 ≤ a
    · have hq : 0 ≤ (a - 256 + 256 * P) / P := Int.ediv_nonneg (by omega) (by omega)
      go_enter Try.func32, Try.ntmps32
      go_wp2_with (first | (go_at_call 11; refine (rvalid_any _ _).mono ?_; rintro e w' ⟨rfl, rfl⟩) | (go_at_call 44; refine (rdistance_any _ _).mono ?_; rintro e w' ⟨rfl, rfl⟩) | (go_at_call 43; refine (HP _).mono ?_; rintro e w' ⟨rfl, rfl⟩))
      go_ret
      exact ⟨ret_int (by rw [HR.out, ← HX.out hs]), rfl⟩
    · have hq : 0 ≤ a / P := Int.ediv_nonneg h0 (by omega)
      go_enter Try.func32, Try.ntmps32
      go_wp2_with (first | (go_at_call 11; refine (rvalid_any _ _).mono ?_; rintro e w' ⟨rfl, rfl⟩) | (go_at_call 44; refine (rdistance_any _ _).mono ?_; rintro e w' ⟨rfl, rfl⟩) | (go_at_call 43; refine (HP _).mono ?_; rintro e w' ⟨rfl, rfl⟩))
      go_ret
      exact ⟨ret_int (by rw [HR.out]; unfold sgn; rw [if_pos (by omega)]), rfl⟩

set_option maxHeartbeats 800000 in
theorem rones_any (a : Int) (w : World) : Calls Try.prog 34 #[.int .i64 a] w fun e w' => e = .returned (.int .i64 (bvOnes a)) ∧ w' = w := by
  cases hv : vld a
  · have HV := Lib.hid hv
    go_enter Try.func34, Try.ntmps34
    go_wp2_with (go_at_call 11; refine (rvalid_any _ _).mono ?_; rintro e w' ⟨rfl, rfl⟩)
    go_ret
    exact ⟨ret_int (by unfold bvOnes; rw [HV.out]; rfl), rfl⟩
  · have HV := Lib.hid hv
    have hR : bvOnes a = ones a 8 := by unfold bvOnes; rw [if_pos hv]
    have HR := Lib.hid hR; clear hR
    go_enter Try.func34, Try.ntmps34
    go_wp2_with (go_at_call 11; refine (rvalid_any _ _).mono ?_; rintro e w' ⟨rfl, rfl⟩)
    go_loop [3, 4] (fun o i => ∃ k : Nat, k ≤ 8 ∧ i = .int .i64 k ∧ o = .int .i64 (ones a k)) (fun _ i => 8 - (intOf i).toNat)
    case atStart => exact ⟨0, Nat.zero_le _, rfl, rfl⟩
    case round =>
      obtain ⟨k, hk, rfl, rfl⟩ := hrel
      by_cases hlt : k < 8
      · have hbd := ones_bd a k
        have HS := Lib.hid (show ones a (k + 1) = ones a k + bt a k from rfl)
        have hb := bt_01 a k
        have hb0 : 0 ≤ bt a k := by omega
        have hb1 : bt a k ≤ 1 := by omega
        clear hb
        go_wp2_with (go_at_call 47; refine (bit_any _ _ HV.out hk _).mono ?_; rintro e w' ⟨rfl, rfl⟩)
        go_round
        case rel => exact ⟨k + 1, hlt, by go_num, by rw [HS.out]⟩
        case measure => simp [intOf]; omega
      · obtain rfl : k = 8 := by omega
        go_wp2_with fail
        go_ret
        exact ⟨ret_int HR.out.symm, rfl⟩

end Go.Proofs.Ytlpmaeemegphiaa
