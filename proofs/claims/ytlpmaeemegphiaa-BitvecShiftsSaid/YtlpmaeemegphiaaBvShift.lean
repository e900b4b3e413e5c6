/-
  The contracts of the shifts, of Ones and Text of layer 3's package. Nothing is assumed.
-/
import Derived.Test.YtlpmaeemegphiaaBvOps
import Derived.Test.YtlpmaeemegphiaaShelf
import Derived.Lib.BitFns
namespace Go.Proofs.Ytlpmaeemegphiaa
open Go.RowKit

theorem dst_min (n : Int) : min (max n 0) 8 = (dst n : Int) := by
  unfold dst
  split
  · omega
  · split <;> omega

theorem distance_any (n : Int) (w : World) : Calls Try.prog 42 #[.int .i64 n] w fun e w' => e = .returned (.int .i64 (dst n)) ∧ w' = w := by
  go_enter Try.func42, Try.ntmps42
  go_wp2_with fail
  go_ret
  exact ⟨ret_int (dst_min n), rfl⟩

def sgw (a : Int) : Int := if a < 128 then a else wrap64 (a - 256)
theorem sgw_at (a : Int) (h : vld a = true) : sgw a = sgn a := by
  have := vld_yes h
  unfold sgw sgn wrap64
  split
  · rfl
  · omega
theorem signed_any (a : Int) (w : World) : Calls Try.prog 45 #[.int .i64 a] w fun e w' => e = .returned (.int .i64 (sgw a)) ∧ w' = w := by
  by_cases hs : a < 128
  · go_enter Try.func45, Try.ntmps45
    go_wp2
    go_ret
    exact ⟨ret_int (by unfold sgw; rw [if_pos hs]), rfl⟩
  · go_enter Try.func45, Try.ntmps45
    go_wp2
    go_ret
    exact ⟨ret_int (by unfold sgw; rw [if_neg (by omega)]), rfl⟩

theorem one_cell (a : Int) (w : World) (t : TypeId) : ∀ (i : Nat) z, [a][i]? = some z → (w.alloc (.cells #[.int .i64 a] t)).cell? ⟨w.heap.size, i, none⟩ = some (.int .i64 z) := fun i z h => by
  match i, h with
  | 0, h => simp at h; subst h; simp
  | i + 1, h => simp at h

set_option maxHeartbeats 800000 in
theorem left_any (a n : Int) (w : World) : Calls Try.prog 27 #[.int .i64 a, .int .i64 n] w fun e w' => e = .returned (.int .i64 (bvLeft a n)) ∧ Below w.heap.size w w' := by
  have hd := dst_le n
  go_enter Try.func27, Try.ntmps27
  go_wp2_with (go_at_call 42; refine (distance_any _ _).mono ?_; rintro e w' ⟨rfl, rfl⟩)
  refine (modulo_any (wrap64 (a * 2 ^ dst n)) [a] _ 1 _ (by simp) (one_cell a _ _)).mono ?_
  rintro e w' ⟨rfl, rfl⟩
  rw [md_left]
  go_wp2_with fail
  go_ret
  exact ⟨rfl, below1 _ _⟩

set_option maxHeartbeats 800000 in
theorem right_any (a n : Int) (w : World) : Calls Try.prog 29 #[.int .i64 a, .int .i64 n] w fun e w' => e = .returned (.int .i64 (bvRight a n)) ∧ Below w.heap.size w w' := by
  have hd := dst_le n
  go_enter Try.func29, Try.ntmps29
  go_wp2_with (go_at_call 42; refine (distance_any _ _).mono ?_; rintro e w' ⟨rfl, rfl⟩)
  refine (modulo_any (a / 2 ^ dst n) [a] _ 1 _ (by simp) (one_cell a _ _)).mono ?_
  rintro e w' ⟨rfl, rfl⟩
  rw [md_right]
  go_wp2_with fail
  go_ret
  exact ⟨rfl, below1 _ _⟩

theorem md_arith' (a n : Int) : md (sgw a / 2 ^ dst n) [a] = bvArith a n := md_one _ _ _ fun h => by rw [sgw_at a h]
set_option maxHeartbeats 800000 in
theorem arith_any (a n : Int) (w : World) : Calls Try.prog 31 #[.int .i64 a, .int .i64 n] w fun e w' => e = .returned (.int .i64 (bvArith a n)) ∧ Below w.heap.size w w' := by
  have hd := dst_le n
  go_enter Try.func31, Try.ntmps31
  go_wp2_with (first | (go_at_call 45; refine (signed_any _ _).mono ?_; rintro e w' ⟨rfl, rfl⟩) | (go_at_call 42; refine (distance_any _ _).mono ?_; rintro e w' ⟨rfl, rfl⟩))
  refine (modulo_any (sgw a / 2 ^ dst n) [a] _ 1 _ (by simp) (one_cell a _ _)).mono ?_
  rintro e w' ⟨rfl, rfl⟩
  rw [md_arith']
  go_wp2_with fail
  go_ret
  exact ⟨rfl, below1 _ _⟩

theorem pop_ones : ∀ n : Fin 256, (Lib.onesCount n.val : Int) = ones (n.val : Int) 8 := by decide +kernel
theorem pop_bv (a : Int) (h : vld a = true) : (Lib.onesCount a.toNat : Int) = bvOnes a := by
  obtain ⟨h0, h1⟩ := vld_yes h
  have e := pop_ones ⟨a.toNat, by omega⟩
  simp only [Int.toNat_of_nonneg h0] at e
  unfold bvOnes
  rw [if_pos h]
  exact e

set_option maxHeartbeats 800000 in
theorem ones_any (a : Int) (w : World) : Calls Try.prog 33 #[.int .i64 a] w fun e w' => e = .returned (.int .i64 (bvOnes a)) ∧ w' = w := by
  cases hv : vld a
  · have HV := Lib.hid hv
    go_enter Try.func33, Try.ntmps33
    go_wp2_with (go_at_call 10; refine (valid_any _ _).mono ?_; rintro e w' ⟨rfl, rfl⟩)
    go_ret
    exact ⟨ret_int (by unfold bvOnes; rw [HV.out]; rfl), rfl⟩
  · have HV := Lib.hid hv
    have hb := vld_yes hv
    go_enter Try.func33, Try.ntmps33
    go_wp2_with (first | (go_at_call 10; refine (valid_any _ _).mono ?_; rintro e w' ⟨rfl, rfl⟩) | (go_at_call 46; refine (Try.bits_OnesCount8 a _ hb.1 hb.2).mono ?_; rintro e w' ⟨rfl, rfl⟩))
    go_ret
    exact ⟨ret_int (pop_bv a HV.out), rfl⟩
end Go.Proofs.Ytlpmaeemegphiaa
