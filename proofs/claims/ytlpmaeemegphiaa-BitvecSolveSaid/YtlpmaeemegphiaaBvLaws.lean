/-
  The laws of the ring and of the Boolean algebra on bit vectors of 8 bits, told in numbers. Nothing is assumed.
-/
import Derived.Test.YtlpmaeemegphiaaBvPlain
namespace Go.Proofs.Ytlpmaeemegphiaa
open Go.RowKit

theorem bvAdd_at {a b : Int} (ha : vld a = true) (hb : vld b = true) : bvAdd a b = (a + b) % 256 := by simp [bvAdd, ha, hb]
theorem bvSub_at {a b : Int} (ha : vld a = true) (hb : vld b = true) : bvSub a b = (a - b) % 256 := by simp [bvSub, ha, hb]
theorem bvMul_at {a b : Int} (ha : vld a = true) (hb : vld b = true) : bvMul a b = a * b % 256 := by simp [bvMul, ha, hb]
theorem vld_mod (n : Int) : vld (n % 256) = true := vld_mk (by omega) (by omega)
theorem bvAdd_vld (a b : Int) : vld (bvAdd a b) = true := by unfold bvAdd; split <;> first | exact vld_mod _ | rfl
theorem bvSub_vld (a b : Int) : vld (bvSub a b) = true := by unfold bvSub; split <;> first | exact vld_mod _ | rfl
theorem bvMul_vld (a b : Int) : vld (bvMul a b) = true := by unfold bvMul; split <;> first | exact vld_mod _ | rfl
theorem bvNot_vld (a : Int) : vld (bvNot a) = true := by
  unfold bvNot
  split
  · rename_i h
    have := vld_yes h
    exact vld_mk (by omega) (by omega)
  · rfl
theorem bvB_vld (kind : Nat) (a b : Int) : vld (bvB kind a b) = true := by
  unfold bvB
  split
  · rename_i h
    obtain ⟨ha, hb⟩ : vld a = true ∧ vld b = true := by simpa using h
    have h1 := vld_yes ha
    have h2 := vld_yes hb
    have := opN_lt kind a.toNat b.toNat (by omega) (by omega)
    exact vld_mk (by omega) (by omega)
  · rfl
theorem bvLeft_vld (a n : Int) : vld (bvLeft a n) = true := by unfold bvLeft; split <;> first | exact vld_mod _ | rfl
theorem bvArith_vld (a n : Int) : vld (bvArith a n) = true := by unfold bvArith; split <;> first | exact vld_mod _ | rfl
theorem bvRight_vld (a n : Int) : vld (bvRight a n) = true := by
  unfold bvRight
  split
  · rename_i h
    have := vld_yes h
    have := right_le a (dst n) (by omega)
    exact vld_mk (by omega) (by omega)
  · rfl

theorem mod_mul (x y : Int) : x % 256 * y % 256 = x * y % 256 := by rw [Int.mul_emod, Int.emod_emod, ← Int.mul_emod]
theorem mul_mod (x y : Int) : x * (y % 256) % 256 = x * y % 256 := by rw [Int.mul_emod, Int.emod_emod, ← Int.mul_emod]

section
variable {a b c : Int}
theorem add_assoc8 (ha : vld a = true) (hb : vld b = true) (hc : vld c = true) : bvAdd (bvAdd a b) c = bvAdd a (bvAdd b c) := by
  rw [bvAdd_at (bvAdd_vld _ _) hc, bvAdd_at ha (bvAdd_vld _ _), bvAdd_at ha hb, bvAdd_at hb hc]
  omega
theorem add_comm8 (ha : vld a = true) (hb : vld b = true) : bvAdd a b = bvAdd b a := by
  rw [bvAdd_at ha hb, bvAdd_at hb ha, Int.add_comm]
theorem add_zero8 (ha : vld a = true) : bvAdd a 0 = a := by
  have := vld_yes ha
  rw [bvAdd_at ha rfl]
  omega
theorem mul_assoc8 (ha : vld a = true) (hb : vld b = true) (hc : vld c = true) : bvMul (bvMul a b) c = bvMul a (bvMul b c) := by
  rw [bvMul_at (bvMul_vld _ _) hc, bvMul_at ha (bvMul_vld _ _), bvMul_at ha hb, bvMul_at hb hc]
  rw [mod_mul, mul_mod, Int.mul_assoc]
theorem mul_comm8 (ha : vld a = true) (hb : vld b = true) : bvMul a b = bvMul b a := by
  rw [bvMul_at ha hb, bvMul_at hb ha, Int.mul_comm]
theorem mul_one8 (ha : vld a = true) : bvMul a 1 = a := by
  have := vld_yes ha
  rw [bvMul_at ha rfl]
  omega
theorem mul_add8 (ha : vld a = true) (hb : vld b = true) (hc : vld c = true) : bvMul a (bvAdd b c) = bvAdd (bvMul a b) (bvMul a c) := by
  rw [bvMul_at ha (bvAdd_vld _ _), bvAdd_at (bvMul_vld _ _) (bvMul_vld _ _), bvMul_at ha hb, bvMul_at ha hc, bvAdd_at hb hc]
  rw [mul_mod, Int.mul_add]
  omega
theorem sub_add8 (ha : vld a = true) (hb : vld b = true) : bvSub (bvAdd a b) b = a := by
  have := vld_yes ha
  have := vld_yes hb
  rw [bvSub_at (bvAdd_vld _ _) hb, bvAdd_at ha hb]
  omega
theorem left_one8 (ha : vld a = true) : bvLeft a 1 = bvAdd a a := by
  rw [bvAdd_at ha ha]
  unfold bvLeft
  rw [if_pos ha]
  have : (2 : Int) ^ dst 1 = 2 := rfl
  rw [this]
  omega
end

theorem not_bit (x i : Nat) (h : x < 2 ^ 8) : (255 - x).testBit i = (decide (i < 8) && !x.testBit i) := by
  have := Nat.testBit_two_pow_sub_succ h i
  rw [← this]
  congr 1
  omega

section
variable {a b c : Int}
theorem bvB_nat (kind x y : Nat) (hx : x < 2 ^ 8) (hy : y < 2 ^ 8) : bvB kind x y = ((opN kind x y : Nat) : Int) := by
  unfold bvB
  rw [vld_mk (by omega) (by omega), vld_mk (by omega) (by omega)]
  simp
theorem bvNot_nat (x : Nat) (hx : x < 2 ^ 8) : bvNot x = ((255 - x : Nat) : Int) := by
  unfold bvNot
  rw [vld_mk (by omega) (by omega), if_pos rfl]
  omega
theorem nat8 (h : vld a = true) : ∃ x : Nat, x < 2 ^ 8 ∧ a = x := by
  have := vld_yes h
  exact ⟨a.toNat, by omega, by omega⟩

theorem morgan8 (ha : vld a = true) (hb : vld b = true) : bvNot (bvB 0 a b) = bvB 1 (bvNot a) (bvNot b) := by
  obtain ⟨x, hx, rfl⟩ := nat8 ha
  obtain ⟨y, hy, rfl⟩ := nat8 hb
  have hxy := opN_lt 0 x y hx hy
  rw [bvB_nat 0 x y hx hy, bvNot_nat _ hxy, bvNot_nat x hx, bvNot_nat y hy, bvB_nat 1 _ _ (by omega) (by omega)]
  congr 1
  apply Nat.eq_of_testBit_eq
  intro i
  rw [not_bit _ _ hxy, opN_bit, opN_bit, not_bit _ _ hx, not_bit _ _ hy]
  cases decide (i < 8) <;> cases x.testBit i <;> cases y.testBit i <;> rfl
theorem not_not8 (ha : vld a = true) : bvNot (bvNot a) = a := by
  obtain ⟨x, hx, rfl⟩ := nat8 ha
  rw [bvNot_nat x hx, bvNot_nat _ (by omega)]
  omega
theorem and_or8 (ha : vld a = true) (hb : vld b = true) (hc : vld c = true) : bvB 0 a (bvB 1 b c) = bvB 1 (bvB 0 a b) (bvB 0 a c) := by
  obtain ⟨x, hx, rfl⟩ := nat8 ha
  obtain ⟨y, hy, rfl⟩ := nat8 hb
  obtain ⟨z, hz, rfl⟩ := nat8 hc
  rw [bvB_nat 1 y z hy hz, bvB_nat 0 x _ hx (opN_lt _ _ _ hy hz), bvB_nat 0 x y hx hy, bvB_nat 0 x z hx hz, bvB_nat 1 _ _ (opN_lt _ _ _ hx hy) (opN_lt _ _ _ hx hz)]
  congr 1
  apply Nat.eq_of_testBit_eq
  intro i
  simp only [opN_bit]
  cases x.testBit i <;> cases y.testBit i <;> cases z.testBit i <;> rfl
theorem or_and8 (ha : vld a = true) (hb : vld b = true) : bvB 1 a (bvB 0 a b) = a := by
  obtain ⟨x, hx, rfl⟩ := nat8 ha
  obtain ⟨y, hy, rfl⟩ := nat8 hb
  rw [bvB_nat 0 x y hx hy, bvB_nat 1 x _ hx (opN_lt _ _ _ hx hy)]
  congr 1
  apply Nat.eq_of_testBit_eq
  intro i
  simp only [opN_bit]
  cases x.testBit i <;> cases y.testBit i <;> rfl
theorem and_not8 (ha : vld a = true) : bvB 0 a (bvNot a) = 0 := by
  obtain ⟨x, hx, rfl⟩ := nat8 ha
  rw [bvNot_nat x hx, bvB_nat 0 x _ hx (by omega)]
  have : opN 0 x (255 - x) = 0 := by
    apply Nat.eq_of_testBit_eq
    intro i
    rw [opN_bit, not_bit _ _ hx, Nat.zero_testBit]
    cases decide (i < 8) <;> cases x.testBit i <;> rfl
  rw [this]
  rfl
theorem or_not8 (ha : vld a = true) : bvB 1 a (bvNot a) = 255 := by
  obtain ⟨x, hx, rfl⟩ := nat8 ha
  rw [bvNot_nat x hx, bvB_nat 1 x _ hx (by omega)]
  have : opN 1 x (255 - x) = 255 := by
    apply Nat.eq_of_testBit_eq
    intro i
    have h := not_bit 0 i (by omega)
    rw [Nat.sub_zero, Nat.zero_testBit] at h
    rw [opN_bit, not_bit _ _ hx, h]
    rcases Nat.lt_or_ge i 8 with hi | hi
    · rw [show decide (i < 8) = true by simpa using hi]
      cases x.testBit i <;> rfl
    · rw [show decide (i < 8) = false by simpa using hi]
      rw [Nat.testBit_lt_two_pow (Nat.lt_of_lt_of_le hx (Nat.pow_le_pow_right (by decide) hi))]
      rfl
  rw [this]
  rfl
theorem xor_xor8 (ha : vld a = true) (hb : vld b = true) : bvB 2 (bvB 2 a b) b = a := by
  obtain ⟨x, hx, rfl⟩ := nat8 ha
  obtain ⟨y, hy, rfl⟩ := nat8 hb
  rw [bvB_nat 2 x y hx hy, bvB_nat 2 _ y (opN_lt _ _ _ hx hy) hy]
  congr 1
  apply Nat.eq_of_testBit_eq
  intro i
  simp only [opN_bit]
  cases x.testBit i <;> cases y.testBit i <;> rfl
end

/-- The number of the digits 1. -/
def digs (a : Int) : Nat → Int
  | 0 => 0
  | k + 1 => digs a k + if bt a (7 - k) = 1 then 1 else 0
theorem digs_bd (a : Int) (k : Nat) : 0 ≤ digs a k ∧ digs a k ≤ k := by
  induction k with
  | zero => simp [digs]
  | succ k ih => rw [digs]; split <;> omega
theorem digs_ones (a : Int) : digs a 8 = ones a 8 := by
  have e : ∀ k, (if bt a k = 1 then (1 : Int) else 0) = bt a k := fun k => by
    rcases bt_01 a k with h | h <;> simp [h]
  simp only [digs, ones, e, Nat.sub_zero, Nat.reduceSub, Nat.sub_self]
  omega
end Go.Proofs.Ytlpmaeemegphiaa
