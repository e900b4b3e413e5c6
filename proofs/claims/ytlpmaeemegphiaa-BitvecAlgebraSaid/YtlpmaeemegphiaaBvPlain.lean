/-
  The plain mathematics of layer 3 (bit vectors of 8 bits), with no program in it: what the operations compute, told in numbers, and that the ways of the program and of the reference compute the same. Nothing is assumed.
-/
import Derived.WalkKit

namespace Go.Proofs.Ytlpmaeemegphiaa
open Go.RowKit

/-- A bit vector. -/
def vld (a : Int) : Bool := decide (0 ≤ a) && decide (a ≤ 255)
theorem vld_yes {a : Int} (h : vld a = true) : 0 ≤ a ∧ a ≤ 255 := by simpa [vld] using h
theorem vld_no {a : Int} (h : vld a = false) : a < 0 ∨ 255 < a := by
  simp [vld] at h
  omega
theorem vld_mk {a : Int} (h0 : 0 ≤ a) (h1 : a ≤ 255) : vld a = true := by simp [vld, h0, h1]

/-- Bit number i. -/
def bt (a : Int) (i : Nat) : Int := a / (2 : Int) ^ i % 2
theorem bt_01 (a : Int) (i : Nat) : bt a i = 0 ∨ bt a i = 1 := by unfold bt; omega

theorem pow_step (k : Nat) : (2 : Int) ^ (k + 1) = 2 * (2 : Int) ^ k := by rw [Int.pow_succ]; omega
theorem pow_bd (k : Nat) (h : k ≤ 8) : 1 ≤ (2 : Int) ^ k ∧ (2 : Int) ^ k ≤ 256 := by
  have : k = 0 ∨ k = 1 ∨ k = 2 ∨ k = 3 ∨ k = 4 ∨ k = 5 ∨ k = 6 ∨ k = 7 ∨ k = 8 := by omega
  rcases this with rfl | rfl | rfl | rfl | rfl | rfl | rfl | rfl | rfl <;> decide

theorem bt_nat (a i : Nat) : bt (a : Int) i = ((a.testBit i).toNat : Int) := by
  unfold bt
  rw [Nat.toNat_testBit]
  simp

/-- The three kinds of the reference's bits. -/
def hit (kind : Nat) (n : Int) : Bool := match kind with
  | 0 => decide (n = 2)
  | 1 => decide (0 < n)
  | _ => decide (n = 1)
def accB (kind : Nat) (a b : Int) : Nat → Int
  | 0 => 0
  | k + 1 => accB kind a b k + if hit kind (bt a k + bt b k) then (2 : Int) ^ k else 0

def opN (kind : Nat) (a b : Nat) : Nat := match kind with
  | 0 => a &&& b
  | 1 => a ||| b
  | _ => a ^^^ b
def opB (kind : Nat) (x y : Bool) : Bool := match kind with
  | 0 => x && y
  | 1 => x || y
  | _ => x ^^ y
theorem opN_bit (kind a b i : Nat) : (opN kind a b).testBit i = opB kind (a.testBit i) (b.testBit i) := by
  unfold opN opB
  split <;> simp
theorem hit_bit (kind a b i : Nat) : hit kind (bt a i + bt b i) = (opN kind a b).testBit i := by
  rw [opN_bit, bt_nat, bt_nat]
  cases a.testBit i <;> cases b.testBit i <;> (unfold hit opB; split <;> simp)
theorem accB_nat (kind a b k : Nat) : accB kind a b k = ((opN kind a b % 2 ^ k : Nat) : Int) := by
  induction k with
  | zero => simp [accB, Nat.mod_one]
  | succ k ih =>
    have h : opN kind a b % 2 ^ (k + 1) = opN kind a b % 2 ^ k + 2 ^ k * ((opN kind a b).testBit k).toNat := by rw [Nat.mod_pow_succ, Nat.toNat_testBit]
    rw [accB, ih, hit_bit, h]
    cases (opN kind a b).testBit k <;> simp

/-- What And, Or, Xor compute. -/
def bvB (kind : Nat) (a b : Int) : Int := if vld a && vld b then ((opN kind a.toNat b.toNat : Nat) : Int) else 0
theorem opN_lt (kind a b : Nat) (ha : a < 2 ^ 8) (hb : b < 2 ^ 8) : opN kind a b < 2 ^ 8 := by
  unfold opN
  split
  · exact Nat.and_lt_two_pow _ hb
  · exact Nat.or_lt_two_pow ha hb
  · exact Nat.xor_lt_two_pow ha hb
theorem accB_bv (kind : Nat) (a b : Int) (ha : vld a = true) (hb : vld b = true) : accB kind a b 8 = bvB kind a b := by
  obtain ⟨a0, a1⟩ := vld_yes ha
  obtain ⟨b0, b1⟩ := vld_yes hb
  unfold bvB
  rw [ha, hb]
  obtain ⟨x, rfl⟩ := Int.eq_ofNat_of_zero_le a0
  obtain ⟨y, rfl⟩ := Int.eq_ofNat_of_zero_le b0
  rw [accB_nat, Nat.mod_eq_of_lt (opN_lt kind x y (by omega) (by omega))]
  simp
theorem accB_bd (kind : Nat) (a b : Int) (ha : vld a = true) (hb : vld b = true) (k : Nat) : 0 ≤ accB kind a b k ∧ accB kind a b k ≤ 255 := by
  obtain ⟨a0, a1⟩ := vld_yes ha
  obtain ⟨b0, b1⟩ := vld_yes hb
  obtain ⟨x, rfl⟩ := Int.eq_ofNat_of_zero_le a0
  obtain ⟨y, rfl⟩ := Int.eq_ofNat_of_zero_le b0
  rw [accB_nat]
  have := opN_lt kind x y (by omega) (by omega)
  have := Nat.mod_le (opN kind x y) (2 ^ k)
  omega

/-- The mask of the last eight bits. -/
theorem mask8 (n : Int) : bits .and .i64 n 255 = n % 256 := by
  have h : (BitVec.ofInt 64 n &&& BitVec.ofInt 64 255).toNat = (n % 256).toNat := by
    rw [BitVec.toNat_and, BitVec.toNat_ofInt]
    rw [show (BitVec.ofInt 64 255).toNat = 255 from rfl]
    rw [show (255 : Nat) = 2 ^ 8 - 1 from rfl, Nat.and_two_pow_sub_one_eq_mod]
    have : (n % ((2 ^ 64 : Nat) : Int)).toNat = (n % 18446744073709551616).toNat := rfl
    omega
  unfold bits
  show IntKind.i64.wrap ((BitVec.ofInt 64 n &&& BitVec.ofInt 64 255).toNat : Int) = _
  rw [h, IntKind.wrap_i64]
  omega

theorem wraps_i64 (n : Int) (h₀ : 0 ≤ n) (h₁ : n < 2 ^ 8) : IntKind.i64.wrap n = n := by rw [IntKind.wrap_i64]; omega
theorem bits_xor_nat (a b : Nat) (ha : a < 2 ^ 8) (hb : b < 2 ^ 8) : bits .xor .i64 (a : Int) (b : Int) = ((a ^^^ b : Nat) : Int) := by
  have ha' : a % 2 ^ 64 = a := Nat.mod_eq_of_lt (by omega)
  have hb' : b % 2 ^ 64 = b := Nat.mod_eq_of_lt (by omega)
  have hx := Nat.xor_lt_two_pow ha hb
  unfold bits
  show IntKind.i64.wrap ((BitVec.ofInt 64 (a : Int) ^^^ BitVec.ofInt 64 (b : Int)).toNat : Int) = _
  rw [BitVec.toNat_xor]
  simp only [BitVec.ofInt_natCast, BitVec.toNat_ofNat, ha', hb']
  exact wraps_i64 _ (by omega) (by omega)

def opG (kind : Nat) : BinOp := match kind with
  | 0 => .and
  | 1 => .or
  | _ => .xor
theorem bits_bv (kind : Nat) (a b : Int) (ha : vld a = true) (hb : vld b = true) : bits (opG kind) .i64 a b % 256 = bvB kind a b := by
  obtain ⟨a0, a1⟩ := vld_yes ha
  obtain ⟨b0, b1⟩ := vld_yes hb
  unfold bvB
  rw [ha, hb]
  obtain ⟨x, rfl⟩ := Int.eq_ofNat_of_zero_le a0
  obtain ⟨y, rfl⟩ := Int.eq_ofNat_of_zero_le b0
  have hlt := opN_lt kind x y (by omega) (by omega)
  have hN := bits_nat .i64 8 (by decide) wraps_i64 x y (by omega) (by omega)
  have : bits (opG kind) .i64 x y = ((opN kind x y : Nat) : Int) := by
    unfold opG opN
    split
    · exact hN.1
    · exact hN.2
    · exact bits_xor_nat x y (by omega) (by omega)
  rw [this]
  simp
  omega

/-- The other operations. -/
def bvNot (a : Int) : Int := if vld a then 255 - a else 0
def bvAdd (a b : Int) : Int := if vld a && vld b then (a + b) % 256 else 0
def bvSub (a b : Int) : Int := if vld a && vld b then (a - b) % 256 else 0
def bvMul (a b : Int) : Int := if vld a && vld b then a * b % 256 else 0
def dst (n : Int) : Nat := if n < 0 then 0 else if 8 < n then 8 else n.toNat
theorem dst_le (n : Int) : dst n ≤ 8 := by unfold dst; split <;> (try split) <;> omega
def sgn (a : Int) : Int := if a < 128 then a else a - 256
def bvLeft (a n : Int) : Int := if vld a then a * (2 : Int) ^ dst n % 256 else 0
def bvRight (a n : Int) : Int := if vld a then a / (2 : Int) ^ dst n else 0
def bvArith (a n : Int) : Int := if vld a then sgn a / (2 : Int) ^ dst n % 256 else 0

theorem arith_ref (a : Int) (k : Nat) (hk : k ≤ 8) (h : 128 ≤ a) : (a - 256 + 256 * (2 : Int) ^ k) / (2 : Int) ^ k % 256 = sgn a / (2 : Int) ^ k % 256 := by
  have := pow_bd k hk
  rw [Int.add_mul_ediv_right _ _ (by omega)]
  unfold sgn
  rw [if_neg (by omega)]
  omega
theorem right_le (a : Int) (k : Nat) (h0 : 0 ≤ a) : 0 ≤ a / (2 : Int) ^ k ∧ a / (2 : Int) ^ k ≤ a := by
  have hp : (0 : Int) < (2 : Int) ^ k := Int.pow_pos (by decide)
  exact ⟨Int.ediv_nonneg h0 (by omega), Int.ediv_le_self _ h0⟩
theorem right_bv (a n : Int) (h : vld a = true) : a / (2 : Int) ^ dst n % 256 = bvRight a n := by
  obtain ⟨h0, h1⟩ := vld_yes h
  have := right_le a (dst n) h0
  unfold bvRight
  rw [if_pos h]
  omega

/-- The number of the bits. -/
def ones (a : Int) : Nat → Int
  | 0 => 0
  | k + 1 => ones a k + bt a k
theorem ones_bd (a : Int) (k : Nat) : 0 ≤ ones a k ∧ ones a k ≤ k := by
  induction k with
  | zero => simp [ones]
  | succ k ih => have := bt_01 a k; rw [ones]; omega

/-- The digits. -/
def dg (a : Int) (i : Nat) : UInt8 := if bt a i = 1 then 49 else 48
def txt (a : Int) (k : Nat) : List UInt8 := (List.range k).map fun j => dg a (7 - j)
theorem txt_len (a : Int) (k : Nat) : (txt a k).length = k := by simp [txt]
theorem txt_snoc (a : Int) (k : Nat) : txt a (k + 1) = txt a k ++ [dg a (7 - k)] := by simp [txt, List.range_succ]
def bvText (a : Int) : ByteArray := if vld a then ⟨(txt a 8).toArray⟩ else ⟨#[]⟩
def bvOnes (a : Int) : Int := if vld a then ones a 8 else 0

end Go.Proofs.Ytlpmaeemegphiaa
