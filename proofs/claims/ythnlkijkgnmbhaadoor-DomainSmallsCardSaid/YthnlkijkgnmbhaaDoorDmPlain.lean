/-
  The plain mathematics of domains, with no program in it: the number of tuples, the tuple with a number, the number of a tuple, what a choice keeps. Nothing is assumed.
-/
import Derived.Test.YthnlkijkgnmbhaaDoorCompare
namespace Go.Proofs.YthnlkijkgnmbhaaDoor
open Go.RowKit

def zeroV : V := .mk 0 0 ⟨#[]⟩ []

/-! ### The number of tuples -/

def isNil (a : List V) : Bool := decide (a.length = 0)
def hasNil (l : List (List V)) : Bool := l.any isNil
def szF : Int → List (List V) → Option Int
  | n, [] => some n
  | n, a :: l => if 1152921504606846976 / (a.length : Int) < n then none else szF (n * (a.length : Int)) l
def szD (l : List (List V)) : Option Int := if hasNil l = true then some 0 else szF 1 l
def szN (l : List (List V)) : Int := (szD l).getD 0
def szE (l : List (List V)) : Int := if (szD l).isSome then 0 else 11
def prodL : List (List V) → Nat
  | [] => 1
  | a :: l => a.length * prodL l

theorem hasNil_nil : hasNil [] = false := rfl
theorem hasNil_cons (a : List V) (l : List (List V)) : hasNil (a :: l) = (isNil a || hasNil l) := rfl
theorem hasNil_no {l : List (List V)} (h : hasNil l = false) : ∀ a, a ∈ l → a.length ≠ 0 := by
  intro a ha h0
  have : hasNil l = true := List.any_eq_true.2 ⟨a, ha, by unfold isNil; exact decide_eq_true h0⟩
  rw [h] at this
  cases this
theorem hasNil_yes {l : List (List V)} (h : ¬ hasNil l = false) : ∃ a, a ∈ l ∧ a.length = 0 := by
  have h' : hasNil l = true := by simpa using h
  obtain ⟨a, ha, hn⟩ := List.any_eq_true.1 h'
  exact ⟨a, ha, of_decide_eq_true hn⟩
theorem hasNil_of {l : List (List V)} {a : List V} (h : a ∈ l) (h0 : a.length = 0) : hasNil l = true := List.any_eq_true.2 ⟨a, h, by unfold isNil; exact decide_eq_true h0⟩

theorem prodL_pos {l : List (List V)} (h : ∀ a, a ∈ l → a.length ≠ 0) : 1 ≤ prodL l := by
  induction l with
  | nil => exact Nat.le_refl _
  | cons a l ih =>
    have h1 := h a (by simp)
    have h2 := ih (fun x hx => h x (by simp [hx]))
    show 1 ≤ a.length * prodL l
    exact Nat.mul_pos (by omega) h2
theorem prodL_nil {l : List (List V)} (h : hasNil l = true) : prodL l = 0 := by
  induction l with
  | nil => cases h
  | cons a l ih =>
    rw [hasNil_cons, Bool.or_eq_true] at h
    show a.length * prodL l = 0
    rcases h with h | h
    · rw [of_decide_eq_true h, Nat.zero_mul]
    · rw [ih h, Nat.mul_zero]

theorem div_lt (n k : Nat) (hk : 0 < k) : 1152921504606846976 / (k : Int) < (n : Int) ↔ 1152921504606846976 < n * k := by
  have e : (1152921504606846976 : Int) / (k : Int) = ((1152921504606846976 / k : Nat) : Int) := by
    rw [show (1152921504606846976 : Int) = ((1152921504606846976 : Nat) : Int) from rfl, Int.natCast_ediv]
  rw [e, Int.ofNat_lt, Nat.div_lt_iff_lt_mul hk]

theorem szF_eq (l : List (List V)) (h : ∀ a, a ∈ l → a.length ≠ 0) : ∀ n : Nat, n ≤ 1152921504606846976 → szF n l = if n * prodL l ≤ 1152921504606846976 then some ((n * prodL l : Nat) : Int) else none := by
  induction l with
  | nil => intro n hn; rw [szF, prodL, Nat.mul_one, if_pos hn]
  | cons a l ih =>
    intro n hn
    have h1 := h a (by simp)
    have h2 := prodL_pos (fun x hx => h x (by simp [hx]) : ∀ x, x ∈ l → x.length ≠ 0)
    rw [szF, prodL, ← Nat.mul_assoc]
    by_cases hb : 1152921504606846976 < n * a.length
    · rw [if_pos ((div_lt n a.length (by omega)).2 hb), if_neg]
      have := Nat.mul_le_mul_left (n * a.length) h2
      omega
    · rw [if_neg (fun hh => hb ((div_lt n a.length (by omega)).1 hh))]
      rw [← Int.natCast_mul]
      exact ih (fun x hx => h x (by simp [hx])) (n * a.length) (by omega)

/-- With an empty axis or without: the number is the product, if it is not too great. -/
theorem szD_eq (l : List (List V)) : szD l = if prodL l ≤ 1152921504606846976 then some (prodL l : Int) else none := by
  unfold szD
  by_cases h : hasNil l = true
  · rw [if_pos h, prodL_nil h]; rfl
  · rw [if_neg h]
    have := szF_eq l (hasNil_no (by simpa using h)) 1 (by decide)
    rw [Nat.one_mul] at this
    exact this
theorem szD_some {l : List (List V)} {n : Int} (h : szD l = some n) : n = prodL l ∧ prodL l ≤ 1152921504606846976 := by
  rw [szD_eq] at h
  split at h
  · rename_i hp
    cases h
    exact ⟨rfl, hp⟩
  · cases h

/-! ### The tuple with a number -/

def digs : List (List V) → Nat → List V × Nat
  | [], n => ([], n)
  | a :: l, n => (a.getD ((digs l n).2 % a.length) zeroV :: (digs l n).1, (digs l n).2 / a.length)
def digI : List (List V) → Nat → List Nat × Nat
  | [], n => ([], n)
  | a :: l, n => ((digI l n).2 % a.length :: (digI l n).1, (digI l n).2 / a.length)
def pick : List (List V) → List Nat → List V
  | a :: l, i :: q => a.getD i zeroV :: pick l q
  | _, _ => []

theorem digs_len (l : List (List V)) (n : Nat) : (digs l n).1.length = l.length := by
  induction l with
  | nil => rfl
  | cons a l ih => rw [digs]; simp [ih]
theorem digs_two (l : List (List V)) (n : Nat) : (digs l n).2 = n / prodL l := by
  induction l with
  | nil => rw [digs, prodL, Nat.div_one]
  | cons a l ih => rw [digs, prodL]; show (digs l n).2 / a.length = _; rw [ih, Nat.div_div_eq_div_mul, Nat.mul_comm]
theorem digI_two (l : List (List V)) (n : Nat) : (digI l n).2 = n / prodL l := by
  induction l with
  | nil => rw [digI, prodL, Nat.div_one]
  | cons a l ih => rw [digI, prodL]; show (digI l n).2 / a.length = _; rw [ih, Nat.div_div_eq_div_mul, Nat.mul_comm]
theorem digI_len (l : List (List V)) (n : Nat) : (digI l n).1.length = l.length := by
  induction l with
  | nil => rfl
  | cons a l ih => rw [digI]; simp [ih]
theorem pick_digI (l : List (List V)) (n : Nat) : pick l (digI l n).1 = (digs l n).1 := by
  induction l with
  | nil => rfl
  | cons a l ih => rw [digI, digs, pick, ih, digI_two, digs_two]
theorem digs_drop (l : List (List V)) (n i : Nat) (h : i < l.length) : digs (l.drop i) n = (l[i].getD ((digs (l.drop (i + 1)) n).2 % l[i].length) zeroV :: (digs (l.drop (i + 1)) n).1, (digs (l.drop (i + 1)) n).2 / l[i].length) := by
  rw [List.drop_eq_getElem_cons h, digs]
theorem digs_end (l : List (List V)) (n : Nat) : digs (l.drop l.length) n = ([], n) := by rw [List.drop_length, digs]

/-! ### The number of a tuple -/

def plc (v : V) : Int → List V → Int
  | _, [] => -1
  | i, x :: a => if x.eqb v = true then i else plc v (i + 1) a
theorem plc_range (v : V) : ∀ (a : List V) (i : Nat), plc v i a = -1 ∨ (∃ k, k < a.length ∧ plc v i a = i + k ∧ (a.getD k zeroV).eqb v = true ∧ ∀ j, j < k → (a.getD j zeroV).eqb v = false) := by
  intro a
  induction a with
  | nil => intro i; exact .inl rfl
  | cons x a ih =>
    intro i
    rw [plc]
    by_cases h : x.eqb v = true
    · rw [if_pos h]
      exact .inr ⟨0, by simp, by omega, h, fun j hj => by omega⟩
    · rw [if_neg h]
      rcases ih (i + 1) with e | ⟨k, hk, e, he, hl⟩
      · exact .inl e
      · refine .inr ⟨k + 1, by simp; omega, by rw [show ((i : Int) + 1) = ((i + 1 : Nat) : Int) by omega, e]; omega, by simpa using he, fun j hj => ?_⟩
        cases j with
        | zero => simpa using h
        | succ j => simpa using hl j (by omega)

def idxF : Int → List (List V) → List V → Option Int
  | n, a :: l, v :: t => if plc v 0 a < 0 then none else idxF (wrap64 (wrap64 (n * (a.length : Int)) + plc v 0 a)) l t
  | n, _, _ => some n
/-- What Index returns. -/
def idxD (l : List (List V)) (t : List V) : Option Int := if (szD l).isSome = true ∧ t.length = l.length then idxF 0 l t else none

/-! ### What a choice keeps -/

def keepF : List Bool → List V → List V
  | b :: k, x :: a => if b = true then x :: keepF k a else keepF k a
  | _, _ => []
def rAx (i : Nat) (ax : Int) (k : List Bool) (a : List V) : List V := if (i : Int) = ax then keepF k a else a

/-! ### The next tuple -/

def adv : List (List V) → List Nat → List Nat × Bool
  | [], _ => ([], false)
  | _ :: _, [] => ([], false)
  | a :: l, p :: q => if (adv l q).2 = true then (p :: (adv l q).1, true) else if p + 1 < a.length then ((p + 1) :: (adv l q).1, true) else (0 :: (adv l q).1, false)

theorem adv_digI (l : List (List V)) (h : ∀ a, a ∈ l → a.length ≠ 0) (n : Nat) : adv l (digI l n).1 = ((digI l (n + 1)).1, decide ((n + 1) / prodL l = n / prodL l)) := by
  induction l with
  | nil => rw [adv, digI, prodL]; simp
  | cons a l ih =>
    have ha := h a (by simp)
    have hp := prodL_pos (fun x hx => h x (by simp [hx]) : ∀ x, x ∈ l → x.length ≠ 0)
    have hi := ih (fun x hx => h x (by simp [hx]))
    rw [digI, digI, adv, hi, prodL]
    simp only [digI_two]
    have hstep : (n + 1) / prodL l = n / prodL l ∨ (n + 1) / prodL l = n / prodL l + 1 := by
      rw [Nat.succ_div]
      split
      · exact .inr rfl
      · exact .inl rfl
    have e1 : ∀ x, x / (a.length * prodL l) = x / prodL l / a.length := fun x => by rw [Nat.div_div_eq_div_mul, Nat.mul_comm]
    rw [e1, e1]
    by_cases hs : (n + 1) / prodL l = n / prodL l
    · simp only [hs, decide_true, if_true]
    · have h2 : (n + 1) / prodL l = n / prodL l + 1 := by rcases hstep with h | h; exact absurd h hs; exact h
      generalize n / prodL l = m at *
      generalize (n + 1) / prodL l = m' at *
      subst h2
      have hd : decide (m + 1 = m) = false := by simp
      simp only [hd, Bool.false_eq_true, if_false]
      have ha' : 0 < a.length := by omega
      by_cases hc : m % a.length + 1 < a.length
      · rw [if_pos hc]
        have e2 : (m + 1) % a.length = m % a.length + 1 := by rw [Nat.add_mod, Nat.mod_eq_of_lt (a := 1) (by omega), Nat.mod_eq_of_lt hc]
        have e3 : (m + 1) / a.length = m / a.length := by
          rw [Nat.succ_div, if_neg (fun hh => by have := Nat.mod_eq_zero_of_dvd hh; omega)]; rfl
        rw [e2, e3]
        simp
      · rw [if_neg hc]
        have hl := Nat.mod_lt m ha'
        have e0 : m % a.length = a.length - 1 := by omega
        have e2 : (m + 1) % a.length = 0 := by
          rw [Nat.add_mod, e0]
          by_cases h1 : a.length = 1
          · rw [h1, Nat.mod_one]
          · rw [Nat.mod_eq_of_lt (a := 1) (by omega), show a.length - 1 + 1 = a.length by omega, Nat.mod_self]
        have e3 : (m + 1) / a.length = m / a.length + 1 := by
          rw [Nat.succ_div, if_pos (Nat.dvd_of_mod_eq_zero e2)]
        rw [e2, e3]
        simp

end Go.Proofs.YthnlkijkgnmbhaaDoor
