/-
  The plain mathematics of numerals: what Show and Read compute, told on lists of bytes. Nothing is assumed.
-/
import Derived.Test.YtmbmlcnipncgnaaGreatDoorStPlain
namespace Go.Proofs.YtmbmlcnipncgnaaGreatDoor
open Go.RowKit

def isDig (c : UInt8) : Bool := decide (48 ≤ c.toNat) && decide (c.toNat ≤ 57)
theorem isDig_yes {c : UInt8} (h : isDig c = true) : 48 ≤ c.toNat ∧ c.toNat ≤ 57 := by simpa [isDig] using h
theorem isDig_no {c : UInt8} (h : isDig c = false) : c.toNat < 48 ∨ 57 < c.toNat := by
  simp [isDig] at h
  omega
def dval (c : UInt8) : Int := (c.toNat : Int) - 48

/-- The number of the digits, from n on; none if it exceeds a million on the way. -/
def nm : Int → List UInt8 → Option Int
  | n, [] => some n
  | n, c :: r => if 1000000 < n * 10 + dval c then none else nm (n * 10 + dval c) r
theorem nm_nil (n : Int) : nm n [] = some n := rfl
theorem nm_over (n : Int) (c : UInt8) (r : List UInt8) (h : 1000000 < n * 10 + dval c) : nm n (c :: r) = none := by rw [nm, if_pos h]
theorem nm_in (n : Int) (c : UInt8) (r : List UInt8) (h : ¬ 1000000 < n * 10 + dval c) : nm n (c :: r) = nm (n * 10 + dval c) r := by rw [nm, if_neg h]
theorem nm_snoc : ∀ (l : List UInt8) (n : Int) (c : UInt8), nm n (l ++ [c]) = (nm n l).bind fun m => if 1000000 < m * 10 + dval c then none else some (m * 10 + dval c)
  | [], n, c => rfl
  | d :: l, n, c => by
    rw [List.cons_append, nm, nm]
    split
    · rfl
    · exact nm_snoc l _ c
theorem nm_bd : ∀ (l : List UInt8) (n m : Int), (∀ c, c ∈ l → isDig c = true) → 0 ≤ n → n ≤ 1000000 → nm n l = some m → 0 ≤ m ∧ m ≤ 1000000
  | [], n, m, _, h0, h1, h => by cases h; exact ⟨h0, h1⟩
  | c :: l, n, m, hd, h0, h1, h => by
    rw [nm] at h
    split at h
    · cases h
    · have := isDig_yes (hd c (by simp))
      exact nm_bd l _ m (fun d hd' => hd d (by simp [hd'])) (by unfold dval; omega) (by omega) h

/-- The digits are a numeral. -/
def numl (ds : List UInt8) : Bool := ds.all isDig && (decide (ds = [48]) || (decide (ds ≠ []) && decide (ds.head? ≠ some 48)))
def neg (l : List UInt8) : Bool := decide (l.head? = some 45)
def digs' (l : List UInt8) : List UInt8 := if neg l then l.tail else l
/-- What Read returns: the number, the error. -/
def rdBad (l : List UInt8) : Bool := !numl (digs' l) || (neg l && decide (digs' l = [48]))
def rdN (l : List UInt8) : Int := if rdBad l then 0 else match nm 0 (digs' l) with | none => 0 | some n => if neg l then -n else n
def rdE (l : List UInt8) : Int := if rdBad l then 8 else match nm 0 (digs' l) with | none => 1 | some _ => 0

open Lib (decDigits itoa)
theorem dec_small {u : Nat} (h : u < 10) : decDigits u = [UInt8.ofNat (48 + u)] := by rw [decDigits, dif_pos h]
theorem dec_big {u : Nat} (h : ¬ u < 10) : decDigits u = decDigits (u / 10) ++ [UInt8.ofNat (48 + u % 10)] := by rw [decDigits, dif_neg h]
theorem ofNat_toNat (k : Nat) (h : k < 10) : (UInt8.ofNat (48 + k)).toNat = 48 + k := by simp; omega
theorem dig_ofNat (k : Nat) (h : k < 10) : isDig (UInt8.ofNat (48 + k)) = true := by
  unfold isDig
  rw [ofNat_toNat k h]
  simp
  omega
theorem dval_ofNat (k : Nat) (h : k < 10) : dval (UInt8.ofNat (48 + k)) = k := by
  unfold dval
  rw [ofNat_toNat k h]
  omega
theorem dec_all (u : Nat) : (decDigits u).all isDig = true := by
  induction u using Nat.strongRecOn with
  | _ u ih =>
    by_cases h : u < 10
    · rw [dec_small h, List.all_cons, dig_ofNat u h]; rfl
    · rw [dec_big h, List.all_append, ih (u / 10) (by omega), List.all_cons, dig_ofNat (u % 10) (by omega)]; rfl
theorem dec_ne (u : Nat) : decDigits u ≠ [] := by
  by_cases h : u < 10
  · rw [dec_small h]; simp
  · rw [dec_big h]; simp
theorem head_append (a b : List UInt8) (h : a ≠ []) : (a ++ b).head? = a.head? := by
  cases a with
  | nil => exact absurd rfl h
  | cons c l => rfl
theorem dec_head (u : Nat) (h0 : 0 < u) : (decDigits u).head? ≠ some 48 := by
  induction u using Nat.strongRecOn with
  | _ u ih =>
    by_cases h : u < 10
    · rw [dec_small h]
      intro he
      rw [List.head?_cons, Option.some.injEq] at he
      have := congrArg UInt8.toNat he
      rw [ofNat_toNat u h, show (48 : UInt8).toNat = 48 from rfl] at this
      omega
    · rw [dec_big h, head_append _ _ (dec_ne _)]
      exact ih (u / 10) (by omega) (by omega)
theorem dec_numl (u : Nat) : numl (decDigits u) = true := by
  unfold numl
  rw [dec_all]
  by_cases h : u = 0
  · subst h
    rw [dec_small (by omega)]
    rfl
  · have h1 := dec_head u (by omega)
    have h2 := dec_ne u
    simp [h1, h2]
theorem dec_nm (u : Nat) : nm 0 (decDigits u) = if u ≤ 1000000 then some (u : Int) else none := by
  induction u using Nat.strongRecOn with
  | _ u ih =>
    by_cases h : u < 10
    · rw [dec_small h, nm, dval_ofNat u h, if_neg (by omega), if_pos (by omega)]
      rw [nm]
      congr 1
      omega
    · rw [dec_big h, nm_snoc, ih (u / 10) (by omega), dval_ofNat _ (by omega)]
      by_cases h1 : u / 10 ≤ 1000000
      · rw [if_pos h1]
        simp only [Option.bind_some]
        by_cases h2 : u ≤ 1000000
        · rw [if_pos h2, if_neg (by omega)]
          congr 1
          omega
        · rw [if_neg h2, if_pos (by omega)]
      · rw [if_neg h1, if_neg (by omega)]
        rfl
theorem dec_of (k : Nat) : ∀ (ds : List UInt8) (n : Int), ds.length = k → numl ds = true → nm 0 ds = some n → 0 ≤ n ∧ decDigits n.toNat = ds := by
  induction k with
  | zero =>
    intro ds n hk hn _
    have := List.eq_nil_of_length_eq_zero hk
    subst this
    simp [numl] at hn
  | succ k ih =>
    intro ds n hk hn h
    have hne : ds ≠ [] := by intro e; subst e; simp at hk
    obtain ⟨l, c, rfl⟩ : ∃ l c, ds = l ++ [c] := ⟨ds.dropLast, ds.getLast hne, (List.dropLast_concat_getLast hne).symm⟩
    unfold numl at hn
    rw [List.all_append] at hn
    simp only [Bool.and_eq_true, Bool.or_eq_true, decide_eq_true_eq] at hn
    obtain ⟨⟨ha, hc'⟩, hh⟩ := hn
    have hc : isDig c = true := by simpa using hc'
    have hcd := isDig_yes hc
    by_cases hl : l = []
    · subst hl
      rw [List.nil_append, nm] at h
      split at h
      · cases h
      · rw [nm] at h
        cases h
        unfold dval
        refine ⟨by omega, ?_⟩
        rw [dec_small (by omega)]
        simp only [List.nil_append, List.cons.injEq, and_true]
        apply UInt8.toNat_inj.1
        rw [ofNat_toNat _ (by omega)]
        omega
    · have hh2 : l.head? ≠ some 48 := by
        rcases hh with hh | hh
        · have := congrArg List.length hh
          simp at this
          exact absurd this hl
        · rw [head_append _ _ hl] at hh
          exact hh.2
      rw [nm_snoc] at h
      obtain ⟨m, hm, h⟩ := Option.bind_eq_some_iff.1 h
      obtain ⟨h0, hd⟩ := ih l m (by simp at hk; omega) (by unfold numl; rw [ha]; simp [hl, hh2]) hm
      split at h
      · cases h
      · cases h
        have hm1 : m ≠ 0 := by
          intro e
          subst e
          rw [show (0 : Int).toNat = 0 from rfl, dec_small (by omega)] at hd
          rw [← hd] at hh2
          exact hh2 rfl
        unfold dval
        refine ⟨by omega, ?_⟩
        rw [dec_big (by omega)]
        have e1 : (m * 10 + ((c.toNat : Int) - 48)).toNat / 10 = m.toNat := by omega
        have e2 : (m * 10 + ((c.toNat : Int) - 48)).toNat % 10 = c.toNat - 48 := by omega
        rw [e1, e2, hd]
        congr 2
        apply UInt8.toNat_inj.1
        rw [ofNat_toNat _ (by omega)]
        omega

/-- Show of what is read is what was read. -/
theorem show_read (l : List UInt8) (h : rdE l = 0) : itoa (rdN l) = l := by
  unfold rdE at h
  unfold rdN
  cases hb : rdBad l
  · rw [hb] at h
    simp only [Bool.false_eq_true, if_false] at h ⊢
    cases hn : nm 0 (digs' l) with
    | none => rw [hn] at h; simp at h
    | some n =>
      simp only []
      unfold rdBad at hb
      simp only [Bool.or_eq_false_iff, Bool.not_eq_eq_eq_not, Bool.not_false] at hb
      obtain ⟨h1, h2⟩ := hb
      obtain ⟨h0, hd⟩ := dec_of _ _ n rfl h1 hn
      cases hg : neg l
      · simp only [Bool.false_eq_true, if_false]
        unfold itoa
        rw [if_neg (by omega), hd]
        simp [digs', hg]
      · simp only [if_true]
        rw [hg] at h2
        have hn0 : n ≠ 0 := by
          intro e
          subst e
          rw [show (0 : Int).toNat = 0 from rfl, dec_small (by omega)] at hd
          rw [← hd] at h2
          simp at h2
        unfold itoa
        rw [if_pos (by omega)]
        have e : (-n).natAbs = n.toNat := by omega
        rw [e, hd]
        unfold neg at hg
        unfold digs'
        rw [show neg l = true from hg]
        cases l with
        | nil => simp at hg
        | cons c r => simp at hg; simp [hg]
  · rw [hb] at h
    simp at h

theorem neg_dec (u : Nat) : neg (decDigits u) = false := by
  unfold neg
  have h := dec_all u
  have hne := dec_ne u
  generalize decDigits u = d at h hne
  cases d with
  | nil => exact absurd rfl hne
  | cons c r =>
    simp only [List.all_cons, Bool.and_eq_true] at h
    have := isDig_yes h.1
    simp
    intro e
    subst e
    simp at this
/-- Read of what is shown. -/
theorem read_show (n : Int) : rdE (itoa n) = (if -1000000 ≤ n ∧ n ≤ 1000000 then 0 else 1) ∧ rdN (itoa n) = (if -1000000 ≤ n ∧ n ≤ 1000000 then n else 0) := by
  unfold rdE rdN itoa
  by_cases h : n < 0
  · rw [if_pos h]
    have hg : neg (45 :: decDigits n.natAbs) = true := by simp [neg]
    have hd : digs' (45 :: decDigits n.natAbs) = decDigits n.natAbs := by simp [digs', hg]
    have h48 : decDigits n.natAbs ≠ [48] := by
      intro e
      have := dec_head n.natAbs (by omega)
      rw [e] at this
      exact this rfl
    have hb : rdBad (45 :: decDigits n.natAbs) = false := by simp [rdBad, hg, hd, dec_numl, h48]
    rw [hb, hd, hg, dec_nm]
    simp only [Bool.false_eq_true, if_false, if_true]
    by_cases h1 : n.natAbs ≤ 1000000
    · rw [if_pos h1, if_pos (by omega), if_pos (by omega)]
      exact ⟨rfl, by simp only []; omega⟩
    · rw [if_neg h1, if_neg (by omega), if_neg (by omega)]
      exact ⟨rfl, rfl⟩
  · rw [if_neg h]
    have hg := neg_dec n.toNat
    have hd : digs' (decDigits n.toNat) = decDigits n.toNat := by simp [digs', hg]
    have hb : rdBad (decDigits n.toNat) = false := by simp [rdBad, hg, hd, dec_numl]
    rw [hb, hd, hg, dec_nm]
    simp only [Bool.false_eq_true, if_false]
    by_cases h1 : n.toNat ≤ 1000000
    · rw [if_pos h1, if_pos (by omega), if_pos (by omega)]
      exact ⟨rfl, by simp only []; omega⟩
    · rw [if_neg h1, if_neg (by omega), if_neg (by omega)]
      exact ⟨rfl, rfl⟩

/-- The digits of a number, none of 0. -/
def dd (u : Nat) : List UInt8 := if u = 0 then [] else decDigits u
theorem dd_step (u : Nat) (h : 0 < u) : dd u = dd (u / 10) ++ [UInt8.ofNat (48 + u % 10)] := by
  unfold dd
  rw [if_neg (by omega)]
  by_cases h1 : u < 10
  · rw [dec_small h1, if_pos (by omega), show u % 10 = u by omega]
    rfl
  · rw [dec_big h1, if_neg (by omega)]

end Go.Proofs.YtmbmlcnipncgnaaGreatDoor
