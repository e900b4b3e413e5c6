/-
  Plain facts for the layer of literals: strings as lists of bytes, quotations. Nothing is assumed.
-/
import Derived.Test.YtmbmlcnipncgnaaGreatDoorStPlain
import Derived.Test.YtmbmlcnipncgnaaGreatDoorRep
namespace Go.Proofs.YtmbmlcnipncgnaaGreatDoor
open Go.RowKit

theorem lt_len (s : ByteArray) : s.data.toList.length = s.size := by rw [Array.length_toList]; rfl
theorem lt_at (s : ByteArray) (j : Nat) (h : j < s.size) : s.data.toList[j]? = some (s[j]'h) := by
  rw [Array.getElem?_toList, Array.getElem?_eq_getElem h]
  rfl
theorem lt_drop (s : ByteArray) (j : Nat) (h : j < s.size) : s.data.toList.drop j = (s[j]'h) :: s.data.toList.drop (j + 1) := by
  rw [List.drop_eq_getElem_cons (by rw [lt_len]; exact h)]
  rfl
theorem lt_out (s : ByteArray) (j : Nat) (h : s.size ≤ j) : s.data.toList.drop j = [] := List.drop_eq_nil_of_le (by rw [lt_len]; exact h)
theorem lt_app (a b : List UInt8) : str a ++ str b = str (a ++ b) := by
  apply ByteArray.ext
  simp [str]

/-- The hexadecimal digit of a number below 16. -/
def hx (n : Nat) : UInt8 := UInt8.ofNat (if n < 10 then 48 + n else 87 + n)
/-- A byte as it stands between double quotes. -/
def escB (c : UInt8) : List UInt8 := if c.toNat = 34 ∨ c.toNat = 92 then [92, c] else if c.toNat < 32 ∨ 126 < c.toNat then [92, 120, hx (c.toNat / 16), hx (c.toNat % 16)] else [c]
def escL (l : List UInt8) : List UInt8 := l.flatMap escB
/-- Quote. -/
def quoteL (l : List UInt8) : List UInt8 := 34 :: (escL l ++ [34])
theorem escL_nil : escL [] = [] := rfl
theorem escL_snoc (l : List UInt8) (c : UInt8) : escL (l ++ [c]) = escL l ++ escB c := by simp [escL]
theorem escL_cons (l : List UInt8) (c : UInt8) : escL (c :: l) = escB c ++ escL l := by simp [escL]
theorem escB_len (c : UInt8) : (escB c).length ≤ 4 := by
  unfold escB
  split
  · simp
  · split <;> simp
theorem escL_len : ∀ l : List UInt8, (escL l).length ≤ 4 * l.length
  | [] => by simp [escL]
  | c :: l => by
    rw [escL_cons, List.length_append, List.length_cons]
    have := escB_len c
    have := escL_len l
    omega

/-- The value of a hexadecimal digit. -/
def hexv (c : Nat) : Option Nat := if 48 ≤ c ∧ c ≤ 57 then some (c - 48) else if 97 ≤ c ∧ c ≤ 102 then some (c - 87) else none

/-- What has been read since the last whole character of a quotation. -/
inductive QSt where
  | whole | esc | hex1 | hex2 (d : Nat)

/-- One more byte of a quotation: the state and the content then; none if it is not permitted. -/
def qstep (most : Nat) (any : Bool) (C : List UInt8) (c : Nat) : QSt → Option (QSt × List UInt8)
  | .whole => if c = 92 then (if C.length < most then some (.esc, C) else none)
      else if c ≠ 34 ∧ 32 ≤ c ∧ c ≤ 126 ∧ C.length < most then some (.whole, C ++ [UInt8.ofNat c]) else none
  | .esc => if c = 34 ∨ c = 92 then some (.whole, C ++ [UInt8.ofNat c]) else if c = 120 ∧ any = true then some (.hex1, C) else none
  | .hex1 => match hexv c with
    | none => none
    | some d => if d < 2 ∨ 7 ≤ d then some (.hex2 d, C) else none
  | .hex2 h => match hexv c with
    | none => none
    | some d => if h * 16 + d < 32 ∨ 126 < h * 16 + d then some (.whole, C ++ [UInt8.ofNat (h * 16 + d)]) else none

/-- The end of a reading: what was read and the offset behind it, or the fault. -/
inductive PR (α : Type) where
  | bad (i : Nat)
  | ok (v : α) (i : Nat)
def QSt.isWhole : QSt → Bool
  | .whole => true
  | _ => false
/-- A quotation from behind its first double quote on. -/
def qrun (least most : Nat) (any : Bool) : QSt → List UInt8 → List UInt8 → Nat → PR (List UInt8)
  | _, _, [], i => .bad i
  | st, C, c :: r, i => if st.isWhole = true ∧ c.toNat = 34 ∧ least ≤ C.length then .ok C (i + 1) else
    match qstep most any C c.toNat st with
    | none => .bad i
    | some (st', C') => qrun least most any st' C' r (i + 1)
/-- A quotation at offset i. -/
def qL (least most : Nat) (any : Bool) (L : List UInt8) (i : Nat) : PR (List UInt8) :=
  match L.drop i with
  | [] => .bad i
  | c :: r => if c.toNat = 34 then qrun least most any .whole [] r (i + 1) else .bad i

theorem qrun_nil (least most : Nat) (any : Bool) (st : QSt) (C : List UInt8) (i : Nat) : qrun least most any st C [] i = .bad i := by cases st <;> rfl
theorem qrun_end (least most : Nat) (any : Bool) (C : List UInt8) (c : UInt8) (r : List UInt8) (i : Nat) (hc : c.toNat = 34) (hl : least ≤ C.length) :
    qrun least most any .whole C (c :: r) i = .ok C (i + 1) := by
  rw [qrun, if_pos ⟨rfl, hc, hl⟩]
theorem qrun_go (least most : Nat) (any : Bool) (st : QSt) (C : List UInt8) (c : UInt8) (r : List UInt8) (i : Nat) (h : ¬ (st.isWhole = true ∧ c.toNat = 34 ∧ least ≤ C.length)) :
    qrun least most any st C (c :: r) i = match qstep most any C c.toNat st with
      | none => .bad i
      | some (st', C') => qrun least most any st' C' r (i + 1) := by
  rw [qrun, if_neg h]
theorem ofNat_of (c : UInt8) : UInt8.ofNat c.toNat = c := by simp
theorem hx_small {n : Nat} (h : n < 16) : (hx n).toNat = if n < 10 then 48 + n else 87 + n := by
  unfold hx
  split <;> simp <;> omega
theorem hexv_hx {n : Nat} (h : n < 16) : hexv (hx n).toNat = some n := by
  rw [hx_small h]
  unfold hexv
  by_cases h1 : n < 10
  · rw [if_pos h1, if_pos (by omega)]
    congr 1
    omega
  · rw [if_neg h1, if_neg (by omega), if_pos (by omega)]
    congr 1
    omega

/-- What is quoted is read again. -/
theorem qrun_esc (least most : Nat) : ∀ (l C r : List UInt8) (i : Nat), C.length + l.length ≤ most →
    qrun least most true .whole C (escL l ++ r) i = qrun least most true .whole (C ++ l) r (i + (escL l).length)
  | [], C, r, i, _ => by simp [escL]
  | c :: l, C, r, i, h => by
    rw [List.length_cons] at h
    have ih := qrun_esc least most l (C ++ [c]) r (i + (escB c).length) (by simp; omega)
    have hgo : qrun least most true .whole C (escB c ++ (escL l ++ r)) i = qrun least most true .whole (C ++ [c]) (escL l ++ r) (i + (escB c).length) := by
      generalize escL l ++ r = R
      have h256 : c.toNat < 256 := c.toNat_lt
      unfold escB
      by_cases h1 : c.toNat = 34 ∨ c.toNat = 92
      · rw [if_pos h1, List.cons_append, List.cons_append, List.nil_append]
        rw [qrun_go _ _ _ _ _ _ _ _ (by simp)]
        have e1 : qstep most true C (92 : UInt8).toNat .whole = some (.esc, C) := by
          simp only [qstep, show (92 : UInt8).toNat = 92 from rfl, if_true]
          rw [if_pos (by omega)]
        rw [e1]
        simp only []
        rw [qrun_go _ _ _ _ _ _ _ _ (by simp [QSt.isWhole])]
        have e2 : qstep most true C c.toNat .esc = some (.whole, C ++ [c]) := by
          simp only [qstep]
          rw [if_pos h1, ofNat_of]
        rw [e2]
        rfl
      · rw [if_neg h1]
        by_cases h2 : c.toNat < 32 ∨ 126 < c.toNat
        · rw [if_pos h2]
          simp only [List.cons_append, List.nil_append]
          rw [qrun_go _ _ _ _ _ _ _ _ (by simp)]
          have e1 : qstep most true C (92 : UInt8).toNat .whole = some (.esc, C) := by
            simp only [qstep, show (92 : UInt8).toNat = 92 from rfl, if_true]
            rw [if_pos (by omega)]
          rw [e1]
          simp only []
          rw [qrun_go _ _ _ _ _ _ _ _ (by simp [QSt.isWhole])]
          have e2 : qstep most true C (120 : UInt8).toNat .esc = some (.hex1, C) := by
            simp [qstep]
          rw [e2]
          simp only []
          rw [qrun_go _ _ _ _ _ _ _ _ (by simp [QSt.isWhole])]
          have e3 : qstep most true C (hx (c.toNat / 16)).toNat .hex1 = some (.hex2 (c.toNat / 16), C) := by
            simp only [qstep, hexv_hx (show c.toNat / 16 < 16 by omega)]
            rw [if_pos (by omega)]
          rw [e3]
          simp only []
          rw [qrun_go _ _ _ _ _ _ _ _ (by simp [QSt.isWhole])]
          have e4 : qstep most true C (hx (c.toNat % 16)).toNat (.hex2 (c.toNat / 16)) = some (.whole, C ++ [c]) := by
            simp only [qstep, hexv_hx (show c.toNat % 16 < 16 by omega)]
            rw [show c.toNat / 16 * 16 + c.toNat % 16 = c.toNat by omega, if_pos h2, ofNat_of]
          rw [e4]
          rfl
        · rw [if_neg h2, List.cons_append, List.nil_append]
          rw [qrun_go _ _ _ _ _ _ _ _ (by simp [QSt.isWhole]; omega)]
          have e1 : qstep most true C c.toNat .whole = some (.whole, C ++ [c]) := by
            simp only [qstep]
            rw [if_neg (by omega), if_pos ⟨by omega, by omega, by omega, by omega⟩, ofNat_of]
          rw [e1]
          rfl
    rw [escL_cons, List.append_assoc, hgo, ih, List.length_append, List.append_assoc, List.cons_append, List.nil_append, Nat.add_assoc]
/-- Unquote of Quote. -/
theorem unquote_quote (l : List UInt8) (most : Nat) (h : l.length ≤ most) : qL 0 most true (quoteL l) 0 = .ok l (quoteL l).length := by
  unfold qL
  rw [List.drop_zero]
  unfold quoteL
  simp only []
  rw [if_pos (by rfl), qrun_esc 0 most l [] [34] 1 (by simpa using h), List.nil_append, qrun_end _ _ _ _ _ _ _ rfl (Nat.zero_le _)]
  simp only [List.length_cons, List.length_append, List.length_nil]
  congr 1
  omega
end Go.Proofs.YtmbmlcnipncgnaaGreatDoor
