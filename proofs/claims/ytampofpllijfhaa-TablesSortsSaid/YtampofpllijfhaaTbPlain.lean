/-
  The plain mathematics of layer 8 (tables), with no program in it: what the functions compute, told on lists of lists of texts. Nothing is assumed.
-/
import Derived.WalkKit
import Derived.Lib.Hide
namespace Go.Proofs.Ytampofpllijfhaa
open Go.RowKit

abbrev Row := List ByteArray
abbrev Tab := List (List ByteArray)

theorem take_snoc {α : Type} (l : List α) (k : Nat) (h : k < l.length) : l.take (k + 1) = l.take k ++ [l[k]] := List.take_succ_eq_append_getElem h
theorem drop_at {α : Type} (l : List α) (k : Nat) (h : k < l.length) : l.drop k = l[k] :: l.drop (k + 1) := List.drop_eq_getElem_cons h
/-- The first error of a list; 0 where there is none. -/
def firstE {α : Type} (f : α → Int) : List α → Int
  | [] => 0
  | x :: l => if f x = 0 then firstE f l else f x
theorem firstE_ok {α : Type} (f : α → Int) : ∀ l : List α, firstE f l = 0 → ∀ x, x ∈ l → f x = 0
  | [], _, x, hx => by cases hx
  | v :: l, h, x, hx => by
    rw [firstE] at h
    by_cases hv : f v = 0
    · rw [if_pos hv] at h
      rcases List.mem_cons.1 hx with rfl | hx
      · exact hv
      · exact firstE_ok f l h x hx
    · rw [if_neg hv] at h
      exact absurd h hv
/-- A byte of a text. -/
def byteE (c : UInt8) : Int := if 32 ≤ c.toNat ∧ c.toNat ≤ 126 then 0 else 4
def cellE (s : ByteArray) : Int := if 64 < s.size then 2 else firstE byteE s.data.toList
def rowE (n : Nat) (r : Row) : Int := if r.length < 1 ∨ 8 < r.length then 2 else if r.length ≠ n then 4 else firstE cellE r
/-- The number of columns. -/
def colsT (t : Tab) : Nat := match t with
  | [] => 0
  | r :: _ => r.length
def chkT (t : Tab) : Int := if 8 < t.length then 2 else firstE (rowE (colsT t)) t
theorem chkT_rows {t : Tab} (h : chkT t = 0) : t.length ≤ 8 ∧ ∀ r ∈ t, r.length = colsT t ∧ 1 ≤ r.length ∧ r.length ≤ 8 ∧ ∀ s ∈ r, s.size ≤ 64 := by
  unfold chkT at h
  split at h
  · exact absurd h (by decide)
  · rename_i h8
    refine ⟨by omega, fun r hr => ?_⟩
    have h1 := firstE_ok _ _ h r hr
    unfold rowE at h1
    split at h1
    · exact absurd h1 (by decide)
    · split at h1
      · exact absurd h1 (by decide)
      · rename_i h2 h3
        refine ⟨by omega, by omega, by omega, fun s hs => ?_⟩
        have h4 := firstE_ok _ _ h1 s hs
        unfold cellE at h4
        split at h4
        · exact absurd h4 (by decide)
        · omega
theorem colsT_at {t : Tab} (h : 0 < t.length) : colsT t = t[0].length := by
  cases t with
  | nil => cases h
  | cons r t => rfl
theorem firstE_at {α : Type} (f : α → Int) (l : List α) (k : Nat) (h : k < l.length) : firstE f (l.drop k) = if f l[k] = 0 then firstE f (l.drop (k + 1)) else f l[k] := by
  rw [drop_at l k h, firstE]
theorem drop_byte (s : ByteArray) (k : Nat) (h : k < s.size) : s.data.toList.drop k = s[k] :: s.data.toList.drop (k + 1) := by
  rw [List.drop_eq_getElem_cons (by simpa using h)]; rfl
theorem bytes_at (s : ByteArray) (k : Nat) (h : k < s.size) : firstE byteE (s.data.toList.drop k) = if byteE s[k] = 0 then firstE byteE (s.data.toList.drop (k + 1)) else byteE s[k] := by
  rw [drop_byte s k h, firstE]
theorem bytes_end (s : ByteArray) : firstE byteE (s.data.toList.drop s.size) = 0 := by
  rw [List.drop_of_length_le (by simp)]; rfl
theorem byte_low {c : UInt8} (h : (c.toNat : Int) < 32) : byteE c = 4 := by unfold byteE; rw [if_neg (by omega)]
theorem byte_high {c : UInt8} (h : 126 < (c.toNat : Int)) : byteE c = 4 := by unfold byteE; rw [if_neg (by omega)]
theorem byte_good {c : UInt8} (h : ¬ (c.toNat : Int) < 32) (h' : ¬ 126 < (c.toNat : Int)) : byteE c = 0 := by unfold byteE; rw [if_pos (by omega)]
theorem firstE_end {α : Type} (f : α → Int) (l : List α) : firstE f (l.drop l.length) = 0 := by rw [List.drop_of_length_le (Nat.le_refl _)]; rfl
theorem cellE_big {s : ByteArray} (h : 64 < (s.size : Int)) : cellE s = 2 := by unfold cellE; rw [if_pos (by omega)]
theorem cellE_in {s : ByteArray} (h : ¬ 64 < (s.size : Int)) : cellE s = firstE byteE s.data.toList := by unfold cellE; rw [if_neg (by omega)]
theorem rowE_size {n : Nat} {r : Row} (h : (r.length : Int) < 1 ∨ 8 < (r.length : Int)) : rowE n r = 2 := by unfold rowE; rw [if_pos (by omega)]
theorem rowE_form {n : Nat} {r : Row} (h : ¬ (r.length : Int) < 1) (h' : ¬ 8 < (r.length : Int)) (hn : r.length ≠ n) : rowE n r = 4 := by unfold rowE; rw [if_neg (by omega), if_pos hn]
theorem rowE_in {n : Nat} {r : Row} (h : ¬ (r.length : Int) < 1) (h' : ¬ 8 < (r.length : Int)) (hn : r.length = n) : rowE n r = firstE cellE r := by unfold rowE; rw [if_neg (by omega), if_neg (by omega)]
theorem chkT_big {t : Tab} (h : 8 < (t.length : Int)) : chkT t = 2 := by unfold chkT; rw [if_pos (by omega)]
theorem chkT_in {t : Tab} (h : ¬ 8 < (t.length : Int)) : chkT t = firstE (rowE (colsT t)) t := by unfold chkT; rw [if_neg (by omega)]
theorem colsT_le {t : Tab} (h : chkT t = 0) : colsT t ≤ 8 := by
  cases t with
  | nil => exact Nat.zero_le _
  | cons r t => exact ((chkT_rows h).2 r (List.mem_cons_self ..)).2.2.1

end Go.Proofs.Ytampofpllijfhaa
