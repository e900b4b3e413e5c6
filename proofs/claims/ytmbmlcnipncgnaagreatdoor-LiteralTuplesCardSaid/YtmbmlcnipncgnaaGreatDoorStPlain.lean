/-
  The plain mathematics of layer 4 (functions of texts), with no program in it: what the functions compute, told on lists of bytes. Nothing is assumed.
-/
import Derived.WalkKit
import Derived.Lib.IndexMore
import Derived.Lib.IndexLaws
import Derived.Lib.TrimByte
import Derived.Lib.Repeat
import Derived.Lib.ItoaNum
namespace Go.Proofs.YtmbmlcnipncgnaaGreatDoor
open Go.RowKit

/-- The string of a list of bytes. -/
def str (l : List UInt8) : ByteArray := ⟨l.toArray⟩
theorem str_list (l : List UInt8) : (str l).data.toList = l := by simp [str]
theorem str_of (s : ByteArray) : str s.data.toList = s := by simp [str]
theorem str_size (l : List UInt8) : (str l).size = l.length := by simp [str, ByteArray.size]
theorem str_extract (l : List UInt8) (a b : Nat) : (str l).extract a b = str ((l.drop a).take (b - a)) := Lib.extract_mk l a b
theorem extract_str (s : ByteArray) (a b : Nat) : s.extract a b = str ((s.data.toList.drop a).take (b - a)) := by
  conv => lhs; rw [← str_of s]
  exact str_extract _ a b

/-! ### Indices -/

/-- The index from 0 on that k stands for among n. -/
def idx (k : Int) (n : Nat) : Option Nat := if 0 ≤ k then (if k < n then some k.toNat else none) else if 0 ≤ k + n then some (k + n).toNat else none
theorem idx_lt {k : Int} {n i : Nat} (h : idx k n = some i) : i < n := by
  unfold idx at h
  split at h
  · split at h
    · cases h; omega
    · cases h
  · split at h
    · cases h; omega
    · cases h

/-! ### Words -/

def wordsF : Nat → List UInt8 → List (List UInt8)
  | 0, _ => []
  | f + 1, l => (if l.takeWhile (· != 32) = [] then [] else [l.takeWhile (· != 32)]) ++ (match l.dropWhile (· != 32) with | [] => [] | _ :: r => wordsF f r)
def wordsOf (l : List UInt8) : List (List UInt8) := wordsF (l.length + 1) l

theorem takeWhile_hit : ∀ (l : List UInt8) (k : Nat), (∀ j, j < k → ∀ c, l[j]? = some c → c ≠ 32) → l[k]? = some 32 → l.takeWhile (· != 32) = l.take k ∧ l.dropWhile (· != 32) = 32 :: l.drop (k + 1)
  | [], k, _, h => by simp at h
  | c :: l, 0, _, h => by
    simp at h
    subst h
    simp
  | c :: l, k + 1, h0, h => by
    have hc : c ≠ 32 := h0 0 (by omega) c rfl
    have hc' : (c != 32) = true := bne_iff_ne.2 hc
    obtain ⟨h1, h2⟩ := takeWhile_hit l k (fun j hj d hd => h0 (j + 1) (by omega) d (by simpa using hd)) (by simpa using h)
    rw [List.takeWhile_cons, List.dropWhile_cons, hc']
    simp [h1, h2]
theorem takeWhile_none : ∀ (l : List UInt8), (∀ c, c ∈ l → c ≠ 32) → l.takeWhile (· != 32) = l ∧ l.dropWhile (· != 32) = []
  | [], _ => by simp
  | c :: l, h => by
    have hc' : (c != 32) = true := bne_iff_ne.2 (h c (by simp))
    obtain ⟨h1, h2⟩ := takeWhile_none l (fun d hd => h d (by simp [hd]))
    rw [List.takeWhile_cons, List.dropWhile_cons, hc']
    simp [h1, h2]

theorem wordsF_fuel : ∀ (f g : Nat) (l : List UInt8), l.length < f → l.length < g → wordsF f l = wordsF g l
  | 0, _, l, h, _ => absurd h (by omega)
  | _, 0, l, _, h => absurd h (by omega)
  | f + 1, g + 1, l, hf, hg => by
    unfold wordsF
    congr 1
    have hl : (l.dropWhile (· != 32)).length ≤ l.length := (List.dropWhile_suffix _).length_le
    generalize l.dropWhile (· != 32) = d at hl
    cases d with
    | nil => rfl
    | cons c r =>
      simp at hl
      exact wordsF_fuel f g r (by omega) (by omega)

/-- A space at place k, none before it. -/
theorem words_hit (l : List UInt8) (k : Nat) (h0 : ∀ j, j < k → ∀ c, l[j]? = some c → c ≠ 32) (h : l[k]? = some 32) :
    wordsOf l = (if k = 0 then [] else [l.take k]) ++ wordsOf (l.drop (k + 1)) := by
  obtain ⟨h1, h2⟩ := takeWhile_hit l k h0 h
  have hk : k < l.length := (List.getElem?_eq_some_iff.1 h).1
  unfold wordsOf
  rw [wordsF, h1, h2]
  simp only []
  congr 1
  · by_cases hk0 : k = 0
    · subst hk0; simp
    · rw [if_neg hk0, if_neg]
      intro he
      have := congrArg List.length he
      rw [List.length_take, List.length_nil] at this
      omega
  · exact wordsF_fuel _ _ _ (by simp; omega) (by simp)
/-- No space. -/
theorem words_none (l : List UInt8) (h : ∀ c, c ∈ l → c ≠ 32) : wordsOf l = if l = [] then [] else [l] := by
  obtain ⟨h1, h2⟩ := takeWhile_none l h
  unfold wordsOf
  rw [wordsF, h1, h2]
  simp
theorem words_nil : wordsOf [] = [] := rfl

/-! ### Letters -/

def shiftL (lo : UInt8) (by_ : UInt8) (c : UInt8) : UInt8 := if lo ≤ c ∧ c ≤ lo + 25 then c + by_ else c
def upper (l : List UInt8) : List UInt8 := l.map fun c => if 97 ≤ c.toNat ∧ c.toNat ≤ 122 then UInt8.ofNat (c.toNat - 32) else c
def lower (l : List UInt8) : List UInt8 := l.map fun c => if 65 ≤ c.toNat ∧ c.toNat ≤ 90 then UInt8.ofNat (c.toNat + 32) else c

theorem upper_upper (l : List UInt8) : upper (upper l) = upper l := by
  unfold upper
  rw [List.map_map]
  apply List.map_congr_left
  intro c _
  simp only [Function.comp_apply]
  have := c.toNat_lt
  by_cases h : 97 ≤ c.toNat ∧ c.toNat ≤ 122
  · rw [if_pos h, if_neg]
    simp
    omega
  · rw [if_neg h, if_neg h]
theorem lower_lower (l : List UInt8) : lower (lower l) = lower l := by
  unfold lower
  rw [List.map_map]
  apply List.map_congr_left
  intro c _
  simp only [Function.comp_apply]
  have := c.toNat_lt
  by_cases h : 65 ≤ c.toNat ∧ c.toNat ≤ 90
  · rw [if_pos h, if_neg]
    simp
    omega
  · rw [if_neg h, if_neg h]
theorem upper_lower (l : List UInt8) : upper (lower l) = upper l := by
  unfold upper lower
  rw [List.map_map]
  apply List.map_congr_left
  intro c _
  simp only [Function.comp_apply]
  have := c.toNat_lt
  by_cases h : 65 ≤ c.toNat ∧ c.toNat ≤ 90
  · rw [if_pos h]
    rw [if_pos (by simp; omega), if_neg (by omega)]
    apply UInt8.toNat_inj.1
    simp
    omega
  · rw [if_neg h]

/-! ### Trim -/

theorem trim_both (l : List UInt8) (i n : Nat) (hin : i + n ≤ l.length) (h1 : ∀ (j : Nat) c, j < i → l[j]? = some c → c = 32) (h2 : ∀ (j : Nat) c, i + n ≤ j → l[j]? = some c → c = 32)
    (h3 : ∀ c, 0 < n → l[i]? = some c → c ≠ 32) (h4 : ∀ c, 0 < n → l[i + n - 1]? = some c → c ≠ 32) : Lib.trimB l 32 = (l.drop i).take n := by
  unfold Lib.trimB
  by_cases hn : n = 0
  · subst hn
    have hr : Lib.trimRightB l 32 = [] := by
      have := Lib.trimRightB_take l 32 0 (Nat.zero_le _) (fun j b _ hb => by
        rcases Nat.lt_or_ge j i with h | h
        · exact h1 j b h hb
        · exact h2 j b (by omega) hb) (fun b h => by omega)
      simpa using this
    rw [hr]
    simp [Lib.trimLeftB]
  · have hr := Lib.trimRightB_take l 32 (i + n) hin h2 (fun b _ hb => h4 b (by omega) hb)
    rw [hr]
    have hl := Lib.trimLeftB_drop (l.take (i + n)) 32 i (by simp; omega) (fun j b hj hb => h1 j b hj (by rw [List.getElem?_take, if_pos (by omega)] at hb; exact hb))
      (fun b hb => h3 b (by omega) (by rw [List.getElem?_take, if_pos (by omega)] at hb; exact hb))
    rw [hl, List.drop_take]
    congr 1
    omega

/-! ### Replace -/

def repF (old new : List UInt8) : Nat → List UInt8 → List UInt8
  | 0, _ => []
  | f + 1, l => match l with
    | [] => []
    | c :: r => if old.isPrefixOf l then new ++ repF old new f (l.drop old.length) else c :: repF old new f r
def rep (old new l : List UInt8) : List UInt8 := repF old new (l.length + 1) l

theorem repF_fuel (old new : List UInt8) (ho : 0 < old.length) : ∀ (f g : Nat) (l : List UInt8), l.length < f → l.length < g → repF old new f l = repF old new g l
  | 0, _, l, h, _ => absurd h (by omega)
  | _, 0, l, _, h => absurd h (by omega)
  | f + 1, g + 1, [], _, _ => rfl
  | f + 1, g + 1, c :: r, hf, hg => by
    simp at hf hg
    unfold repF
    simp only []
    split
    · rw [repF_fuel old new ho f g _ (by simp; omega) (by simp; omega)]
    · rw [repF_fuel old new ho f g r (by omega) (by omega)]
theorem rep_nil (old new : List UInt8) : rep old new [] = [] := rfl
theorem rep_hit (old new l : List UInt8) (ho : 0 < old.length) (h : Lib.occAt l old 0 = true) : rep old new l = new ++ rep old new (l.drop old.length) := by
  unfold Lib.occAt at h
  rw [List.drop_zero] at h
  have hl := (List.isPrefixOf_iff_prefix.1 h).length_le
  cases l with
  | nil => rw [List.length_nil] at hl; omega
  | cons c r =>
    unfold rep
    rw [repF]
    rw [if_pos h, repF_fuel old new ho _ ((c :: r).drop old.length).length.succ _ (by rw [List.length_drop]; omega) (Nat.lt_succ_self _)]
theorem rep_miss (old new l : List UInt8) (h : Lib.occAt l old 0 = false) (c : UInt8) (hc : l[0]? = some c) : rep old new l = c :: rep old new (l.drop 1) := by
  unfold Lib.occAt at h
  rw [List.drop_zero] at h
  cases l with
  | nil => simp at hc
  | cons d r =>
    simp at hc
    subst hc
    unfold rep
    rw [repF]
    rw [if_neg (by rw [h]; simp)]
    simp
theorem occ_drop (l old : List UInt8) (i j : Nat) : Lib.occAt (l.drop i) old j = Lib.occAt l old (i + j) := by
  unfold Lib.occAt
  rw [List.drop_drop]
theorem rep_skip (old new : List UInt8) (ho : 0 < old.length) : ∀ (k : Nat) (l : List UInt8), k ≤ l.length → (∀ j, j < k → Lib.occAt l old j = false) → rep old new l = l.take k ++ rep old new (l.drop k)
  | 0, l, _, _ => by simp
  | k + 1, l, hk, h => by
    have hc : l[0]? = some (l[0]'(by omega)) := List.getElem?_eq_getElem (by omega)
    rw [rep_miss old new l (h 0 (by omega)) _ hc, rep_skip old new ho k (l.drop 1) (by simp; omega) (fun j hj => by rw [occ_drop]; exact h _ (by omega))]
    cases l with
    | nil => simp at hk
    | cons c r => simp
theorem rep_none (old new : List UInt8) (ho : 0 < old.length) (l : List UInt8) (h : ∀ j, j ≤ l.length → Lib.occAt l old j = false) : rep old new l = l := by
  rw [rep_skip old new ho l.length l (Nat.le_refl _) (fun j hj => h j (by omega))]
  simp [rep_nil]

end Go.Proofs.YtmbmlcnipncgnaaGreatDoor
