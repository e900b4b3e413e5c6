/-
  The matches of a text are the leftmost ones, and the longest there. With no program in it. Nothing is assumed.
-/
import Derived.Test.YtbogiigdadljpaaDoorEnP
import Derived.Test.YtbogiigdadljpaaDoorPtIter
namespace Go.Proofs.YtbogiigdadljpaaDoor
open Go.RowKit

/-- Matches from an offset on: nothing begins before the next one, nothing longer begins with one. -/
def LM (acc : Nat → Nat → Bool) (n : Nat) : Nat → List (Nat × Nat) → Prop
  | a, [] => ∀ i j, a ≤ i → i < j → j ≤ n → acc i j = false
  | a, x :: r => (∀ i j, a ≤ i → i < x.1 → i < j → j ≤ n → acc i j = false) ∧ (∀ j, x.2 < j → j ≤ n → acc x.1 j = false) ∧ acc x.1 x.2 = true ∧ LM acc n x.2 r
/-- Whether a part of a text is accepted. -/
def accP (ps : List Ps) (last : Int) (L : List UInt8) (i j : Nat) : Bool := accT ps last ((L.drop i).take (j - i))
theorem matL_left (ps : List Ps) (last : Int) (L : List UInt8) : ∀ (g i a : Nat), a ≤ i → L.length < i + g → (∀ i' j, a ≤ i' → i' < i → i' < j → j ≤ L.length → accP ps last L i' j = false) →
    LM (accP ps last L) L.length a (matL ps (hopeL ps last L) L.length g i) := by
  intro g
  induction g with
  | zero =>
    intro i a ha hg hn
    exact fun i' j h1 h2 h3 => hn i' j h1 (by omega) h2 h3
  | succ g ih =>
    intro i a ha hg hn
    by_cases hi : i < L.length
    · rw [matL_step ps _ _ g i hi]
      obtain ⟨h1, h2⟩ := acc_run ps last L i (Nat.le_of_lt hi)
      have hle := runL_le ps ((hopeL ps last L).drop i) 1 i
      obtain ⟨e, he⟩ : ∃ e, e = runL ps ((hopeL ps last L).drop i) 1 i := ⟨_, rfl⟩
      rw [← he] at h1 h2 hle ⊢
      split
      · rename_i h
        exact ⟨fun i' j q1 q2 q3 q4 => hn i' j q1 q2 q3 q4, fun j q1 q2 => h1 j q1 q2, h2 h, ih e e (Nat.le_refl _) (by omega) (fun i' j q1 q2 => absurd q1 (by omega))⟩
      · rename_i h
        refine ih (i + 1) a (by omega) (by omega) fun i' j q1 q2 q3 q4 => ?_
        by_cases hq : i' < i
        · exact hn i' j q1 hq q3 q4
        · obtain rfl : i' = i := by omega
          exact h1 j (by omega) q4
    · rw [matL_end _ _ _ _ _ hi]
      exact fun i' j h1 h2 h3 => hn i' j h1 (by omega) h2 h3
/-- Whether a pattern matches a text. -/
def accS (p s : ByteArray) : Bool := match parseT p.data.toList with
  | .ok t _ => accT (buildT t).1 (buildT t).2 s.data.toList
  | .bad _ => false
theorem err_ok {p : ByteArray} (h : errP p = 0) : ∃ t m, parseT p.data.toList = .ok t m ∧ ¬ (p.size < 1 ∨ 40 < p.size) := by
  unfold errP at h
  split at h
  · cases h
  · rename_i hs
    split at h
    · cases h
    · rename_i t m hq
      exact ⟨t, m, hq, hs⟩
theorem extract_list (s : ByteArray) (i j : Nat) : (s.extract i j).data.toList = (s.data.toList.drop i).take (j - i) := by
  rw [ByteArray.data_extract, Array.toList_extract, List.extract_eq_take_drop]
theorem accS_part {p : ByteArray} {t : PT} {m : Nat} (h : parseT p.data.toList = .ok t m) (s : ByteArray) (i j : Nat) : accS p (s.extract i j) = accP (buildT t).1 (buildT t).2 s.data.toList i j := by
  unfold accS accP
  rw [h, extract_list]
theorem matS_left {p : ByteArray} (h0 : errP p = 0) (s : ByteArray) : LM (fun i j => accS p (s.extract i j)) s.size 0 (matS p s) := by
  obtain ⟨t, m, hq, hs⟩ := err_ok h0
  have e1 : matS p s = matT t s.data.toList := by
    unfold matS
    rw [if_neg hs, hq]
  have e2 : (fun i j => accS p (s.extract i j)) = accP (buildT t).1 (buildT t).2 s.data.toList := by
    funext i j
    exact accS_part hq s i j
  have e3 : s.size = s.data.toList.length := (lt_len s).symm
  rw [e1, e2, e3]
  exact matL_left _ _ _ _ 0 0 (Nat.le_refl _) (by omega) (fun i' j h1 h2 => absurd h2 (by omega))
end Go.Proofs.YtbogiigdadljpaaDoor
