/-
  Numbers of matches, from the head on and from the end. With no program in it. Nothing is assumed.
-/
import Derived.Test.YtbogiigdadljpaaDoorPtPick
namespace Go.Proofs.YtbogiigdadljpaaDoor
open Go.RowKit Go.Shelf

theorem pick_at (l : List (Nat × Nat)) (k : Int) (i : Nat) (_hk : -(l.length : Int) ≤ k) (hi : (i : Int) = if k < 0 then k + (l.length : Nat) else k) : pickL l k = l[i]? := by
  have h : pickL l k = if 0 ≤ (if k < 0 then k + (l.length : Nat) else k) then l[Int.toNat (if k < 0 then k + (l.length : Nat) else k)]? else none := rfl
  rw [h, ← hi, if_pos (Int.natCast_nonneg _), Int.toNat_natCast]
theorem pick_len (l : List (Nat × Nat)) : pickL l (l.length : Nat) = none := by
  rw [pick_at l _ l.length (by omega) (by rw [if_neg (by omega)])]
  exact List.getElem?_eq_none (Nat.le_refl _)
theorem pick_under (l : List (Nat × Nat)) : pickL l (-(l.length : Int) - 1) = none := by
  have h : pickL l (-(l.length : Int) - 1) = if 0 ≤ (if (-(l.length : Int) - 1) < 0 then (-(l.length : Int) - 1) + (l.length : Nat) else (-(l.length : Int) - 1)) then l[Int.toNat (if (-(l.length : Int) - 1) < 0 then (-(l.length : Int) - 1) + (l.length : Nat) else (-(l.length : Int) - 1))]? else none := rfl
  rw [h, if_neg (by omega)]
theorem pickR_some {p s : ByteArray} {k : Int} {x y : Nat × Nat} {m : Int} (h0 : errP p = 0) (h : PickR p s k x m) (hy : pickL (matS p s) k = some y) : x = y ∧ m = 0 := by
  rcases h with ⟨h, _⟩ | ⟨_, ⟨h, hm⟩ | ⟨h, _⟩⟩
  · exact absurd h0 h
  · rw [hy] at h; cases h; exact ⟨rfl, hm⟩
  · rw [hy] at h; cases h
theorem pickR_none {p s : ByteArray} {k : Int} {x : Nat × Nat} {m : Int} (h0 : errP p = 0) (h : PickR p s k x m) (hy : pickL (matS p s) k = none) : x = (0, 0) ∧ m = 7 := by
  rcases h with ⟨h, _⟩ | ⟨_, ⟨h, _⟩ | ⟨_, hm, hx⟩⟩
  · exact absurd h0 h
  · rw [hy] at h; cases h
  · exact ⟨hx, hm⟩
end Go.Proofs.YtbogiigdadljpaaDoor
