/-
  hexDigit, number and bits of the package. Nothing is assumed.
-/
import Derived.Test.YtmbmlcnipncgnaaGreatDoorLtReader
namespace Go.Proofs.YtmbmlcnipncgnaaGreatDoor
open Go.RowKit

set_option maxRecDepth 100000 in
theorem hexDigit_any (c : Nat) (w : World) :
    Calls Tryz.prog 83 #[.int .i32 (c : Int)] w fun e w' => e = .returned (.tuple #[.int .u8 (((hexv c).getD 0 : Nat) : Int), .bool (hexv c).isSome]) ∧ w' = w := by
  by_cases h1 : c < 48
  · have e : hexv c = none := by unfold hexv; rw [if_neg (by omega), if_neg (by omega)]
    have h2 : ¬ (48 : Int) ≤ (c : Int) := by omega
    have h3 : ¬ (97 : Int) ≤ (c : Int) := by omega
    rw [e]
    go_enter Tryz.func83, Tryz.ntmps83
    go_wp2_with fail
    go_ret2
    exact ⟨rfl, rfl⟩
  have h2 : (48 : Int) ≤ (c : Int) := by omega
  by_cases h3 : c ≤ 57
  · have e : hexv c = some (c - 48) := by unfold hexv; rw [if_pos (by omega)]
    have h4 : (c : Int) ≤ 57 := by omega
    have e2 : ((c - 48 : Nat) : Int) = (c : Int) - 48 := by omega
    rw [e]
    show Calls _ _ _ _ fun e w' => e = .returned (.tuple #[.int .u8 ((c - 48 : Nat) : Int), .bool true]) ∧ w' = w
    rw [e2]
    clear e2 e h1 h3
    go_enter Tryz.func83, Tryz.ntmps83
    go_wp2_with fail
    go_ret2
    exact ⟨rfl, rfl⟩
  have h4 : ¬ (c : Int) ≤ 57 := by omega
  by_cases h5 : c < 97
  · have e : hexv c = none := by unfold hexv; rw [if_neg (by omega), if_neg (by omega)]
    have h6 : ¬ (97 : Int) ≤ (c : Int) := by omega
    rw [e]
    go_enter Tryz.func83, Tryz.ntmps83
    go_wp2_with fail
    go_ret2
    exact ⟨rfl, rfl⟩
  have h6 : (97 : Int) ≤ (c : Int) := by omega
  by_cases h7 : c ≤ 102
  · have e : hexv c = some (c - 87) := by unfold hexv; rw [if_neg (by omega), if_pos (by omega)]
    have h8 : (c : Int) ≤ 102 := by omega
    have e2 : ((c - 87 : Nat) : Int) = (c : Int) - 87 := by omega
    rw [e]
    show Calls _ _ _ _ fun e w' => e = .returned (.tuple #[.int .u8 ((c - 87 : Nat) : Int), .bool true]) ∧ w' = w
    rw [e2]
    clear e2 e h1 h3 h5 h7
    go_enter Tryz.func83, Tryz.ntmps83
    go_wp2_with fail
    go_ret2
    exact ⟨by rw [show (c : Int) - 97 + 10 = (c : Int) - 87 by omega]; rfl, rfl⟩
  · have e : hexv c = none := by unfold hexv; rw [if_neg (by omega), if_neg (by omega)]
    have h8 : ¬ (c : Int) ≤ 102 := by omega
    rw [e]
    go_enter Tryz.func83, Tryz.ntmps83
    go_wp2_with fail
    go_ret2
    exact ⟨rfl, rfl⟩

end Go.Proofs.YtmbmlcnipncgnaaGreatDoor
