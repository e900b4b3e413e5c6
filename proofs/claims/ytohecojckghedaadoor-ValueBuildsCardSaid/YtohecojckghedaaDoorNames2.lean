/-
  The walks of ParseType and Default.
-/
import Derived.Test.YtohecojckghedaaDoorNames
namespace Go.Proofs.YtohecojckghedaaDoor
open Go.RowKit

def tparse (s : ByteArray) : Int :=
  if s = tname 1 then 1 else if s = tname 2 then 2 else if s = tname 3 then 3 else if s = tname 4 then 4 else if s = tname 5 then 5 else if s = tname 6 then 6
  else if s = tname 7 then 7 else if s = tname 8 then 8 else 0

theorem tparse_cases (s : ByteArray) : s = tname 1 ∨ s = tname 2 ∨ s = tname 3 ∨ s = tname 4 ∨ s = tname 5 ∨ s = tname 6 ∨ s = tname 7 ∨ s = tname 8 ∨
    (s ≠ tname 1 ∧ s ≠ tname 2 ∧ s ≠ tname 3 ∧ s ≠ tname 4 ∧ s ≠ tname 5 ∧ s ≠ tname 6 ∧ s ≠ tname 7 ∧ s ≠ tname 8) := by
  by_cases h1 : s = tname 1
  · exact .inl h1
  by_cases h2 : s = tname 2
  · exact .inr (.inl h2)
  by_cases h3 : s = tname 3
  · exact .inr (.inr (.inl h3))
  by_cases h4 : s = tname 4
  · exact .inr (.inr (.inr (.inl h4)))
  by_cases h5 : s = tname 5
  · exact .inr (.inr (.inr (.inr (.inl h5))))
  by_cases h6 : s = tname 6
  · exact .inr (.inr (.inr (.inr (.inr (.inl h6)))))
  by_cases h7 : s = tname 7
  · exact .inr (.inr (.inr (.inr (.inr (.inr (.inl h7))))))
  by_cases h8 : s = tname 8
  · exact .inr (.inr (.inr (.inr (.inr (.inr (.inr (.inl h8)))))))
  · exact .inr (.inr (.inr (.inr (.inr (.inr (.inr (.inr ⟨h1, h2, h3, h4, h5, h6, h7, h8⟩)))))))

theorem tparse_none {s : ByteArray} (h : ∀ j : Nat, 1 ≤ j → j < 9 → s ≠ tname j) : tparse s = 0 := by
  have h1 : s ≠ tname 1 := h 1 (by omega) (by omega)
  have h2 : s ≠ tname 2 := h 2 (by omega) (by omega)
  have h3 : s ≠ tname 3 := h 3 (by omega) (by omega)
  have h4 : s ≠ tname 4 := h 4 (by omega) (by omega)
  have h5 : s ≠ tname 5 := h 5 (by omega) (by omega)
  have h6 : s ≠ tname 6 := h 6 (by omega) (by omega)
  have h7 : s ≠ tname 7 := h 7 (by omega) (by omega)
  have h8 : s ≠ tname 8 := h 8 (by omega) (by omega)
  unfold tparse
  rw [if_neg h1, if_neg h2, if_neg h3, if_neg h4, if_neg h5, if_neg h6, if_neg h7, if_neg h8]

theorem ret_ib {k : IntKind} {a b : Int} {c d : Bool} (h : a = b) (h' : c = d) : Ending.returned (.tuple #[.int k a, .bool c]) = .returned (.tuple #[.int k b, .bool d]) := by rw [h, h']

set_option maxRecDepth 100000 in
set_option maxHeartbeats 1600000 in
theorem parseType_any (s : ByteArray) (w : World) (hN : Names w) :
    Calls Tryd.prog 27 #[.string s] w fun e w' => e = .returned (.tuple #[.int .i64 (tparse s), .bool (decide (tparse s ≠ 0))]) ∧ w = w' := by
  obtain ⟨h0, g1, g2, g3, g4, g5, g6, g7, g8⟩ := hN
  have i0 : ∀ w : World, (Instr.index 85 (.agg #[.string ⟨#[]⟩, .string (tname 1), .string (tname 2), .string (tname 3), .string (tname 4), .string (tname 5), .string (tname 6), .string (tname 7), .string (tname 8)]) (.int .i64 0)).run Tryd.prog w = .ok (.string ⟨#[]⟩) w := fun _ => by kernel_rfl
  have i1 : ∀ w : World, (Instr.index 85 (.agg #[.string ⟨#[]⟩, .string (tname 1), .string (tname 2), .string (tname 3), .string (tname 4), .string (tname 5), .string (tname 6), .string (tname 7), .string (tname 8)]) (.int .i64 1)).run Tryd.prog w = .ok (.string (tname 1)) w := fun _ => by kernel_rfl
  have i2 : ∀ w : World, (Instr.index 85 (.agg #[.string ⟨#[]⟩, .string (tname 1), .string (tname 2), .string (tname 3), .string (tname 4), .string (tname 5), .string (tname 6), .string (tname 7), .string (tname 8)]) (.int .i64 2)).run Tryd.prog w = .ok (.string (tname 2)) w := fun _ => by kernel_rfl
  have i3 : ∀ w : World, (Instr.index 85 (.agg #[.string ⟨#[]⟩, .string (tname 1), .string (tname 2), .string (tname 3), .string (tname 4), .string (tname 5), .string (tname 6), .string (tname 7), .string (tname 8)]) (.int .i64 3)).run Tryd.prog w = .ok (.string (tname 3)) w := fun _ => by kernel_rfl
  have i4 : ∀ w : World, (Instr.index 85 (.agg #[.string ⟨#[]⟩, .string (tname 1), .string (tname 2), .string (tname 3), .string (tname 4), .string (tname 5), .string (tname 6), .string (tname 7), .string (tname 8)]) (.int .i64 4)).run Tryd.prog w = .ok (.string (tname 4)) w := fun _ => by kernel_rfl
  have i5 : ∀ w : World, (Instr.index 85 (.agg #[.string ⟨#[]⟩, .string (tname 1), .string (tname 2), .string (tname 3), .string (tname 4), .string (tname 5), .string (tname 6), .string (tname 7), .string (tname 8)]) (.int .i64 5)).run Tryd.prog w = .ok (.string (tname 5)) w := fun _ => by kernel_rfl
  have i6 : ∀ w : World, (Instr.index 85 (.agg #[.string ⟨#[]⟩, .string (tname 1), .string (tname 2), .string (tname 3), .string (tname 4), .string (tname 5), .string (tname 6), .string (tname 7), .string (tname 8)]) (.int .i64 6)).run Tryd.prog w = .ok (.string (tname 6)) w := fun _ => by kernel_rfl
  have i7 : ∀ w : World, (Instr.index 85 (.agg #[.string ⟨#[]⟩, .string (tname 1), .string (tname 2), .string (tname 3), .string (tname 4), .string (tname 5), .string (tname 6), .string (tname 7), .string (tname 8)]) (.int .i64 7)).run Tryd.prog w = .ok (.string (tname 7)) w := fun _ => by kernel_rfl
  have i8 : ∀ w : World, (Instr.index 85 (.agg #[.string ⟨#[]⟩, .string (tname 1), .string (tname 2), .string (tname 3), .string (tname 4), .string (tname 5), .string (tname 6), .string (tname 7), .string (tname 8)]) (.int .i64 8)).run Tryd.prog w = .ok (.string (tname 8)) w := fun _ => by kernel_rfl
  go_enter Tryd.func27, Tryd.ntmps27
  go_wp2_with fail
  go_loop [7] (fun i => ∃ k : Nat, k ≤ 9 ∧ i = .int .i64 k ∧ ∀ j : Nat, 1 ≤ j → j < k → s ≠ tname j) (fun i => 9 - (intOf i).toNat)
  case atStart => exact ⟨0, by omega, rfl, fun j h1 h2 => absurd h2 (by omega)⟩
  case round =>
    obtain ⟨k, hk, rfl, hall⟩ := hrel
    have hk' : k = 0 ∨ k = 1 ∨ k = 2 ∨ k = 3 ∨ k = 4 ∨ k = 5 ∨ k = 6 ∨ k = 7 ∨ k = 8 ∨ k = 9 := by omega
    rcases hk' with rfl | rfl | rfl | rfl | rfl | rfl | rfl | rfl | rfl | rfl
    · clear hall
      go_wp2_with (go_at_call 72; refine (isType_no _ _ (by decide)).mono ?_; rintro e w' ⟨rfl, rfl⟩)
      go_round
      case rel => exact ⟨1, by omega, rfl, fun j h1 h2 => absurd h2 (by omega)⟩
      case measure => simp [intOf]
    · by_cases hs : s = tname 1
      · subst hs
        clear hall
        go_wp2_with (go_at_call 72; refine (isType_yes _ _ (by decide) (by decide)).mono ?_; rintro e w' ⟨rfl, rfl⟩)
        go_ret2
        exact ⟨ret_ib (by decide) (by decide), rfl⟩
      · have HA := Lib.hid hall; clear hall
        have HS := Lib.hid hs
        have hq := str_ne (a := tname 1) (b := s) (fun h => hs h.symm)
        clear hs
        go_wp2_with (go_at_call 72; refine (isType_yes _ _ (by decide) (by decide)).mono ?_; rintro e w' ⟨rfl, rfl⟩)
        go_round
        case rel => exact ⟨2, by omega, rfl, fun j h1 h2 => by
          by_cases hj : j = 1
          · subst hj; exact HS.out
          · exact HA.out j h1 (by omega)⟩
        case measure => simp [intOf]
    · by_cases hs : s = tname 2
      · subst hs
        clear hall
        go_wp2_with (go_at_call 72; refine (isType_yes _ _ (by decide) (by decide)).mono ?_; rintro e w' ⟨rfl, rfl⟩)
        go_ret2
        exact ⟨ret_ib (by decide) (by decide), rfl⟩
      · have HA := Lib.hid hall; clear hall
        have HS := Lib.hid hs
        have hq := str_ne (a := tname 2) (b := s) (fun h => hs h.symm)
        clear hs
        go_wp2_with (go_at_call 72; refine (isType_yes _ _ (by decide) (by decide)).mono ?_; rintro e w' ⟨rfl, rfl⟩)
        go_round
        case rel => exact ⟨3, by omega, rfl, fun j h1 h2 => by
          by_cases hj : j = 2
          · subst hj; exact HS.out
          · exact HA.out j h1 (by omega)⟩
        case measure => simp [intOf]
    · by_cases hs : s = tname 3
      · subst hs
        clear hall
        go_wp2_with (go_at_call 72; refine (isType_yes _ _ (by decide) (by decide)).mono ?_; rintro e w' ⟨rfl, rfl⟩)
        go_ret2
        exact ⟨ret_ib (by decide) (by decide), rfl⟩
      · have HA := Lib.hid hall; clear hall
        have HS := Lib.hid hs
        have hq := str_ne (a := tname 3) (b := s) (fun h => hs h.symm)
        clear hs
        go_wp2_with (go_at_call 72; refine (isType_yes _ _ (by decide) (by decide)).mono ?_; rintro e w' ⟨rfl, rfl⟩)
        go_round
        case rel => exact ⟨4, by omega, rfl, fun j h1 h2 => by
          by_cases hj : j = 3
          · subst hj; exact HS.out
          · exact HA.out j h1 (by omega)⟩
        case measure => simp [intOf]
    · by_cases hs : s = tname 4
      · subst hs
        clear hall
        go_wp2_with (go_at_call 72; refine (isType_yes _ _ (by decide) (by decide)).mono ?_; rintro e w' ⟨rfl, rfl⟩)
        go_ret2
        exact ⟨ret_ib (by decide) (by decide), rfl⟩
      · have HA := Lib.hid hall; clear hall
        have HS := Lib.hid hs
        have hq := str_ne (a := tname 4) (b := s) (fun h => hs h.symm)
        clear hs
        go_wp2_with (go_at_call 72; refine (isType_yes _ _ (by decide) (by decide)).mono ?_; rintro e w' ⟨rfl, rfl⟩)
        go_round
        case rel => exact ⟨5, by omega, rfl, fun j h1 h2 => by
          by_cases hj : j = 4
          · subst hj; exact HS.out
          · exact HA.out j h1 (by omega)⟩
        case measure => simp [intOf]
    · by_cases hs : s = tname 5
      · subst hs
        clear hall
        go_wp2_with (go_at_call 72; refine (isType_yes _ _ (by decide) (by decide)).mono ?_; rintro e w' ⟨rfl, rfl⟩)
        go_ret2
        exact ⟨ret_ib (by decide) (by decide), rfl⟩
      · have HA := Lib.hid hall; clear hall
        have HS := Lib.hid hs
        have hq := str_ne (a := tname 5) (b := s) (fun h => hs h.symm)
        clear hs
        go_wp2_with (go_at_call 72; refine (isType_yes _ _ (by decide) (by decide)).mono ?_; rintro e w' ⟨rfl, rfl⟩)
        go_round
        case rel => exact ⟨6, by omega, rfl, fun j h1 h2 => by
          by_cases hj : j = 5
          · subst hj; exact HS.out
          · exact HA.out j h1 (by omega)⟩
        case measure => simp [intOf]
    · by_cases hs : s = tname 6
      · subst hs
        clear hall
        go_wp2_with (go_at_call 72; refine (isType_yes _ _ (by decide) (by decide)).mono ?_; rintro e w' ⟨rfl, rfl⟩)
        go_ret2
        exact ⟨ret_ib (by decide) (by decide), rfl⟩
      · have HA := Lib.hid hall; clear hall
        have HS := Lib.hid hs
        have hq := str_ne (a := tname 6) (b := s) (fun h => hs h.symm)
        clear hs
        go_wp2_with (go_at_call 72; refine (isType_yes _ _ (by decide) (by decide)).mono ?_; rintro e w' ⟨rfl, rfl⟩)
        go_round
        case rel => exact ⟨7, by omega, rfl, fun j h1 h2 => by
          by_cases hj : j = 6
          · subst hj; exact HS.out
          · exact HA.out j h1 (by omega)⟩
        case measure => simp [intOf]
    · by_cases hs : s = tname 7
      · subst hs
        clear hall
        go_wp2_with (go_at_call 72; refine (isType_yes _ _ (by decide) (by decide)).mono ?_; rintro e w' ⟨rfl, rfl⟩)
        go_ret2
        exact ⟨ret_ib (by decide) (by decide), rfl⟩
      · have HA := Lib.hid hall; clear hall
        have HS := Lib.hid hs
        have hq := str_ne (a := tname 7) (b := s) (fun h => hs h.symm)
        clear hs
        go_wp2_with (go_at_call 72; refine (isType_yes _ _ (by decide) (by decide)).mono ?_; rintro e w' ⟨rfl, rfl⟩)
        go_round
        case rel => exact ⟨8, by omega, rfl, fun j h1 h2 => by
          by_cases hj : j = 7
          · subst hj; exact HS.out
          · exact HA.out j h1 (by omega)⟩
        case measure => simp [intOf]
    · by_cases hs : s = tname 8
      · subst hs
        clear hall
        go_wp2_with (go_at_call 72; refine (isType_yes _ _ (by decide) (by decide)).mono ?_; rintro e w' ⟨rfl, rfl⟩)
        go_ret2
        exact ⟨ret_ib (by decide) (by decide), rfl⟩
      · have HA := Lib.hid hall; clear hall
        have HS := Lib.hid hs
        have hq := str_ne (a := tname 8) (b := s) (fun h => hs h.symm)
        clear hs
        go_wp2_with (go_at_call 72; refine (isType_yes _ _ (by decide) (by decide)).mono ?_; rintro e w' ⟨rfl, rfl⟩)
        go_round
        case rel => exact ⟨9, by omega, rfl, fun j h1 h2 => by
          by_cases hj : j = 8
          · subst hj; exact HS.out
          · exact HA.out j h1 (by omega)⟩
        case measure => simp [intOf]
    · have HA := Lib.hid hall; clear hall
      go_wp2_with fail
      go_ret2
      have hz : tparse s = 0 := tparse_none HA.out
      exact ⟨ret_ib hz.symm (by rw [hz]; rfl), rfl⟩

set_option maxRecDepth 100000 in
set_option maxHeartbeats 1600000 in
theorem refParseType_any (s : ByteArray) (w : World) :
    Calls Tryd.prog 28 #[.string s] w fun e w' => e = .returned (.tuple #[.int .i64 (tparse s), .bool (decide (tparse s ≠ 0))]) ∧ Below w.heap.size w w' := by
  go_enter Tryd.func28, Tryd.ntmps28
  go_wp2_with fail
  go_loopw [4] (fun i wr => (∃ k : Nat, 1 ≤ k ∧ k ≤ 9 ∧ i = .int .i64 k ∧ ∀ j : Nat, 1 ≤ j → j < k → s ≠ tname j) ∧ Below w.heap.size w wr) (fun i _ => 9 - (intOf i).toNat)
  case atStart => exact ⟨⟨1, by omega, by omega, rfl, fun j h1 h2 => absurd h2 (by omega)⟩, Below.refl _ _⟩
  case round =>
    obtain ⟨⟨k, hk1, hk, rfl, hall⟩, hbel⟩ := hrel
    by_cases hk9 : k = 9
    · subst hk9
      have hz : tparse s = 0 := tparse_none hall
      have HZ := Lib.hid hz; clear hz
      have HA := Lib.hid hall; clear hall
      go_wp2_with fail
      go_ret2
      exact ⟨ret_ib HZ.out.symm (by rw [HZ.out]; rfl), hbel⟩
    · by_cases hs : s = tname k
      · have hz : tparse s = k := by
          subst hs
          have hk' : k = 1 ∨ k = 2 ∨ k = 3 ∨ k = 4 ∨ k = 5 ∨ k = 6 ∨ k = 7 ∨ k = 8 := by omega
          rcases hk' with rfl | rfl | rfl | rfl | rfl | rfl | rfl | rfl <;> decide
        have HZ := Lib.hid hz; clear hz
        have HA := Lib.hid hall; clear hall
        have hq : ((tname k).toList == s.toList) = true := by rw [hs]; simp
        have HS := Lib.hid hs; clear hs
        have hk8 : k ≤ 8 := by omega
        have HK := Lib.hid hk9; clear hk9
        go_wp2_with (go_at_call 32; refine (refTypeName_any _ _).mono ?_; rintro e w1 ⟨rfl, hb1⟩)
        go_ret2
        exact ⟨ret_ib HZ.out.symm (by rw [HZ.out]; simp; omega), hbel.trans (hb1.mono hbel.size)⟩
      · have HA := Lib.hid hall; clear hall
        have hq := str_ne (a := tname k) (b := s) (fun h => hs h.symm)
        have HS := Lib.hid hs; clear hs
        have HK := Lib.hid hk9; clear hk9
        have hk8 : k ≤ 8 := by have := HK.out; omega
        go_wp2_with (go_at_call 32; refine (refTypeName_any _ _).mono ?_; rintro e w1 ⟨rfl, hb1⟩)
        go_roundw
        case rel => exact ⟨⟨k + 1, by omega, by omega, by go_num, fun j h1 h2 => by
          by_cases hj : j = k
          · subst hj; exact HS.out
          · exact HA.out j h1 (by omega)⟩, hbel.trans (hb1.mono hbel.size)⟩
        case measure => simp [intOf]; omega

end Go.Proofs.YtohecojckghedaaDoor
