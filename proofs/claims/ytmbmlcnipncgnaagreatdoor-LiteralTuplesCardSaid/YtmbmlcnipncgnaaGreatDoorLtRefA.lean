/-
  at, word and digit of the reference. Nothing is assumed.
-/
import Derived.Test.YtmbmlcnipncgnaaGreatDoorLtNumber
namespace Go.Proofs.YtmbmlcnipncgnaaGreatDoor
open Go.RowKit

theorem rat_any (s : ByteArray) (i : Nat) (w : World) :
    Calls Tryz.prog 44 #[.string s, .int .i64 (i : Int)] w fun e w' => e = .returned (.int .u8 (pk s.data.toList i : Int)) ∧ w' = w := by
  by_cases h : i < s.size
  · have h' : (i : Int) < (s.size : Int) := by omega
    rw [pk_in s i h]
    go_enter Tryz.func44, Tryz.ntmps44
    go_wp2_with fail
    go_ret
    exact ⟨rfl, rfl⟩
  · have h' : ¬ (i : Int) < (s.size : Int) := by omega
    rw [pk_out s.data.toList i (by rw [lt_len]; omega)]
    go_enter Tryz.func44, Tryz.ntmps44
    go_wp2_with fail
    go_ret
    exact ⟨rfl, rfl⟩

set_option maxRecDepth 100000 in
theorem rdigit_any (c : Nat) (w : World) :
    Calls Tryz.prog 49 #[.int .u8 (c : Int)] w fun e w' => e = .returned (.int .i64 (match hexv c with | none => -1 | some d => (d : Int))) ∧ w' = w := by
  by_cases h1 : c < 48
  · have e : hexv c = none := by unfold hexv; rw [if_neg (by omega), if_neg (by omega)]
    have h2 : ¬ (48 : Int) ≤ (c : Int) := by omega
    have h3 : ¬ (97 : Int) ≤ (c : Int) := by omega
    rw [e]
    clear h1 e
    go_enter Tryz.func49, Tryz.ntmps49
    go_wp2_with fail
    go_ret
    exact ⟨rfl, rfl⟩
  have h2 : (48 : Int) ≤ (c : Int) := by omega
  by_cases h3 : c ≤ 57
  · have e : hexv c = some (c - 48) := by unfold hexv; rw [if_pos (by omega)]
    have h4 : (c : Int) ≤ 57 := by omega
    have e2 : ((c - 48 : Nat) : Int) = (c : Int) - 48 := by omega
    rw [e]
    show Calls _ _ _ _ fun e w' => e = .returned (.int .i64 ((c - 48 : Nat) : Int)) ∧ w' = w
    rw [e2]
    clear e2 e h1 h3
    go_enter Tryz.func49, Tryz.ntmps49
    go_wp2_with fail
    go_ret
    exact ⟨rfl, rfl⟩
  have h4 : ¬ (c : Int) ≤ 57 := by omega
  by_cases h5 : c < 97
  · have e : hexv c = none := by unfold hexv; rw [if_neg (by omega), if_neg (by omega)]
    have h6 : ¬ (97 : Int) ≤ (c : Int) := by omega
    rw [e]
    clear h1 h3 h5 e
    go_enter Tryz.func49, Tryz.ntmps49
    go_wp2_with fail
    go_ret
    exact ⟨rfl, rfl⟩
  have h6 : (97 : Int) ≤ (c : Int) := by omega
  by_cases h7 : c ≤ 102
  · have e : hexv c = some (c - 87) := by unfold hexv; rw [if_neg (by omega), if_pos (by omega)]
    have h8 : (c : Int) ≤ 102 := by omega
    have e2 : ((c - 87 : Nat) : Int) = (c : Int) - 87 := by omega
    rw [e]
    show Calls _ _ _ _ fun e w' => e = .returned (.int .i64 ((c - 87 : Nat) : Int)) ∧ w' = w
    rw [e2]
    clear e2 e h1 h3 h5 h7
    go_enter Tryz.func49, Tryz.ntmps49
    go_wp2_with fail
    go_ret
    exact ⟨ret_int (by omega), rfl⟩
  · have e : hexv c = none := by unfold hexv; rw [if_neg (by omega), if_neg (by omega)]
    have h8 : ¬ (c : Int) ≤ 102 := by omega
    rw [e]
    clear h1 h3 h5 h7 e
    go_enter Tryz.func49, Tryz.ntmps49
    go_wp2_with fail
    go_ret
    exact ⟨rfl, rfl⟩
theorem rdigit_some (c d : Nat) (h : hexv c = some d) (w : World) : Calls Tryz.prog 49 #[.int .u8 (c : Int)] w fun e w' => e = .returned (.int .i64 (d : Int)) ∧ w' = w := by
  have := rdigit_any c w
  rw [h] at this
  exact this
theorem rdigit_none (c : Nat) (h : hexv c = none) (w : World) : Calls Tryz.prog 49 #[.int .u8 (c : Int)] w fun e w' => e = .returned (.int .i64 (-1)) ∧ w' = w := by
  have := rdigit_any c w
  rw [h] at this
  exact this

set_option maxRecDepth 100000 in
set_option maxHeartbeats 800000 in
theorem rword_any (W s : ByteArray) (i : Nat) (w : World) (hi : i ≤ 1000010) (hW : W.size ≤ 100) :
    Calls Tryz.prog 22 #[.string s, .int .i64 (i : Int), .string W] w fun e w' => e = .returned (.tuple #[.int .i64 ((wordL W.data.toList s.data.toList i).fin : Int), .bool (wordL W.data.toList s.data.toList i).good]) ∧ ∃ m, w' = w.drewN m := by
  go_enter Tryz.func22, Tryz.ntmps22
  go_wp2_with fail
  go_loopw [8] (fun v wr => ∃ k : Nat, k ≤ W.size ∧ v = .int .i64 k ∧ Hid (wordL W.data.toList s.data.toList i = wordL (W.data.toList.drop k) s.data.toList (i + k)) ∧ Hid (∃ m, wr = w.drewN m)) (fun v _ => W.size - (intOf v).toNat)
  case atStart => exact ⟨0, Nat.zero_le _, rfl, Lib.hid rfl, Lib.hid ⟨0, rfl⟩⟩
  case round =>
    obtain ⟨k, hk, rfl, HE, HW⟩ := hrel
    have hwd : ∀ n, ∃ m, wr.drewN n = w.drewN m := fun n => by
      obtain ⟨m, hm⟩ := HW.out
      exact ⟨m + n, by rw [hm, World.drewN_drewN]⟩
    have HWD := Lib.hid hwd
    clear hwd
    by_cases hlt : k < W.size
    · have hkl : k < W.data.toList.length := by rw [lt_len]; exact hlt
      obtain ⟨j, hj⟩ : ∃ j, i + k = j := ⟨_, rfl⟩
      have hji : (i : Int) + (k : Int) = (j : Int) := by omega
      have HP := Lib.hid (fun w => rat_any s j w)
      rw [hj] at HE
      by_cases hpk : pk s.data.toList j = (W[k]'hlt).toNat
      · have HE2 : Hid (wordL W.data.toList s.data.toList i = wordL (W.data.toList.drop (k + 1)) s.data.toList (i + (k + 1))) := Lib.hid (by
          rw [HE.out, wordL_go _ _ _ _ hkl hpk, ← Nat.add_assoc, hj])
        have hbq : ((pk s.data.toList j : Int) != ((W[k]'hlt).toNat : Int)) = false := by rw [hpk]; simp
        clear HE hpk
        go_wp2_with fail
        go_quiet (first | (go_at_call 44; exact Calls.quiet_of_same (HP.out _)))
        go_wp2_with fail
        go_roundw
        case rel => exact ⟨k + 1, hlt, by go_num, HE2, Lib.hid (HWD.out nq)⟩
        case measure => simp [intOf]; omega
      · have HE2 : Hid (wordL W.data.toList s.data.toList i = .bad j) := Lib.hid (HE.out.trans (wordL_no _ _ _ _ hkl hpk))
        have hbq : ((pk s.data.toList j : Int) != ((W[k]'hlt).toNat : Int)) = true := by rw [bne_iff_ne]; omega
        clear HE hpk
        go_wp2_with fail
        go_quiet (first | (go_at_call 44; exact Calls.quiet_of_same (HP.out _)))
        go_wp2_with fail
        go_ret2
        rw [HE2.out]
        exact ⟨rfl, HWD.out nq⟩
    · obtain rfl : k = W.size := by omega
      have HE2 : Hid (wordL W.data.toList s.data.toList i = .ok () (i + W.size)) := Lib.hid (by
        have h := HE.out
        rw [← lt_len W, wordL_end] at h
        rwa [lt_len] at h)
      clear HE
      go_wp2_with fail
      go_ret2
      rw [HE2.out]
      exact ⟨rfl, HW.out⟩
end Go.Proofs.YtmbmlcnipncgnaaGreatDoor
