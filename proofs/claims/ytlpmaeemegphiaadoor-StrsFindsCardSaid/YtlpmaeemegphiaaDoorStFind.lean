/-
  at and Find of the reference. Nothing is assumed.
-/
import Derived.Test.YtlpmaeemegphiaaDoorStEnv
import Derived.Test.YtlpmaeemegphiaaDoorStWordP
namespace Go.Proofs.YtlpmaeemegphiaaDoor
open Go.RowKit

theorem index_cases (l sub : List UInt8) : (Lib.index l sub = -1 ∧ ∀ j, j ≤ l.length → Lib.occAt l sub j = false) ∨
    ∃ k : Nat, k ≤ l.length ∧ Lib.index l sub = (k : Int) ∧ Lib.occAt l sub k = true ∧ ∀ j, j < k → Lib.occAt l sub j = false := by
  have H : ∀ n, (∀ j, j < n → Lib.occAt l sub j = false) ∨ ∃ k, k < n ∧ Lib.occAt l sub k = true ∧ ∀ j, j < k → Lib.occAt l sub j = false := by
    intro n
    induction n with
    | zero => exact .inl fun j hj => absurd hj (Nat.not_lt_zero j)
    | succ n ih =>
      rcases ih with h | ⟨k, hk, h⟩
      · cases hn : Lib.occAt l sub n
        · refine .inl fun j hj => ?_
          rcases Nat.lt_or_ge j n with h1 | h1
          · exact h j h1
          · obtain rfl : j = n := by omega
            exact hn
        · exact .inr ⟨n, by omega, hn, h⟩
      · exact .inr ⟨k, by omega, h⟩
  rcases H (l.length + 1) with h | ⟨k, hk, ho, h⟩
  · exact .inl ⟨Lib.index_none fun j hj => h j (by omega), fun j hj => h j (by omega)⟩
  · exact .inr ⟨k, by omega, Lib.index_first (by omega) ho h, ho, h⟩
theorem occ_len {l sub : List UInt8} {k : Nat} (h : Lib.occAt l sub k = true) (hk : k ≤ l.length) : k + sub.length ≤ l.length := by
  unfold Lib.occAt at h
  have := (List.isPrefixOf_iff_prefix.1 h).length_le
  rw [List.length_drop] at this
  omega
theorem occ_extract (s t : ByteArray) (i j : Nat) (hj : i + t.size = j) : ((s.extract i j).toList == t.toList) = Lib.occAt s.data.toList t.data.toList i := by
  rw [extract_str, ByteArray.toList_eq, ByteArray.toList_eq]
  show (((s.data.toList.drop i).take (j - i)) == t.data.toList) = _
  unfold Lib.occAt
  have hl := list_len t
  rw [Bool.eq_iff_iff, beq_iff_eq, List.isPrefixOf_iff_prefix, List.prefix_iff_eq_take, hl, show j - i = t.size by omega]
  exact ⟨fun h => h.symm, fun h => h.symm⟩
theorem occ_out (s t : ByteArray) (i : Nat) (hi : i ≤ s.size) (h : s.size < i + t.size) : Lib.occAt s.data.toList t.data.toList i = false := by
  cases ho : Lib.occAt s.data.toList t.data.toList i
  · rfl
  · have := occ_len ho (by rw [list_len]; exact hi)
    rw [list_len, list_len] at this
    omega

set_option maxRecDepth 100000 in
set_option maxHeartbeats 1600000 in
theorem rat_any (s t : ByteArray) (i : Nat) (w : World) (hs : s.size ≤ 1000) (ht : t.size ≤ 1000) (hi : i ≤ s.size) :
    Calls Tryd.prog 47 #[.string s, .string t, .int .i64 i] w fun e w' => e = .returned (.bool (Lib.occAt s.data.toList t.data.toList i)) ∧ w' = w := by
  by_cases h : i + t.size ≤ s.size
  · obtain ⟨j, hj⟩ : ∃ j, i + t.size = j := ⟨_, rfl⟩
    have hji : (i : Int) + (t.size : Int) = (j : Int) := by omega
    have HO := Lib.hid (occ_extract s t i j hj)
    have h1 : (j : Int) ≤ (s.size : Int) := by omega
    have h2 : (i : Int) ≤ (j : Int) := by omega
    have h3 : (0 : Int) ≤ (i : Int) := by omega
    clear hj
    go_enter Tryd.func47, Tryd.ntmps47
    go_wp2_with fail
    go_ret
    exact ⟨ret_bool HO.out, rfl⟩
  · rw [occ_out s t i hi (by omega)]
    have h1 : ¬ ((i : Int) + (t.size : Int) ≤ (s.size : Int)) := by omega
    clear h
    go_enter Tryd.func47, Tryd.ntmps47
    go_wp2_with fail
    go_ret
    exact ⟨rfl, rfl⟩

set_option maxRecDepth 100000 in
set_option maxHeartbeats 1600000 in
theorem rfind_any (s t : ByteArray) (w : World) (hs : s.size ≤ 1000) (ht : t.size ≤ 1000) :
    Calls Tryd.prog 28 #[.string s, .string t] w fun e w' => e = .returned (.int .i64 (Lib.index s.data.toList t.data.toList)) ∧ w' = w := by
  have HAT := fun i w => rat_any s t i w hs ht
  go_enter Tryd.func28, Tryd.ntmps28
  go_wp2_with fail
  go_loop [5] (fun v => ∃ i : Nat, i ≤ s.size + 1 ∧ v = .int .i64 i ∧ Hid (∀ j, j < i → Lib.occAt s.data.toList t.data.toList j = false)) (fun v => s.size + 1 - (intOf v).toNat)
  case atStart => exact ⟨0, Nat.zero_le _, rfl, Lib.hid fun j hj => absurd hj (Nat.not_lt_zero j)⟩
  case round =>
    obtain ⟨i, hi, rfl, HN⟩ := hrel
    by_cases h : i + t.size ≤ s.size
    · have HC := HAT i w (by omega)
      have hi2 : (i : Int) + (t.size : Int) ≤ (s.size : Int) := by omega
      cases ho : Lib.occAt s.data.toList t.data.toList i
      · rw [ho] at HC
        have HN2 : Hid (∀ j, j < i + 1 → Lib.occAt s.data.toList t.data.toList j = false) := Lib.hid fun j hj => by
          rcases Nat.lt_or_ge j i with h1 | h1
          · exact HN.out j h1
          · obtain rfl : j = i := by omega
            exact ho
        clear ho HN HAT
        go_wp2_with fail
        refine HC.mono ?_
        rintro e w' ⟨rfl, hw'⟩; obtain rfl := hw'.symm
        go_wp2_with fail
        go_round
        case rel => exact ⟨i + 1, by omega, by go_num, HN2⟩
        case measure => simp [intOf]; omega
      · rw [ho] at HC
        have HI : Hid (Lib.index s.data.toList t.data.toList = (i : Int)) := Lib.hid (Lib.index_first (by rw [list_len]; omega) ho HN.out)
        clear ho HN HAT
        go_wp2_with fail
        refine HC.mono ?_
        rintro e w' ⟨rfl, hw'⟩; obtain rfl := hw'.symm
        go_wp2_with fail
        go_ret
        exact ⟨ret_int HI.out.symm, rfl⟩
    · have HI : Hid (Lib.index s.data.toList t.data.toList = -1) := Lib.hid (Lib.index_none fun j hj => by
        rw [list_len] at hj
        rcases Nat.lt_or_ge j i with h1 | h1
        · exact HN.out j h1
        · exact occ_out s t j hj (by omega))
      have hi2 : ¬ ((i : Int) + (t.size : Int) ≤ (s.size : Int)) := by omega
      clear HN HAT
      go_wp2_with fail
      go_ret
      exact ⟨ret_int HI.out.symm, rfl⟩

end Go.Proofs.YtlpmaeemegphiaaDoor
