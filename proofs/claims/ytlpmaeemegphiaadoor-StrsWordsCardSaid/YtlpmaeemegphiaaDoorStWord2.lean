/-
  The contracts of Words of the reference, and of Word of both. Nothing is assumed.
-/
import Derived.Test.YtlpmaeemegphiaaDoorStWord
namespace Go.Proofs.YtlpmaeemegphiaaDoor
open Go.RowKit

theorem byte32 (c : UInt8) : ((c.toNat : Int) == 32) = decide (c = 32) := by
  rw [Bool.eq_iff_iff]
  simp
  constructor
  · intro h; exact byte_eq (by omega)
  · intro h; subst h; rfl

set_option maxRecDepth 100000 in
set_option maxHeartbeats 3200000 in
theorem rwords_any (s : ByteArray) (w : World) (hs : s.size ≤ 1000) :
    Calls Tryd.prog 39 #[.string s] w fun e w' => RetS w.heap.size (WS s 0) e w' ∧ Below w.heap.size w w' := by
  obtain ⟨i0, hi, hz0, hz1, hz2⟩ := info_parts infoStr
  go_enter Tryd.func39, Tryd.ntmps39
  go_wp2_with fail
  go_loopg [3, 4] (s.size + 1) (fun g v j wr => ∃ (p : Nat) (F : List ByteArray), p + g = s.size + 1 ∧ j = .int .i64 p ∧ Hid (OwnS wr w.heap.size v F) ∧ Hid (F ++ WS s p = WS s 0) ∧ Below w.heap.size w wr)
  case atStart => exact ⟨0, [], by omega, rfl, OwnS.none _ _, rfl, Below.refl _ _⟩
  case round =>
    obtain ⟨p, F, hpg, rfl, HO, HF, hbel⟩ := hrel
    have HPG := Lib.hid hpg
    have hp : p ≤ s.size + 1 := by omega
    clear hpg
    have hsz := hbel.size
    have HFL : Hid (F.length ≤ s.size) := Lib.hid (by
      have h1 := congrArg List.length HF.out
      have h2 := WS_len s 0
      rw [List.length_append] at h1
      omega)
    by_cases hlt : p < s.size
    · have hpi : (p : Int) < (s.size : Int) := by omega
      go_wp2_with fail
      go_loopg [5] (s.size - p) (fun g x wy => ∃ m : Nat, m + g = s.size ∧ p ≤ m ∧ x = .int .i64 m ∧ Hid (∀ j, p ≤ j → j < m → ∀ hj : j < s.size, s[j]'hj ≠ 32) ∧ wy = wr)
      case atStart => exact ⟨p, by omega, Nat.le_refl _, rfl, fun j h1 h2 => absurd h2 (by omega), rfl⟩
      case round =>
        obtain ⟨m, hmg, hpm0, rfl, HN, hw⟩ := hrel
        obtain rfl := hw.symm
        have HMG := Lib.hid hmg
        have hm : m ≤ s.size := by omega
        clear hmg
        by_cases hml : m < s.size
        · have hmi : (m : Int) < (s.size : Int) := by omega
          have hmi0 : (0 : Int) ≤ (m : Int) := by omega
          by_cases hsp : s[m]'hml = 32
          · have hb : (((s[m]'hml).toNat : Int) == 32) = true := by rw [byte32]; simpa using hsp
            have HW : Hid (WS s p = (if m - p = 0 then [] else [s.extract p m]) ++ WS s (m + 1)) := Lib.hid (by
              have h := WS_hit s p (m - p) (by omega) (fun j hj hj' => HN.out (p + j) (by omega) (by omega) hj') (by simpa [show p + (m - p) = m by omega] using hsp)
              rw [show p + (m - p) = m by omega] at h
              exact h)
            clear hsp
            by_cases hpm : p < m
            · have hpmi : (p : Int) < (m : Int) := by omega
              have hpm2 : p ≤ m := by omega
              go_wp2_with (first | (at_builtin; refine wpList_append_own _ rfl _ _ 45 rfl w.heap.size 9 i0 (.string ⟨#[]⟩) 1 16 Tryd.underlying45 hi hz0 hz1 hz2 rfl (by decide) _ _ _ rfl (HO.out.alloc _) ⟨wr.heap.size, 0, none⟩ 1 1 [.string (s.extract p m)] rfl rfl (one_news _ _ _) (one_cells _) (by have := HFL.out; unfold maxLen; omega) (by have := HFL.out; omega) (by simp; omega) ?_))
              intro v' w2 hown' hgrow _
              have hbw : Below w.heap.size w w2 := (hbel.alloc hsz _).grown hgrow (by simp; omega) (fun g hg => by
                rcases Nat.lt_or_ge g w.heap.size with h | h
                · exact absurd hg (ownS_far HO.out h)
                · exact h)
              have HO3 : Hid (OwnS w2 w.heap.size v' (F ++ [s.extract p m])) := Lib.hid (by
                unfold OwnS
                rw [List.length_append, List.map_append]
                exact hown')
              clear hown' hgrow
              go_wp2_with fail
              go_roundg (s.size + 1 - (m + 1))
              case measure => have := HPG.out; omega
              case rel => exact ⟨m + 1, F ++ [s.extract p m], by omega, by go_num, HO3, by have h := HW.out; rw [if_neg (by omega)] at h; have h2 := HF.out; rw [h] at h2; rw [List.append_assoc]; exact h2, hbw⟩
            · obtain rfl : m = p := by omega
              go_wp2_with fail
              go_roundg (s.size + 1 - (m + 1))
              case measure => have := HPG.out; omega
              case rel => exact ⟨m + 1, F, by omega, by go_num, HO, by have h := HW.out; rw [if_pos (by omega)] at h; have h2 := HF.out; rw [h] at h2; exact h2, hbel⟩

          · have hb : (((s[m]'hml).toNat : Int) == 32) = false := by rw [byte32]; simpa using hsp
            have HN2 : Hid (∀ j, p ≤ j → j < m + 1 → ∀ hj : j < s.size, s[j]'hj ≠ 32) := Lib.hid (fun j h1 h2 hj => by
              rcases Nat.lt_or_ge j m with h | h
              · exact HN.out j h1 h hj
              · obtain rfl : j = m := by omega
                exact hsp)
            clear hsp
            go_wp2_with fail
            go_roundg (s.size - (m + 1))
            case measure => have := HMG.out; omega
            case rel => exact ⟨m + 1, by omega, by omega, by go_num, HN2, rfl⟩
        · obtain rfl : m = s.size := by omega
          have HW : Hid (WS s p = (if s.size - p = 0 then [] else [s.extract p s.size]) ++ WS s (s.size + 1)) := Lib.hid (by
            rw [WS_end s (s.size + 1) (by omega), if_neg (by omega), WS_none s p hlt (fun j h1 hj => HN.out j h1 hj hj)]
            rfl)
          have hpm : p < s.size := hlt
          · have hpmi : (p : Int) < (s.size : Int) := by omega
            have hpm2 : p ≤ s.size := by omega
            go_wp2_with (first | (at_builtin; refine wpList_append_own _ rfl _ _ 45 rfl w.heap.size 9 i0 (.string ⟨#[]⟩) 1 16 Tryd.underlying45 hi hz0 hz1 hz2 rfl (by decide) _ _ _ rfl (HO.out.alloc _) ⟨wr.heap.size, 0, none⟩ 1 1 [.string (s.extract p s.size)] rfl rfl (one_news _ _ _) (one_cells _) (by have := HFL.out; unfold maxLen; omega) (by have := HFL.out; omega) (by simp; omega) ?_))
            intro v' w2 hown' hgrow _
            have hbw : Below w.heap.size w w2 := (hbel.alloc hsz _).grown hgrow (by simp; omega) (fun g hg => by
              rcases Nat.lt_or_ge g w.heap.size with h | h
              · exact absurd hg (ownS_far HO.out h)
              · exact h)
            have HO3 : Hid (OwnS w2 w.heap.size v' (F ++ [s.extract p s.size])) := Lib.hid (by
              unfold OwnS
              rw [List.length_append, List.map_append]
              exact hown')
            clear hown' hgrow
            go_wp2_with fail
            go_roundg (s.size + 1 - (s.size + 1))
            case measure => have := HPG.out; omega
            case rel => exact ⟨s.size + 1, F ++ [s.extract p s.size], by omega, by go_num, HO3, by have h := HW.out; rw [if_neg (by omega)] at h; have h2 := HF.out; rw [h] at h2; rw [List.append_assoc]; exact h2, hbw⟩
    · have HW : Hid (F = WS s 0) := Lib.hid (by
        have h := HF.out
        rw [WS_end s p (by omega), List.append_nil] at h
        exact h)
      go_wp2_with fail
      go_ret
      exact ⟨⟨_, rfl, by rw [← HW.out]; exact HO.out⟩, hbel⟩
end Go.Proofs.YtlpmaeemegphiaaDoor
