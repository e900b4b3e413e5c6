/-
  integer of the reference. Nothing is assumed.
-/
import Derived.Test.YtmbmlcnipncgnaaGreatDoorLtRefA
namespace Go.Proofs.YtmbmlcnipncgnaaGreatDoor
open Go.RowKit

/-- The three results of a reading of the reference. -/
def ROutE (w w' : World) (r : PR V) (e : Ending) : Prop := match r with
  | .bad i => ∃ (t n : Int) (S : ByteArray), e = .returned (.tuple #[.agg #[.int .i64 t, .int .i64 n, .string S, .slice none 0 0], .int .i64 (i : Int), .bool false])
  | .ok v i => ∃ oe ce, e = .returned (.tuple #[.agg #[.int .i64 v.t, .int .i64 v.n, .string v.s, .slice oe v.l.length ce], .int .i64 (i : Int), .bool true]) ∧ RepS w' (Btw w.heap.size w'.heap.size) (.slice oe v.l.length ce) v.l
theorem ROutE.plain (w w' : World) (t n : Int) (S : ByteArray) (i : Nat) : ROutE w w' (.ok (.mk t n S []) i) (.returned (.tuple #[.agg #[.int .i64 t, .int .i64 n, .string S, .slice none 0 0], .int .i64 (i : Int), .bool true])) := ⟨none, 0, rfl, RepS.nil⟩
theorem ROutE.bad (w w' : World) (i : Nat) (t n : Int) (S : ByteArray) : ROutE w w' (.bad i) (.returned (.tuple #[.agg #[.int .i64 t, .int .i64 n, .string S, .slice none 0 0], .int .i64 (i : Int), .bool false])) := ⟨t, n, S, rfl⟩

set_option maxRecDepth 100000 in
set_option maxHeartbeats 3200000 in
theorem rinteger_any (s : ByteArray) (i : Nat) (w : World) (_hi : i ≤ s.size) (hs : s.size ≤ 1000000) :
    Calls Tryz.prog 48 #[.string s, .int .i64 (i : Int)] w fun e w' => ROutE w w' (intL s.data.toList i) e ∧ Below w.heap.size w w' := by
  by_cases h45 : pk s.data.toList i = 45
  · have h45' : ((pk s.data.toList i : Int) == 45) = true := by rw [h45]; rfl
    have hi1 := pos_of_pk h45 (by decide)
    rw [lt_len] at hi1
    obtain ⟨j, hj⟩ : ∃ j, i + 1 = j := ⟨_, rfl⟩
    have hjs : j ≤ s.size := by omega
    have hji : (i : Int) + 1 = (j : Int) := by omega
    have HPI := Lib.hid (fun w => rat_any s i w)
    have HPJ := Lib.hid (fun w => rat_any s j w)
    have hpk := pk_lt s.data.toList j
    have hpk' : (pk s.data.toList j : Int) ≤ 255 := by omega
    clear hpk
    by_cases hd : isD (pk s.data.toList j) = true
    · obtain ⟨hd1, hd2⟩ := isD_lt hd
      have hil := pk_isD hd
      rw [lt_len] at hil
      have hd1' : ¬ (pk s.data.toList j : Int) < 48 := by omega
      have hd2' : ¬ (57 : Int) < (pk s.data.toList j : Int) := by omega
      have hd3' : (48 : Int) ≤ (pk s.data.toList j : Int) := by omega
      by_cases hz : pk s.data.toList j = 48
      · have HV := Lib.hid (hj ▸ intL_negbad s.data.toList i h45 (.inr (by rw [hj]; exact hz)) : intL s.data.toList i = .bad j)
        have h48 : ((pk s.data.toList j : Int) == 48) = true := by rw [hz]; rfl
        clear hd hz hj h45
        go_enter Tryz.func48, Tryz.ntmps48
        go_wp2_with fail
        refine (HPI.out _).mono ?_
        rintro e w' ⟨rfl, hw'⟩; obtain rfl := hw'.symm
        go_wp2_with fail
        refine (HPJ.out _).mono ?_
        rintro e w' ⟨rfl, hw'⟩; obtain rfl := hw'.symm
        go_wp2_with fail
        refine bodyPost_ret (v := .tuple #[.agg #[.int .i64 0, .int .i64 0, .string ⟨#[]⟩, .slice none 0 0], .int .i64 (j : Int), .bool false]) (by simp [results, Tryz.results48, go_sem, *]) rfl ?_
        rw [HV.out]
        exact ⟨.bad _ _ _ _ _ _, below1 _ _⟩
      · have HV : Hid (intL s.data.toList i = .ok (.mk 2 (-((natL s.data.toList j).1 : Int)) ⟨#[]⟩ []) (natL s.data.toList j).2) := Lib.hid (by rw [← hj]; exact intL_neg s.data.toList i h45 (by rw [hj]; exact hd) (by rw [hj]; exact hz))
        have h48 : ((pk s.data.toList j : Int) == 48) = false := by rw [beq_eq_false_iff_ne]; omega
        clear hd hz hj h45
        go_enter Tryz.func48, Tryz.ntmps48
        go_wp2_with fail
        refine (HPI.out _).mono ?_
        rintro e w' ⟨rfl, hw'⟩; obtain rfl := hw'.symm
        go_wp2_with fail
        refine (HPJ.out _).mono ?_
        rintro e w' ⟨rfl, hw'⟩; obtain rfl := hw'.symm
        go_wp2_with fail
        go_loop [1, 9] (fun iv nv => ∃ k n : Nat, k ≤ s.size ∧ iv = .int .i64 (k : Int) ∧ nv = .int .i64 (n : Int) ∧ n ≤ 1000000 ∧ Hid (numL (s.data.toList.drop k) n k = natL s.data.toList j)) (fun iv _ => s.size - (intOf iv).toNat)
        case atStart => exact ⟨j + 1, pk s.data.toList j - 48, by omega, by go_num, val_int (by omega), by omega, Lib.hid rfl⟩
        case round =>
          obtain ⟨k, n, hk, rfl, rfl, hn, HN⟩ := hrel
          have hni : (n : Int) ≤ 1000000 := by omega
          have hni0 : (0 : Int) ≤ (n : Int) := by omega
          have HP := Lib.hid (fun w => rat_any s k w)
          have hpk := pk_lt s.data.toList k
          have hpk' : (pk s.data.toList k : Int) ≤ 255 := by omega
          clear hpk
          by_cases hn0 : 0 < n
          · have hn0' : (0 : Int) < (n : Int) := by omega
            by_cases hd : isD (pk s.data.toList k) = true
            · obtain ⟨hd1, hd2⟩ := isD_lt hd
              have hkl := pk_isD hd
              rw [lt_len] at hkl
              have hd1' : (48 : Int) ≤ (pk s.data.toList k : Int) := by omega
              have hd2' : (pk s.data.toList k : Int) ≤ 57 := by omega
              by_cases hle : 10 * n + (pk s.data.toList k - 48) ≤ 1000000
              · have hle' : (n : Int) * 10 + ((pk s.data.toList k : Int) - 48) ≤ 1000000 := by omega
                have HN2 : Hid (numL (s.data.toList.drop (k + 1)) (10 * n + (pk s.data.toList k - 48)) (k + 1) = natL s.data.toList j) := Lib.hid (by rw [← HN.out, numL_go _ _ _ ⟨hn0, hd, hle⟩])
                have HEQ : Hid (((10 * n + (pk s.data.toList k - 48) : Nat) : Int) = (n : Int) * 10 + ((pk s.data.toList k : Int) - 48)) := Lib.hid (by omega)
                have HLE := Lib.hid hle
                clear HN hd hle hn0
                go_wp2_with fail
                iterate 4
                  refine (HP.out _).mono ?_
                  rintro e w' ⟨rfl, hw'⟩; obtain rfl := hw'.symm
                  go_wp2_with fail
                go_round
                case rel => exact ⟨k + 1, _, hkl, by go_num, val_int HEQ.out.symm, HLE.out, HN2⟩
                case measure => simp [intOf]; omega
              · have hle' : ¬ (n : Int) * 10 + ((pk s.data.toList k : Int) - 48) ≤ 1000000 := by omega
                have HN2 : Hid ((n, k) = natL s.data.toList j) := Lib.hid (by rw [← HN.out, numL_stop _ _ _ (fun h => hle h.2.2)])
                clear HN hd hle hn0
                go_wp2_with fail
                iterate 3
                  refine (HP.out _).mono ?_
                  rintro e w' ⟨rfl, hw'⟩; obtain rfl := hw'.symm
                  go_wp2_with fail
                have HF : Hid (intL s.data.toList i = .ok (.mk 2 (-(n : Int)) ⟨#[]⟩ []) k) := Lib.hid (by rw [HV.out, ← HN2.out])
                refine bodyPost_ret (v := .tuple #[.agg #[.int .i64 2, .int .i64 (-(n : Int)), .string ⟨#[]⟩, .slice none 0 0], .int .i64 (k : Int), .bool true]) (by simp [results, Tryz.results48, go_sem, *]) rfl ?_
                rw [HF.out]
                exact ⟨.plain _ _ _ _ _ _, below1 _ _⟩
            · have HN2 : Hid ((n, k) = natL s.data.toList j) := Lib.hid (by rw [← HN.out, numL_stop _ _ _ (fun h => hd h.2.1)])
              by_cases hlow : 48 ≤ pk s.data.toList k
              · have hd1' : (48 : Int) ≤ (pk s.data.toList k : Int) := by omega
                have hd2' : ¬ (pk s.data.toList k : Int) ≤ 57 := by
                  intro h
                  exact hd (by unfold isD; rw [decide_eq_true hlow, decide_eq_true (show pk s.data.toList k ≤ 57 by omega)]; rfl)
                clear HN hd hlow hn0
                go_wp2_with fail
                iterate 2
                  refine (HP.out _).mono ?_
                  rintro e w' ⟨rfl, hw'⟩; obtain rfl := hw'.symm
                  go_wp2_with fail
                have HF : Hid (intL s.data.toList i = .ok (.mk 2 (-(n : Int)) ⟨#[]⟩ []) k) := Lib.hid (by rw [HV.out, ← HN2.out])
                refine bodyPost_ret (v := .tuple #[.agg #[.int .i64 2, .int .i64 (-(n : Int)), .string ⟨#[]⟩, .slice none 0 0], .int .i64 (k : Int), .bool true]) (by simp [results, Tryz.results48, go_sem, *]) rfl ?_
                rw [HF.out]
                exact ⟨.plain _ _ _ _ _ _, below1 _ _⟩
              · have hd1' : ¬ (48 : Int) ≤ (pk s.data.toList k : Int) := by omega
                clear HN hd hlow hn0
                go_wp2_with fail
                refine (HP.out _).mono ?_
                rintro e w' ⟨rfl, hw'⟩; obtain rfl := hw'.symm
                go_wp2_with fail
                have HF : Hid (intL s.data.toList i = .ok (.mk 2 (-(n : Int)) ⟨#[]⟩ []) k) := Lib.hid (by rw [HV.out, ← HN2.out])
                refine bodyPost_ret (v := .tuple #[.agg #[.int .i64 2, .int .i64 (-(n : Int)), .string ⟨#[]⟩, .slice none 0 0], .int .i64 (k : Int), .bool true]) (by simp [results, Tryz.results48, go_sem, *]) rfl ?_
                rw [HF.out]
                exact ⟨.plain _ _ _ _ _ _, below1 _ _⟩
          · obtain rfl : n = 0 := by omega
            have HN2 : Hid ((0, k) = natL s.data.toList j) := Lib.hid (by rw [← HN.out, numL_stop _ _ _ (fun h => hn0 h.1)])
            clear HN hn0 HP hni hni0
            go_wp2_with fail
            have HF : Hid (intL s.data.toList i = .ok (.mk 2 0 ⟨#[]⟩ []) k) := Lib.hid (by rw [HV.out, ← HN2.out]; rfl)
            refine bodyPost_ret (v := .tuple #[.agg #[.int .i64 2, .int .i64 0, .string ⟨#[]⟩, .slice none 0 0], .int .i64 (k : Int), .bool true]) (by simp [results, Tryz.results48, go_sem, *]) rfl ?_
            rw [HF.out]
            exact ⟨.plain _ _ _ _ _ _, below1 _ _⟩
    · have hd' : isD (pk s.data.toList j) = false := by simpa using hd
      have HV := Lib.hid (hj ▸ intL_negbad s.data.toList i h45 (.inl (by rw [hj]; exact hd')))
      by_cases hlow : 48 ≤ pk s.data.toList j
      · have hd1' : ¬ (pk s.data.toList j : Int) < 48 := by omega
        have hd2' : (57 : Int) < (pk s.data.toList j : Int) := by
          rcases Nat.lt_or_ge 57 (pk s.data.toList j) with h | h
          · omega
          · exact absurd (by unfold isD; rw [decide_eq_true hlow, decide_eq_true h]; rfl) hd
        clear hd hd' hlow hj h45
        go_enter Tryz.func48, Tryz.ntmps48
        go_wp2_with fail
        refine (HPI.out _).mono ?_
        rintro e w' ⟨rfl, hw'⟩; obtain rfl := hw'.symm
        go_wp2_with fail
        refine (HPJ.out _).mono ?_
        rintro e w' ⟨rfl, hw'⟩; obtain rfl := hw'.symm
        go_wp2_with fail
        refine bodyPost_ret (v := .tuple #[.agg #[.int .i64 0, .int .i64 0, .string ⟨#[]⟩, .slice none 0 0], .int .i64 (j : Int), .bool false]) (by simp [results, Tryz.results48, go_sem, *]) rfl ?_
        rw [HV.out]
        exact ⟨.bad _ _ _ _ _ _, below1 _ _⟩
      · have hd1' : (pk s.data.toList j : Int) < 48 := by omega
        clear hd hd' hlow hj h45
        go_enter Tryz.func48, Tryz.ntmps48
        go_wp2_with fail
        refine (HPI.out _).mono ?_
        rintro e w' ⟨rfl, hw'⟩; obtain rfl := hw'.symm
        go_wp2_with fail
        refine (HPJ.out _).mono ?_
        rintro e w' ⟨rfl, hw'⟩; obtain rfl := hw'.symm
        go_wp2_with fail
        refine bodyPost_ret (v := .tuple #[.agg #[.int .i64 0, .int .i64 0, .string ⟨#[]⟩, .slice none 0 0], .int .i64 (j : Int), .bool false]) (by simp [results, Tryz.results48, go_sem, *]) rfl ?_
        rw [HV.out]
        exact ⟨.bad _ _ _ _ _ _, below1 _ _⟩
  · have h45' : ((pk s.data.toList i : Int) == 45) = false := by rw [beq_eq_false_iff_ne]; omega
    have HPI := Lib.hid (fun w => rat_any s i w)
    have HPJ := HPI
    have hpk := pk_lt s.data.toList i
    have hpk' : (pk s.data.toList i : Int) ≤ 255 := by omega
    clear hpk
    by_cases hd : isD (pk s.data.toList i) = true
    · obtain ⟨hd1, hd2⟩ := isD_lt hd
      have hil := pk_isD hd
      rw [lt_len] at hil
      have hd1' : ¬ (pk s.data.toList i : Int) < 48 := by omega
      have hd2' : ¬ (57 : Int) < (pk s.data.toList i : Int) := by omega
      have hd3' : (48 : Int) ≤ (pk s.data.toList i : Int) := by omega
      have HV : Hid (intL s.data.toList i = .ok (.mk 2 ((natL s.data.toList i).1 : Int) ⟨#[]⟩ []) (natL s.data.toList i).2) := Lib.hid (by exact intL_pos s.data.toList i hd)
      cases h48 : ((pk s.data.toList i : Int) == 48)
      · clear hd h45
        go_enter Tryz.func48, Tryz.ntmps48
        go_wp2_with fail
        refine (HPI.out _).mono ?_
        rintro e w' ⟨rfl, hw'⟩; obtain rfl := hw'.symm
        go_wp2_with fail
        refine (HPJ.out _).mono ?_
        rintro e w' ⟨rfl, hw'⟩; obtain rfl := hw'.symm
        go_wp2_with fail
        go_loop [1, 9] (fun iv nv => ∃ k n : Nat, k ≤ s.size ∧ iv = .int .i64 (k : Int) ∧ nv = .int .i64 (n : Int) ∧ n ≤ 1000000 ∧ Hid (numL (s.data.toList.drop k) n k = natL s.data.toList i)) (fun iv _ => s.size - (intOf iv).toNat)
        case atStart => exact ⟨i + 1, pk s.data.toList i - 48, by omega, by go_num, val_int (by omega), by omega, Lib.hid rfl⟩
        case round =>
          obtain ⟨k, n, hk, rfl, rfl, hn, HN⟩ := hrel
          have hni : (n : Int) ≤ 1000000 := by omega
          have hni0 : (0 : Int) ≤ (n : Int) := by omega
          have HP := Lib.hid (fun w => rat_any s k w)
          have hpk := pk_lt s.data.toList k
          have hpk' : (pk s.data.toList k : Int) ≤ 255 := by omega
          clear hpk
          by_cases hn0 : 0 < n
          · have hn0' : (0 : Int) < (n : Int) := by omega
            by_cases hd : isD (pk s.data.toList k) = true
            · obtain ⟨hd1, hd2⟩ := isD_lt hd
              have hkl := pk_isD hd
              rw [lt_len] at hkl
              have hd1' : (48 : Int) ≤ (pk s.data.toList k : Int) := by omega
              have hd2' : (pk s.data.toList k : Int) ≤ 57 := by omega
              by_cases hle : 10 * n + (pk s.data.toList k - 48) ≤ 1000000
              · have hle' : (n : Int) * 10 + ((pk s.data.toList k : Int) - 48) ≤ 1000000 := by omega
                have HN2 : Hid (numL (s.data.toList.drop (k + 1)) (10 * n + (pk s.data.toList k - 48)) (k + 1) = natL s.data.toList i) := Lib.hid (by rw [← HN.out, numL_go _ _ _ ⟨hn0, hd, hle⟩])
                have HEQ : Hid (((10 * n + (pk s.data.toList k - 48) : Nat) : Int) = (n : Int) * 10 + ((pk s.data.toList k : Int) - 48)) := Lib.hid (by omega)
                have HLE := Lib.hid hle
                clear HN hd hle hn0
                go_wp2_with fail
                iterate 4
                  refine (HP.out _).mono ?_
                  rintro e w' ⟨rfl, hw'⟩; obtain rfl := hw'.symm
                  go_wp2_with fail
                go_round
                case rel => exact ⟨k + 1, _, hkl, by go_num, val_int HEQ.out.symm, HLE.out, HN2⟩
                case measure => simp [intOf]; omega
              · have hle' : ¬ (n : Int) * 10 + ((pk s.data.toList k : Int) - 48) ≤ 1000000 := by omega
                have HN2 : Hid ((n, k) = natL s.data.toList i) := Lib.hid (by rw [← HN.out, numL_stop _ _ _ (fun h => hle h.2.2)])
                clear HN hd hle hn0
                go_wp2_with fail
                iterate 3
                  refine (HP.out _).mono ?_
                  rintro e w' ⟨rfl, hw'⟩; obtain rfl := hw'.symm
                  go_wp2_with fail
                have HF : Hid (intL s.data.toList i = .ok (.mk 2 (n : Int) ⟨#[]⟩ []) k) := Lib.hid (by rw [HV.out, ← HN2.out])
                refine bodyPost_ret (v := .tuple #[.agg #[.int .i64 2, .int .i64 (n : Int), .string ⟨#[]⟩, .slice none 0 0], .int .i64 (k : Int), .bool true]) (by simp [results, Tryz.results48, go_sem, *]) rfl ?_
                rw [HF.out]
                exact ⟨.plain _ _ _ _ _ _, below1 _ _⟩
            · have HN2 : Hid ((n, k) = natL s.data.toList i) := Lib.hid (by rw [← HN.out, numL_stop _ _ _ (fun h => hd h.2.1)])
              by_cases hlow : 48 ≤ pk s.data.toList k
              · have hd1' : (48 : Int) ≤ (pk s.data.toList k : Int) := by omega
                have hd2' : ¬ (pk s.data.toList k : Int) ≤ 57 := by
                  intro h
                  exact hd (by unfold isD; rw [decide_eq_true hlow, decide_eq_true (show pk s.data.toList k ≤ 57 by omega)]; rfl)
                clear HN hd hlow hn0
                go_wp2_with fail
                iterate 2
                  refine (HP.out _).mono ?_
                  rintro e w' ⟨rfl, hw'⟩; obtain rfl := hw'.symm
                  go_wp2_with fail
                have HF : Hid (intL s.data.toList i = .ok (.mk 2 (n : Int) ⟨#[]⟩ []) k) := Lib.hid (by rw [HV.out, ← HN2.out])
                refine bodyPost_ret (v := .tuple #[.agg #[.int .i64 2, .int .i64 (n : Int), .string ⟨#[]⟩, .slice none 0 0], .int .i64 (k : Int), .bool true]) (by simp [results, Tryz.results48, go_sem, *]) rfl ?_
                rw [HF.out]
                exact ⟨.plain _ _ _ _ _ _, below1 _ _⟩
              · have hd1' : ¬ (48 : Int) ≤ (pk s.data.toList k : Int) := by omega
                clear HN hd hlow hn0
                go_wp2_with fail
                refine (HP.out _).mono ?_
                rintro e w' ⟨rfl, hw'⟩; obtain rfl := hw'.symm
                go_wp2_with fail
                have HF : Hid (intL s.data.toList i = .ok (.mk 2 (n : Int) ⟨#[]⟩ []) k) := Lib.hid (by rw [HV.out, ← HN2.out])
                refine bodyPost_ret (v := .tuple #[.agg #[.int .i64 2, .int .i64 (n : Int), .string ⟨#[]⟩, .slice none 0 0], .int .i64 (k : Int), .bool true]) (by simp [results, Tryz.results48, go_sem, *]) rfl ?_
                rw [HF.out]
                exact ⟨.plain _ _ _ _ _ _, below1 _ _⟩
          · obtain rfl : n = 0 := by omega
            have HN2 : Hid ((0, k) = natL s.data.toList i) := Lib.hid (by rw [← HN.out, numL_stop _ _ _ (fun h => hn0 h.1)])
            clear HN hn0 HP hni hni0
            go_wp2_with fail
            have HF : Hid (intL s.data.toList i = .ok (.mk 2 (0 : Int) ⟨#[]⟩ []) k) := Lib.hid (by rw [HV.out, ← HN2.out]; rfl)
            refine bodyPost_ret (v := .tuple #[.agg #[.int .i64 2, .int .i64 (0 : Int), .string ⟨#[]⟩, .slice none 0 0], .int .i64 (k : Int), .bool true]) (by simp [results, Tryz.results48, go_sem, *]) rfl ?_
            rw [HF.out]
            exact ⟨.plain _ _ _ _ _ _, below1 _ _⟩
      · clear hd h45
        go_enter Tryz.func48, Tryz.ntmps48
        go_wp2_with fail
        refine (HPI.out _).mono ?_
        rintro e w' ⟨rfl, hw'⟩; obtain rfl := hw'.symm
        go_wp2_with fail
        refine (HPJ.out _).mono ?_
        rintro e w' ⟨rfl, hw'⟩; obtain rfl := hw'.symm
        go_wp2_with fail
        go_loop [1, 9] (fun iv nv => ∃ k n : Nat, k ≤ s.size ∧ iv = .int .i64 (k : Int) ∧ nv = .int .i64 (n : Int) ∧ n ≤ 1000000 ∧ Hid (numL (s.data.toList.drop k) n k = natL s.data.toList i)) (fun iv _ => s.size - (intOf iv).toNat)
        case atStart => exact ⟨i + 1, pk s.data.toList i - 48, by omega, by go_num, val_int (by omega), by omega, Lib.hid rfl⟩
        case round =>
          obtain ⟨k, n, hk, rfl, rfl, hn, HN⟩ := hrel
          have hni : (n : Int) ≤ 1000000 := by omega
          have hni0 : (0 : Int) ≤ (n : Int) := by omega
          have HP := Lib.hid (fun w => rat_any s k w)
          have hpk := pk_lt s.data.toList k
          have hpk' : (pk s.data.toList k : Int) ≤ 255 := by omega
          clear hpk
          by_cases hn0 : 0 < n
          · have hn0' : (0 : Int) < (n : Int) := by omega
            by_cases hd : isD (pk s.data.toList k) = true
            · obtain ⟨hd1, hd2⟩ := isD_lt hd
              have hkl := pk_isD hd
              rw [lt_len] at hkl
              have hd1' : (48 : Int) ≤ (pk s.data.toList k : Int) := by omega
              have hd2' : (pk s.data.toList k : Int) ≤ 57 := by omega
              by_cases hle : 10 * n + (pk s.data.toList k - 48) ≤ 1000000
              · have hle' : (n : Int) * 10 + ((pk s.data.toList k : Int) - 48) ≤ 1000000 := by omega
                have HN2 : Hid (numL (s.data.toList.drop (k + 1)) (10 * n + (pk s.data.toList k - 48)) (k + 1) = natL s.data.toList i) := Lib.hid (by rw [← HN.out, numL_go _ _ _ ⟨hn0, hd, hle⟩])
                have HEQ : Hid (((10 * n + (pk s.data.toList k - 48) : Nat) : Int) = (n : Int) * 10 + ((pk s.data.toList k : Int) - 48)) := Lib.hid (by omega)
                have HLE := Lib.hid hle
                clear HN hd hle hn0
                go_wp2_with fail
                iterate 4
                  refine (HP.out _).mono ?_
                  rintro e w' ⟨rfl, hw'⟩; obtain rfl := hw'.symm
                  go_wp2_with fail
                go_round
                case rel => exact ⟨k + 1, _, hkl, by go_num, val_int HEQ.out.symm, HLE.out, HN2⟩
                case measure => simp [intOf]; omega
              · have hle' : ¬ (n : Int) * 10 + ((pk s.data.toList k : Int) - 48) ≤ 1000000 := by omega
                have HN2 : Hid ((n, k) = natL s.data.toList i) := Lib.hid (by rw [← HN.out, numL_stop _ _ _ (fun h => hle h.2.2)])
                clear HN hd hle hn0
                go_wp2_with fail
                iterate 3
                  refine (HP.out _).mono ?_
                  rintro e w' ⟨rfl, hw'⟩; obtain rfl := hw'.symm
                  go_wp2_with fail
                have HF : Hid (intL s.data.toList i = .ok (.mk 2 (n : Int) ⟨#[]⟩ []) k) := Lib.hid (by rw [HV.out, ← HN2.out])
                refine bodyPost_ret (v := .tuple #[.agg #[.int .i64 2, .int .i64 (n : Int), .string ⟨#[]⟩, .slice none 0 0], .int .i64 (k : Int), .bool true]) (by simp [results, Tryz.results48, go_sem, *]) rfl ?_
                rw [HF.out]
                exact ⟨.plain _ _ _ _ _ _, below1 _ _⟩
            · have HN2 : Hid ((n, k) = natL s.data.toList i) := Lib.hid (by rw [← HN.out, numL_stop _ _ _ (fun h => hd h.2.1)])
              by_cases hlow : 48 ≤ pk s.data.toList k
              · have hd1' : (48 : Int) ≤ (pk s.data.toList k : Int) := by omega
                have hd2' : ¬ (pk s.data.toList k : Int) ≤ 57 := by
                  intro h
                  exact hd (by unfold isD; rw [decide_eq_true hlow, decide_eq_true (show pk s.data.toList k ≤ 57 by omega)]; rfl)
                clear HN hd hlow hn0
                go_wp2_with fail
                iterate 2
                  refine (HP.out _).mono ?_
                  rintro e w' ⟨rfl, hw'⟩; obtain rfl := hw'.symm
                  go_wp2_with fail
                have HF : Hid (intL s.data.toList i = .ok (.mk 2 (n : Int) ⟨#[]⟩ []) k) := Lib.hid (by rw [HV.out, ← HN2.out])
                refine bodyPost_ret (v := .tuple #[.agg #[.int .i64 2, .int .i64 (n : Int), .string ⟨#[]⟩, .slice none 0 0], .int .i64 (k : Int), .bool true]) (by simp [results, Tryz.results48, go_sem, *]) rfl ?_
                rw [HF.out]
                exact ⟨.plain _ _ _ _ _ _, below1 _ _⟩
              · have hd1' : ¬ (48 : Int) ≤ (pk s.data.toList k : Int) := by omega
                clear HN hd hlow hn0
                go_wp2_with fail
                refine (HP.out _).mono ?_
                rintro e w' ⟨rfl, hw'⟩; obtain rfl := hw'.symm
                go_wp2_with fail
                have HF : Hid (intL s.data.toList i = .ok (.mk 2 (n : Int) ⟨#[]⟩ []) k) := Lib.hid (by rw [HV.out, ← HN2.out])
                refine bodyPost_ret (v := .tuple #[.agg #[.int .i64 2, .int .i64 (n : Int), .string ⟨#[]⟩, .slice none 0 0], .int .i64 (k : Int), .bool true]) (by simp [results, Tryz.results48, go_sem, *]) rfl ?_
                rw [HF.out]
                exact ⟨.plain _ _ _ _ _ _, below1 _ _⟩
          · obtain rfl : n = 0 := by omega
            have HN2 : Hid ((0, k) = natL s.data.toList i) := Lib.hid (by rw [← HN.out, numL_stop _ _ _ (fun h => hn0 h.1)])
            clear HN hn0 HP hni hni0
            go_wp2_with fail
            have HF : Hid (intL s.data.toList i = .ok (.mk 2 (0 : Int) ⟨#[]⟩ []) k) := Lib.hid (by rw [HV.out, ← HN2.out]; rfl)
            refine bodyPost_ret (v := .tuple #[.agg #[.int .i64 2, .int .i64 (0 : Int), .string ⟨#[]⟩, .slice none 0 0], .int .i64 (k : Int), .bool true]) (by simp [results, Tryz.results48, go_sem, *]) rfl ?_
            rw [HF.out]
            exact ⟨.plain _ _ _ _ _ _, below1 _ _⟩
    · have hd' : isD (pk s.data.toList i) = false := by simpa using hd
      have HV := Lib.hid ((by exact intL_bad s.data.toList i h45 hd' : intL s.data.toList i = .bad i))
      by_cases hlow : 48 ≤ pk s.data.toList i
      · have hd1' : ¬ (pk s.data.toList i : Int) < 48 := by omega
        have hd2' : (57 : Int) < (pk s.data.toList i : Int) := by
          rcases Nat.lt_or_ge 57 (pk s.data.toList i) with h | h
          · omega
          · exact absurd (by unfold isD; rw [decide_eq_true hlow, decide_eq_true h]; rfl) hd
        clear hd hd' hlow h45
        go_enter Tryz.func48, Tryz.ntmps48
        go_wp2_with fail
        refine (HPI.out _).mono ?_
        rintro e w' ⟨rfl, hw'⟩; obtain rfl := hw'.symm
        go_wp2_with fail
        refine (HPJ.out _).mono ?_
        rintro e w' ⟨rfl, hw'⟩; obtain rfl := hw'.symm
        go_wp2_with fail
        refine bodyPost_ret (v := .tuple #[.agg #[.int .i64 0, .int .i64 0, .string ⟨#[]⟩, .slice none 0 0], .int .i64 (i : Int), .bool false]) (by simp [results, Tryz.results48, go_sem, *]) rfl ?_
        rw [HV.out]
        exact ⟨.bad _ _ _ _ _ _, below1 _ _⟩
      · have hd1' : (pk s.data.toList i : Int) < 48 := by omega
        clear hd hd' hlow h45
        go_enter Tryz.func48, Tryz.ntmps48
        go_wp2_with fail
        refine (HPI.out _).mono ?_
        rintro e w' ⟨rfl, hw'⟩; obtain rfl := hw'.symm
        go_wp2_with fail
        refine (HPJ.out _).mono ?_
        rintro e w' ⟨rfl, hw'⟩; obtain rfl := hw'.symm
        go_wp2_with fail
        refine bodyPost_ret (v := .tuple #[.agg #[.int .i64 0, .int .i64 0, .string ⟨#[]⟩, .slice none 0 0], .int .i64 (i : Int), .bool false]) (by simp [results, Tryz.results48, go_sem, *]) rfl ?_
        rw [HV.out]
        exact ⟨.bad _ _ _ _ _ _, below1 _ _⟩

end Go.Proofs.YtmbmlcnipncgnaaGreatDoor
