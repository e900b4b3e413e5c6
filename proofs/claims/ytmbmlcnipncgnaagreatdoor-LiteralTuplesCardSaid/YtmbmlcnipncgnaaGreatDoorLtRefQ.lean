/-
  hex and Quote of the reference. Nothing is assumed.
-/
import Derived.Test.YtmbmlcnipncgnaaGreatDoorLtShelf
namespace Go.Proofs.YtmbmlcnipncgnaaGreatDoor
open Go.RowKit

set_option maxRecDepth 100000 in
theorem rhex_any (n : Nat) (w : World) (hn : n < 16) :
    Calls Tryz.prog 72 #[.int .i64 n] w fun e w' => e = .returned (.string (str [hx n])) ∧ w' = w := by
  have hj : ((n : Nat) : Int) + 1 = ((n + 1 : Nat) : Int) := by omega
  have key : ∀ k, k < 16 → (⟨#[48, 49, 50, 51, 52, 53, 54, 55, 56, 57, 97, 98, 99, 100, 101, 102]⟩ : ByteArray).extract k (k + 1) = str [hx k] := by decide +kernel
  have HK := Lib.hid (key n hn)
  clear key
  obtain ⟨m, hm⟩ : ∃ m, n + 1 = m := ⟨_, rfl⟩
  rw [hm] at hj HK
  have h1 : (m : Int) ≤ 16 := by omega
  have h2 : (n : Int) ≤ (m : Int) := by omega
  have h3 : (0 : Int) ≤ (n : Int) := by omega
  clear hm
  go_enter Tryz.func72, Tryz.ntmps72
  go_wp2_with fail
  go_ret
  exact ⟨ret_string HK.out, rfl⟩

theorem take_snoc (s : ByteArray) (i : Nat) (h : i < s.size) : s.data.toList.take (i + 1) = s.data.toList.take i ++ [s[i]'h] := by
  rw [List.take_add_one, lt_at s i h]
  rfl
theorem app_lit (l : List UInt8) (a : Array UInt8) : str l ++ ⟨a⟩ = str (l ++ a.toList) := lt_app l a.toList
set_option maxRecDepth 100000 in
set_option maxHeartbeats 1600000 in
theorem rquote_any (s : ByteArray) (w : World) (hs : s.size ≤ 100000) :
    Calls Tryz.prog 73 #[.string s] w fun e w' => e = .returned (.string (str (quoteL s.data.toList))) ∧ w' = w := by
  have HH := fun n w h => rhex_any n w h
  go_enter Tryz.func73, Tryz.ntmps73
  go_wp2_with fail
  go_loop [3, 4] (fun o v => ∃ (i : Nat) (O : ByteArray), i ≤ s.size ∧ v = .int .i64 i ∧ o = .string O ∧ Hid (O = str (34 :: escL (s.data.toList.take i))) ∧ O.size ≤ 1 + 4 * i) (fun _ v => s.size - (intOf v).toNat)
  case atStart => exact ⟨0, _, Nat.zero_le _, rfl, rfl, Lib.hid rfl, by decide⟩
  case round =>
    obtain ⟨i, O, hi, rfl, rfl, HO, hO⟩ := hrel
    by_cases hlt : i < s.size
    · obtain ⟨m, hm⟩ : ∃ m, i + 1 = m := ⟨_, rfl⟩
      have hmi : (i : Int) + 1 = (m : Int) := by omega
      have hm1 : (m : Int) ≤ (s.size : Int) := by omega
      have hm2 : (i : Int) ≤ (m : Int) := by omega
      have hX : s.extract i m = str [s[i]'hlt] := by
        rw [extract_str, lt_drop s i hlt, show m - i = 1 by omega]
        rfl
      have HX := Lib.hid hX
      obtain ⟨X, hXX⟩ : ∃ X, s.extract i m = X := ⟨_, rfl⟩
      rw [hXX] at HX
      have hXs : X.size = 1 := by rw [HX.out]; rfl
      have HS : Hid (∀ Y : ByteArray, Y = O ++ str (escB (s[i]'hlt)) → Y = str (34 :: escL (s.data.toList.take (i + 1))) ∧ Y.size ≤ 1 + 4 * (i + 1)) := Lib.hid fun Y hY => by
        subst hY
        refine ⟨by rw [HO.out, take_snoc s i hlt, escL_snoc, lt_app]; rfl, ?_⟩
        rw [ByteArray.size_append, str_size]
        have := escB_len (s[i]'hlt)
        omega
      clear hX
      have h256 : (s[i]'hlt).toNat < 256 := (s[i]'hlt).toNat_lt
      have HE : Hid (escB (s[i]'hlt) = if (s[i]'hlt).toNat = 34 ∨ (s[i]'hlt).toNat = 92 then [92, s[i]'hlt] else if (s[i]'hlt).toNat < 32 ∨ 126 < (s[i]'hlt).toNat then [92, 120, hx ((s[i]'hlt).toNat / 16), hx ((s[i]'hlt).toNat % 16)] else [s[i]'hlt]) := Lib.hid rfl
      by_cases h1 : (s[i]'hlt).toNat = 34 ∨ (s[i]'hlt).toNat = 92
      · obtain ⟨Y1, hY1⟩ : ∃ Y, O ++ ⟨#[92]⟩ = Y := ⟨_, rfl⟩
        have hY1s : Y1.size = O.size + 1 := by rw [← hY1, ByteArray.size_append]; rfl
        have hadd1 : ∀ w, (Op.stringOp .add O ⟨#[92]⟩).run Tryz.prog w = .ok (.string Y1) w := fun w => by rw [← hY1]; exact run_string_add_sum w O ⟨#[92]⟩ (by show O.size + 1 ≤ _; omega)
        have hadd2 : ∀ w, (Op.stringOp .add Y1 X).run Tryz.prog w = .ok (.string (Y1 ++ X)) w := fun w => run_string_add_sum w Y1 X (by omega)
        obtain ⟨hN1, hN⟩ := HS.out (Y1 ++ X) (by rw [HE.out, if_pos h1, ← hY1, HX.out, ByteArray.append_assoc]; rfl)
        have HN := Lib.hid hN1
        clear hN1 HS HE HX HO HH
        by_cases h3 : (s[i]'hlt).toNat = 34
        · have g34 : (((s[i]'hlt).toNat : Int) == 34) = true := by rw [h3]; rfl
          clear h1 h3
          go_wp2_with fail
          go_round
          case rel => exact ⟨i + 1, _, hlt, by go_num, rfl, HN, hN⟩
          case measure => simp [intOf]; omega
        · have g34 : (((s[i]'hlt).toNat : Int) == 34) = false := by rw [beq_eq_false_iff_ne]; omega
          have g92 : (((s[i]'hlt).toNat : Int) == 92) = true := by rw [show (s[i]'hlt).toNat = 92 by omega]; rfl
          clear h1 h3
          go_wp2_with fail
          go_round
          case rel => exact ⟨i + 1, _, hlt, by go_num, rfl, HN, hN⟩
          case measure => simp [intOf]; omega
      have g34 : (((s[i]'hlt).toNat : Int) == 34) = false := by rw [beq_eq_false_iff_ne]; omega
      have g92 : (((s[i]'hlt).toNat : Int) == 92) = false := by rw [beq_eq_false_iff_ne]; omega
      by_cases h2 : (s[i]'hlt).toNat < 32 ∨ 126 < (s[i]'hlt).toNat
      · obtain ⟨Y1, hY1⟩ : ∃ Y, O ++ ⟨#[92, 120]⟩ = Y := ⟨_, rfl⟩
        have hY1s : Y1.size = O.size + 2 := by rw [← hY1, ByteArray.size_append]; rfl
        have hadd1 : ∀ w, (Op.stringOp .add O ⟨#[92, 120]⟩).run Tryz.prog w = .ok (.string Y1) w := fun w => by rw [← hY1]; exact run_string_add_sum w O ⟨#[92, 120]⟩ (by show O.size + 2 ≤ _; omega)
        have H1 := fun w => HH ((s[i]'hlt).toNat / 16) w (by omega)
        have H2 := fun w => HH ((s[i]'hlt).toNat % 16) w (by omega)
        rw [Int.natCast_ediv] at H1
        rw [Int.natCast_emod] at H2
        clear HH
        obtain ⟨A1, hA1⟩ : ∃ Y, str [hx ((s[i]'hlt).toNat / 16)] = Y := ⟨_, rfl⟩
        obtain ⟨A2, hA2⟩ : ∃ Y, str [hx ((s[i]'hlt).toNat % 16)] = Y := ⟨_, rfl⟩
        rw [hA1] at H1
        rw [hA2] at H2
        have hA1s : A1.size = 1 := by rw [← hA1]; rfl
        have hA2s : A2.size = 1 := by rw [← hA2]; rfl
        obtain ⟨Y2, hY2⟩ : ∃ Y, Y1 ++ A1 = Y := ⟨_, rfl⟩
        have hY2s : Y2.size = Y1.size + 1 := by rw [← hY2, ByteArray.size_append, hA1s]
        have hadd2 : ∀ w, (Op.stringOp .add Y1 A1).run Tryz.prog w = .ok (.string Y2) w := fun w => by rw [← hY2]; exact run_string_add_sum w Y1 A1 (by omega)
        have hadd3 : ∀ w, (Op.stringOp .add Y2 A2).run Tryz.prog w = .ok (.string (Y2 ++ A2)) w := fun w => run_string_add_sum w Y2 A2 (by omega)
        obtain ⟨hN1, hN⟩ := HS.out (Y2 ++ A2) (by rw [HE.out, if_neg h1, if_pos h2, ← hY2, ← hY1, ← hA1, ← hA2, ByteArray.append_assoc, ByteArray.append_assoc]; rfl)
        have HN := Lib.hid hN1
        clear hN1 HS HE HX HO hA1 hA2 hY1 hY2
        by_cases h3 : ((s[i]'hlt).toNat : Int) < 32
        · clear h1 h2
          go_wp2_with fail
          refine (H1 _).mono ?_
          rintro e w' ⟨rfl, hw'⟩; obtain rfl := hw'.symm
          go_wp2_with fail
          refine (H2 _).mono ?_
          rintro e w' ⟨rfl, hw'⟩; obtain rfl := hw'.symm
          go_wp2_with fail
          go_round
          case rel => exact ⟨i + 1, _, hlt, by go_num, rfl, HN, hN⟩
          case measure => simp [intOf]; omega
        · have h4 : 126 < ((s[i]'hlt).toNat : Int) := by omega
          clear h1 h2
          go_wp2_with fail
          refine (H1 _).mono ?_
          rintro e w' ⟨rfl, hw'⟩; obtain rfl := hw'.symm
          go_wp2_with fail
          refine (H2 _).mono ?_
          rintro e w' ⟨rfl, hw'⟩; obtain rfl := hw'.symm
          go_wp2_with fail
          go_round
          case rel => exact ⟨i + 1, _, hlt, by go_num, rfl, HN, hN⟩
          case measure => simp [intOf]; omega
      · have hadd1 : ∀ w, (Op.stringOp .add O X).run Tryz.prog w = .ok (.string (O ++ X)) w := fun w => run_string_add_sum w O X (by omega)
        obtain ⟨hN1, hN⟩ := HS.out (O ++ X) (by rw [HE.out, if_neg h1, if_neg h2, HX.out])
        have HN := Lib.hid hN1
        have h3 : ¬ (((s[i]'hlt).toNat : Int) < 32) := by omega
        have h4 : ¬ (126 < ((s[i]'hlt).toNat : Int)) := by omega
        clear hN1 HS HE HX HO HH h1 h2
        go_wp2_with fail
        go_round
        case rel => exact ⟨i + 1, _, hlt, by go_num, rfl, HN, hN⟩
        case measure => simp [intOf]; omega
    · obtain rfl : i = s.size := by omega
      have hadd : ∀ w, (Op.stringOp .add O ⟨#[34]⟩).run Tryz.prog w = .ok (.string (O ++ ⟨#[34]⟩)) w := fun w => run_string_add_sum w O ⟨#[34]⟩ (by show O.size + 1 ≤ _; omega)
      have HT : Hid (O ++ ⟨#[34]⟩ = str (quoteL s.data.toList)) := Lib.hid (by
        rw [HO.out, List.take_of_length_le (by rw [lt_len]; exact Nat.le_refl _)]
        exact app_lit _ _)
      clear HH
      go_wp2_with fail
      go_ret
      exact ⟨ret_string HT.out, rfl⟩

end Go.Proofs.YtmbmlcnipncgnaaGreatDoor
