/-
  Check of the package and of the reference. Nothing is assumed.
-/
import Derived.Test.YtampofpllijfhaaTbBase
namespace Go.Proofs.Ytampofpllijfhaa
open Go.RowKit

theorem neq_tT {a : Int} (h : a ≠ 0) : (a != 0) = true := bne_iff_ne.2 h
theorem neq_fT {a : Int} (h : a = 0) : (a != 0) = false := by rw [h]; rfl

set_option maxHeartbeats 800000 in
theorem cell_any (s : ByteArray) (w : World) :
    Calls Try.prog 74 #[.string s] w fun e w' => e = .returned (.int .i64 (cellE s)) ∧ w = w' := by
  by_cases hl : 64 < (s.size : Int)
  · have HZ := Lib.hid (cellE_big hl)
    go_enter Try.func74, Try.ntmps74
    go_wp2_with fail
    go_ret
    exact ⟨ret_int HZ.out.symm, rfl⟩
  · have HZ := Lib.hid (cellE_in hl)
    go_enter Try.func74, Try.ntmps74
    go_wp2_with fail
    go_loop [9] (fun i => ∃ k : Nat, k ≤ s.size ∧ i = .int .i64 k ∧ Hid (firstE byteE (s.data.toList.drop k) = firstE byteE s.data.toList)) (fun i => s.size - (intOf i).toNat)
    case atStart => exact ⟨0, Nat.zero_le _, rfl, Lib.hid rfl⟩
    case round =>
      obtain ⟨k, hk, rfl, HD⟩ := hrel
      by_cases hlt : k < s.size
      · have HS := Lib.hid (bytes_at s k hlt)
        by_cases h1 : (s[k].toNat : Int) < 32
        · have HV := Lib.hid (byte_low h1)
          go_wp2_with fail
          go_ret
          exact ⟨ret_int (by rw [HZ.out, ← HD.out, HS.out, HV.out]; rfl), rfl⟩
        by_cases h2 : 126 < (s[k].toNat : Int)
        · have HV := Lib.hid (byte_high h2)
          go_wp2_with fail
          go_ret
          exact ⟨ret_int (by rw [HZ.out, ← HD.out, HS.out, HV.out]; rfl), rfl⟩
        · have HV := Lib.hid (byte_good h1 h2)
          go_wp2_with fail
          go_round
          case rel => exact ⟨k + 1, hlt, by go_num, Lib.hid (by rw [← HD.out, HS.out, HV.out, if_pos rfl])⟩
          case measure => simp [intOf]; omega
      · obtain rfl : k = s.size := by omega
        go_wp2_with fail
        go_ret
        exact ⟨ret_int (by rw [HZ.out, ← HD.out, bytes_end]), rfl⟩

set_option maxRecDepth 100000 in
set_option maxHeartbeats 800000 in
theorem row_any (x : Value) (r : List ByteArray) (n : Nat) (w : World) (P : Nat → Prop) (hx : HoldsS w P x r) :
    Calls Try.prog 45 #[x, .int .i64 (n : Int)] w fun e w' => e = .returned (.int .i64 (rowE n r)) ∧ w = w' := by
  obtain ⟨oa, ca, rfl, _, _, hel⟩ := hx
  by_cases h1 : (r.length : Int) < 1
  · have HZ := Lib.hid (rowE_size (n := n) (.inl h1))
    clear hel
    go_enter Try.func45, Try.ntmps45
    go_wp2_with fail
    go_ret
    exact ⟨ret_int HZ.out.symm, rfl⟩
  by_cases h2 : 8 < (r.length : Int)
  · have HZ := Lib.hid (rowE_size (n := n) (.inr h2))
    clear hel
    go_enter Try.func45, Try.ntmps45
    go_wp2_with fail
    go_ret
    exact ⟨ret_int HZ.out.symm, rfl⟩
  by_cases h3 : r.length = n
  · have HZ := Lib.hid (rowE_in h1 h2 h3)
    have hne : ((r.length : Int) != (n : Int)) = false := by rw [h3]; simp
    clear h3
    go_enter Try.func45, Try.ntmps45
    go_wp2_with fail
    go_loop [22] (fun i => ∃ k : Nat, k ≤ r.length ∧ i = .int .i64 k ∧ Hid (firstE cellE (r.drop k) = firstE cellE r)) (fun i => r.length - (intOf i).toNat)
    case atStart => exact ⟨0, Nat.zero_le _, rfl, Lib.hid rfl⟩
    case round =>
      obtain ⟨k, hk, rfl, HD⟩ := hrel
      by_cases hlt : k < r.length
      · have HS := Lib.hid (firstE_at cellE r k hlt)
        obtain ⟨b, off, rfl, _, hc⟩ := hel k _ (List.getElem?_eq_getElem hlt)
        have hki : (k : Int) < (r.length : Int) := by omega
        have HC := Lib.hid (cell_any r[k] w)
        clear hel
        by_cases hc0 : cellE r[k] = 0
        · have fc := neq_fT hc0
          have HV := Lib.hid hc0
          clear hc0
          go_wp2_with fail
          refine HC.out.mono ?_
          rintro e w' ⟨rfl, rfl⟩
          go_wp2_with fail
          go_round
          case rel => exact ⟨k + 1, hlt, by go_num, Lib.hid (by rw [← HD.out, HS.out, HV.out, if_pos rfl])⟩
          case measure => simp [intOf]; omega
        · have fc := neq_tT hc0
          have HV := Lib.hid hc0
          clear hc0
          go_wp2_with fail
          refine HC.out.mono ?_
          rintro e w' ⟨rfl, rfl⟩
          go_wp2_with fail
          go_ret
          exact ⟨ret_int (by rw [HZ.out, ← HD.out, HS.out, if_neg HV.out]), rfl⟩
      · obtain rfl : k = r.length := by omega
        clear hel
        go_wp2_with fail
        go_ret
        exact ⟨ret_int (by rw [HZ.out, ← HD.out, firstE_end]), rfl⟩
  · have HZ := Lib.hid (rowE_form h1 h2 h3)
    have hne : ((r.length : Int) != (n : Int)) = true := by rw [bne_iff_ne]; omega
    clear h3 hel
    go_enter Try.func45, Try.ntmps45
    go_wp2_with fail
    go_ret
    exact ⟨ret_int HZ.out.symm, rfl⟩

set_option maxRecDepth 100000 in
set_option maxHeartbeats 800000 in
theorem chk_any (x : Value) (t : List (List ByteArray)) (w : World) (P : Nat → Prop) (hx : HoldsT w P x t) :
    Calls Try.prog 13 #[x] w fun e w' => e = .returned (.int .i64 (chkT t)) ∧ w = w' := by
  have HX := Lib.hid hx
  obtain ⟨oa, ca, rfl, _, _⟩ := hx.form
  clear hx
  by_cases h8 : 8 < (t.length : Int)
  · have HZ := Lib.hid (chkT_big h8)
    go_enter Try.func13, Try.ntmps13
    go_wp2_with fail
    go_ret
    exact ⟨ret_int HZ.out.symm, rfl⟩
  · have HZ := Lib.hid (chkT_in h8)
    go_enter Try.func13, Try.ntmps13
    go_wp2_with fail
    go_loop [11] (fun i => ∃ k : Nat, k ≤ t.length ∧ i = .int .i64 k ∧ Hid (firstE (rowE (colsT t)) (t.drop k) = firstE (rowE (colsT t)) t)) (fun i => t.length - (intOf i).toNat)
    case atStart => exact ⟨0, Nat.zero_le _, rfl, Lib.hid rfl⟩
    case round =>
      obtain ⟨k, hk, rfl, HD⟩ := hrel
      by_cases hlt : k < t.length
      · have HS := Lib.hid (firstE_at (rowE (colsT t)) t k hlt)
        have h0t : 0 < t.length := by omega
        obtain ⟨b, off, o, cr, rfl, _, h0, hrow⟩ := HX.out.at_ (List.getElem?_eq_getElem hlt)
        obtain ⟨b', off', o', cr', he, _, g0, _⟩ := HX.out.at_ (List.getElem?_eq_getElem h0t)
        cases he
        simp only [Nat.add_zero] at g0
        have HC0 := row_any _ _ (colsT t) w P hrow
        have HCT := Lib.hid (colsT_at h0t)
        rw [HCT.out] at HC0
        have HC := Lib.hid HC0
        have hki : (k : Int) < (t.length : Int) := by omega
        have hki0 : (0 : Int) < (t.length : Int) := by omega
        clear hrow HC0
        by_cases hc0 : rowE t[0].length t[k] = 0
        · have fc := neq_fT hc0
          have HV := Lib.hid hc0
          clear hc0
          go_wp2_with fail
          refine HC.out.mono ?_
          rintro e w' ⟨rfl, rfl⟩
          go_wp2_with fail
          go_round
          case rel => exact ⟨k + 1, hlt, by go_num, Lib.hid (by
            have h := HS.out
            rw [HD.out] at h
            rw [h]
            have h2 := HV.out
            rw [← HCT.out] at h2
            rw [if_pos h2])⟩
          case measure => simp [intOf]; omega
        · have fc := neq_tT hc0
          have HV := Lib.hid hc0
          clear hc0
          go_wp2_with fail
          refine HC.out.mono ?_
          rintro e w' ⟨rfl, rfl⟩
          go_wp2_with fail
          go_ret
          refine ⟨ret_int ?_, rfl⟩
          have h := HS.out
          rw [HD.out] at h
          rw [HZ.out, h]
          have h2 := HV.out
          rw [← HCT.out] at h2
          rw [if_neg h2, HCT.out]
      · obtain rfl : k = t.length := by omega
        go_wp2_with fail
        go_ret
        exact ⟨ret_int (by rw [HZ.out, ← HD.out, firstE_end]), rfl⟩

end Go.Proofs.Ytampofpllijfhaa
