/-
  The walk of BitvecAlgebra. Nothing is assumed.
-/
import Derived.Test.YtlpmaeemegphiaaBvAlive
namespace Go.Proofs.Ytlpmaeemegphiaa
open Go.RowKit

theorem digit_at (a : Int) (j : Nat) (h : j < (⟨(txt a 8).toArray⟩ : ByteArray).size) : (⟨(txt a 8).toArray⟩ : ByteArray)[j] = dg a (7 - j) := by
  have h8 : j < 8 := by simpa [ByteArray.size, txt_len] using h
  show (txt a 8).toArray[j] = _
  simp [txt]

set_option maxRecDepth 100000 in
set_option maxHeartbeats 3200000 in
theorem lawAlgebra_any (x y z : Int) (hx0 : 0 ≤ x) (hx1 : x ≤ 255) (hy0 : 0 ≤ y) (hy1 : y ≤ 255) (hz0 : 0 ≤ z) (hz1 : z ≤ 255) (w : World) : Calls Try.prog 9 #[.int .u8 x, .int .u8 y, .int .u8 z] w fun e w' => e = .returned (.bool true) ∧ Below w.heap.size w w' := by
  have hb : Below w.heap.size w w := Below.refl _ _
  have ha := vld_mk hx0 hx1
  have hb' := vld_mk hy0 hy1
  have hc := vld_mk hz0 hz1
  have e0 : (bvNot (bvB 0 x y) == bvB 1 (bvNot x) (bvNot y)) = true := beq_iff_eq.2 (morgan8 ha hb')
  have e1 : (bvNot (bvNot x) == x) = true := beq_iff_eq.2 (not_not8 ha)
  have e2 : (bvB 0 x (bvB 1 y z) == bvB 1 (bvB 0 x y) (bvB 0 x z)) = true := beq_iff_eq.2 (and_or8 ha hb' hc)
  have e3 : (bvB 1 x (bvB 0 x y) == x) = true := beq_iff_eq.2 (or_and8 ha hb')
  have e4 : (bvB 0 x (bvNot x) == 0) = true := beq_iff_eq.2 (and_not8 ha)
  have e5 : (bvB 1 x (bvNot x) == 255) = true := beq_iff_eq.2 (or_not8 ha)
  have e6 : (bvB 2 (bvB 2 x y) y == x) = true := beq_iff_eq.2 (xor_xor8 ha hb')
  clear ha hb' hc
  obtain ⟨S, hS⟩ : ∃ S : ByteArray, S = ⟨(txt x 8).toArray⟩ := ⟨_, rfl⟩
  have hT : bvText x = S := by rw [hS]; unfold bvText; rw [vld_mk hx0 hx1]; rfl
  have HTX : ∀ w, Calls Try.prog 35 #[.int .i64 x] w fun e w' => e = .returned (.string S) ∧ Below w.heap.size w w' := fun w => by rw [← hT]; exact text_any x w
  have HSZ : Hid (S.size = 8) := Lib.hid (by rw [hS]; simp [ByteArray.size, txt_len])
  have HD : Hid (∀ j (h : j < S.size), S[j] = dg x (7 - j)) := Lib.hid (by rw [hS]; exact digit_at x)
  have hO : bvOnes x = digs x 8 := by rw [digs_ones]; unfold bvOnes; rw [vld_mk hx0 hx1]; rfl
  have HOC : ∀ w, Calls Try.prog 33 #[.int .i64 x] w fun e w' => e = .returned (.int .i64 (digs x 8)) ∧ w' = w := fun w => by rw [← hO]; exact ones_any x w
  clear hT hS hO
  go_enter Try.func9, Try.ntmps9
  go_wp2_with (first | (go_at_call 12; refine (and_any _ _ _).mono ?_; rintro e w1 ⟨rfl, hb1⟩; replace hb := hb.trans (hb1.mono hb.size); clear hb1) | (go_at_call 14; refine (or_any _ _ _).mono ?_; rintro e w1 ⟨rfl, hb1⟩; replace hb := hb.trans (hb1.mono hb.size); clear hb1) | (go_at_call 16; refine (xor_any _ _ _).mono ?_; rintro e w1 ⟨rfl, hb1⟩; replace hb := hb.trans (hb1.mono hb.size); clear hb1) | (go_at_call 18; refine (not_any _ _).mono ?_; rintro e w1 ⟨rfl, hb1⟩; replace hb := hb.trans (hb1.mono hb.size); clear hb1) | (go_at_call 33; refine (HOC _).mono ?_; rintro e w' ⟨rfl, hw'⟩; obtain rfl := hw'.symm) | (go_at_call 35; refine (HTX _).mono ?_; rintro e w1 ⟨rfl, hb1⟩; replace hb := hb.trans (hb1.mono hb.size); clear hb1) | (go_at_call 20; refine (alive_any _).mono ?_; rintro e w1 ⟨rfl, hb1⟩; replace hb := hb.trans (hb1.mono hb.size); clear hb1))
  rename World => w1
  go_loopw [13] (fun n wr => ∃ k : Nat, k ≤ 8 ∧ n = .int .i64 (digs x k) ∧ wr = w1.iter S k) (fun _ wr => 8 - wr.iterPos w1.heap.size)
  case atStart => exact ⟨0, Nat.zero_le _, rfl, rfl⟩
  case round =>
    obtain ⟨k, hk, rfl, rfl⟩ := hrel
    have hdb := digs_bd x k
    by_cases hlt : k < 8
    · have hks : k < S.size := by rw [HSZ.out]; exact hlt
      have HN : Hid (digs x (k + 1) = digs x k + if bt x (7 - k) = 1 then 1 else 0) := Lib.hid rfl
      rcases bt_01 x (7 - k) with h1 | h1
      all_goals
        have hbyte : (S[k]'hks).toNat = 48 + (bt x (7 - k)).toNat := by
          have := dg_toNat x (7 - k)
          rw [HD.out k hks]
          omega
        rw [h1] at hbyte
        have hnext := fun ty => run_next_ascii (P := Try.prog) w1 S k ty hks (by omega)
        rw [hbyte] at hnext
        have H1 := Lib.hid h1
        clear hbyte h1 hks
        go_wp2_with fail
        go_roundw
        case rel => exact ⟨k + 1, hlt, by rw [HN.out, H1.out]; first | rfl | (congr 1; omega), rfl⟩
        case measure => simp; omega
    · have hnext := fun ty => run_next_end (P := Try.prog) w1 S k ty (by rw [HSZ.out]; exact hlt)
      obtain rfl : k = 8 := by omega
      have hbi : Below w.heap.size w (w1.iter S 8) := hb.alloc hb.size _
      replace hb := hbi
      clear hbi
      go_wp2_with (first | (go_at_call 12; refine (and_any _ _ _).mono ?_; rintro e w1 ⟨rfl, hb1⟩; replace hb := hb.trans (hb1.mono hb.size); clear hb1) | (go_at_call 14; refine (or_any _ _ _).mono ?_; rintro e w1 ⟨rfl, hb1⟩; replace hb := hb.trans (hb1.mono hb.size); clear hb1) | (go_at_call 16; refine (xor_any _ _ _).mono ?_; rintro e w1 ⟨rfl, hb1⟩; replace hb := hb.trans (hb1.mono hb.size); clear hb1) | (go_at_call 18; refine (not_any _ _).mono ?_; rintro e w1 ⟨rfl, hb1⟩; replace hb := hb.trans (hb1.mono hb.size); clear hb1) | (go_at_call 33; refine (HOC _).mono ?_; rintro e w' ⟨rfl, hw'⟩; obtain rfl := hw'.symm) | (go_at_call 35; refine (HTX _).mono ?_; rintro e w1 ⟨rfl, hb1⟩; replace hb := hb.trans (hb1.mono hb.size); clear hb1) | (go_at_call 20; refine (alive_any _).mono ?_; rintro e w1 ⟨rfl, hb1⟩; replace hb := hb.trans (hb1.mono hb.size); clear hb1))
      go_ret
      exact ⟨rfl, hb⟩

end Go.Proofs.Ytlpmaeemegphiaa
