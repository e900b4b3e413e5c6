/-
  writeHex, writeEscaped and Quote of the package. Nothing is assumed.
-/
import Derived.Test.YtmbmlcnipncgnaaGreatDoorLtShelf
namespace Go.Proofs.YtmbmlcnipncgnaaGreatDoor
open Go.RowKit

theorem hex_at : ∀ (n : Nat) (h : n < 16), ((⟨#[48, 49, 50, 51, 52, 53, 54, 55, 56, 57, 97, 98, 99, 100, 101, 102]⟩ : ByteArray)[n]'h).toNat = (hx n).toNat := by decide +kernel
set_option maxRecDepth 100000 in
theorem whex_any (B : Nat) (l : List UInt8) (c : UInt8) (w : World) (h : IsB B l w) (hlen : l.length ≤ 900000000) (hBw : B ≤ w.heap.size) :
    Calls Tryz.prog 69 #[.pointer (some ⟨B, 0, none⟩), .int .u8 (c.toNat : Int)] w fun e w' => e = .returned (.tuple #[]) ∧ IsB B (l ++ [hx (c.toNat / 16), hx (c.toNat % 16)]) w' ∧ Below B w w' ∧ Lib.OthersKept 5 (some B) w w' := by
  have h256 : c.toNat < 256 := c.toNat_lt
  have H1 := Lib.hid (byte_any B l (hx (c.toNat / 16)) w h (by omega) hBw)
  have hq1 : (c.toNat : Int) / 16 < 16 := by omega
  have hq0 : (0 : Int) ≤ (c.toNat : Int) / 16 := by omega
  have hk := hex_at (c.toNat / 16) (by omega)
  clear h
  go_enter Tryz.func69, Tryz.ntmps69
  go_wp2_with fail
  rw [hk]
  refine H1.out.mono ?_
  rintro e w1 ⟨rfl, hB1, hb1, hk1⟩
  clear H1 hk
  have H2 := Lib.hid (byte_any B _ (hx (c.toNat % 16)) w1 hB1 (by rw [List.length_append]; show _ + 1 ≤ _; omega) (Nat.le_trans hBw hb1.size))
  clear hB1
  go_wp2_with fail
  rw [hex_at (c.toNat % 16) (by omega)]
  refine H2.out.mono ?_
  rintro e w2 ⟨rfl, hB2, hb2, hk2⟩
  go_wp2_with fail
  go_end0
  rw [List.append_assoc] at hB2
  exact ⟨rfl, hB2, hb1.trans hb2, hk1.trans hk2⟩
set_option maxRecDepth 100000 in
theorem wesc_any (B : Nat) (l : List UInt8) (c : UInt8) (w : World) (h : IsB B l w) (hlen : l.length ≤ 800000000) (hBw : B ≤ w.heap.size) :
    Calls Tryz.prog 64 #[.pointer (some ⟨B, 0, none⟩), .int .u8 (c.toNat : Int)] w fun e w' => e = .returned (.tuple #[]) ∧ IsB B (l ++ escB c) w' ∧ Below B w w' ∧ Lib.OthersKept 5 (some B) w w' := by
  have h256 : c.toNat < 256 := c.toNat_lt
  by_cases h1 : c.toNat = 34 ∨ c.toNat = 92
  · have he : escB c = [92, c] := by unfold escB; rw [if_pos h1]
    rw [he]
    have H1 := Lib.hid (byte_any B l 92 w h (by omega) hBw)
    clear h he
    by_cases h2 : c.toNat = 34
    · have g34 : ((c.toNat : Int) == 34) = true := by rw [h2]; rfl
      clear h1 h2
      go_enter Tryz.func64, Tryz.ntmps64
      go_wp2_with fail
      refine H1.out.mono ?_
      rintro e w1 ⟨rfl, hB1, hb1, hk1⟩
      clear H1
      have H2 := Lib.hid (byte_any B _ c w1 hB1 (by rw [List.length_append]; show _ + 1 ≤ _; omega) (Nat.le_trans hBw hb1.size))
      clear hB1
      go_wp2_with fail
      refine H2.out.mono ?_
      rintro e w2 ⟨rfl, hB2, hb2, hk2⟩
      go_wp2_with fail
      go_end0
      rw [List.append_assoc] at hB2
      exact ⟨rfl, hB2, hb1.trans hb2, hk1.trans hk2⟩
    · have g34 : ((c.toNat : Int) == 34) = false := by rw [beq_eq_false_iff_ne]; omega
      have g92 : ((c.toNat : Int) == 92) = true := by rw [show c.toNat = 92 by omega]; rfl
      clear h1 h2
      go_enter Tryz.func64, Tryz.ntmps64
      go_wp2_with fail
      refine H1.out.mono ?_
      rintro e w1 ⟨rfl, hB1, hb1, hk1⟩
      clear H1
      have H2 := Lib.hid (byte_any B _ c w1 hB1 (by rw [List.length_append]; show _ + 1 ≤ _; omega) (Nat.le_trans hBw hb1.size))
      clear hB1
      go_wp2_with fail
      refine H2.out.mono ?_
      rintro e w2 ⟨rfl, hB2, hb2, hk2⟩
      go_wp2_with fail
      go_end0
      rw [List.append_assoc] at hB2
      exact ⟨rfl, hB2, hb1.trans hb2, hk1.trans hk2⟩
  have g34 : ((c.toNat : Int) == 34) = false := by rw [beq_eq_false_iff_ne]; omega
  have g92 : ((c.toNat : Int) == 92) = false := by rw [beq_eq_false_iff_ne]; omega
  have HP := fun w => print_any (c.toNat : Int) w
  by_cases h2 : c.toNat < 32 ∨ 126 < c.toNat
  · have he : escB c = [92, 120, hx (c.toNat / 16), hx (c.toNat % 16)] := by unfold escB; rw [if_neg h1, if_pos h2]
    rw [he]
    have hp : (decide (32 ≤ (c.toNat : Int)) && decide ((c.toNat : Int) ≤ 126)) = false := by
      rw [Bool.and_eq_false_iff, decide_eq_false_iff_not, decide_eq_false_iff_not]
      omega
    rw [hp] at HP
    have H1 := Lib.hid (write_any B l ⟨#[92, 120]⟩ w h (by show l.length + 2 ≤ _; omega) hBw)
    clear h he h1 h2 hp
    go_enter Tryz.func64, Tryz.ntmps64
    go_wp2_with fail
    refine (HP _).mono ?_
    rintro e w' ⟨rfl, hw'⟩; obtain rfl := hw'.symm
    go_wp2_with fail
    refine H1.out.mono ?_
    rintro e w1 ⟨rfl, hB1, hb1, hk1⟩
    clear H1 HP
    have H2 := Lib.hid (whex_any B _ c w1 hB1 (by rw [List.length_append]; show _ + 2 ≤ _; omega) (Nat.le_trans hBw hb1.size))
    clear hB1
    go_wp2_with fail
    refine H2.out.mono ?_
    rintro e w2 ⟨rfl, hB2, hb2, hk2⟩
    go_wp2_with fail
    go_end0
    rw [List.append_assoc] at hB2
    exact ⟨rfl, hB2, hb1.trans hb2, hk1.trans hk2⟩
  · have he : escB c = [c] := by unfold escB; rw [if_neg h1, if_neg h2]
    rw [he]
    have hp : (decide (32 ≤ (c.toNat : Int)) && decide ((c.toNat : Int) ≤ 126)) = true := by
      rw [Bool.and_eq_true, decide_eq_true_eq, decide_eq_true_eq]
      omega
    rw [hp] at HP
    have H1 := Lib.hid (byte_any B l c w h (by omega) hBw)
    clear h he h1 h2 hp
    go_enter Tryz.func64, Tryz.ntmps64
    go_wp2_with fail
    refine (HP _).mono ?_
    rintro e w' ⟨rfl, hw'⟩; obtain rfl := hw'.symm
    go_wp2_with fail
    refine H1.out.mono ?_
    rintro e w1 ⟨rfl, hB1, hb1, hk1⟩
    clear H1 HP
    go_wp2_with fail
    go_end0
    exact ⟨rfl, hB1, hb1, hk1⟩

end Go.Proofs.YtmbmlcnipncgnaaGreatDoor
