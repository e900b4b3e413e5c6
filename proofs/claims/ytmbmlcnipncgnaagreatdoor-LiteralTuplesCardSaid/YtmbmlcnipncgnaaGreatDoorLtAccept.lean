/-
  accept of the package's quotation. Nothing is assumed.
-/
import Derived.Test.YtmbmlcnipncgnaaGreatDoorLtQuot
namespace Go.Proofs.YtmbmlcnipncgnaaGreatDoor
open Go.RowKit

theorem qout_bool {base q least most : Nat} {any : Bool} {w w' : World} {r : Option (QSt × List UInt8)} {e : Ending} (h : QOut base q least most any w r e w') : ∃ bq, e = .returned (.bool bq) := by
  have := h.2
  split at this
  · exact ⟨_, this⟩
  · exact ⟨_, this.1⟩
theorem qstep_hex1 (most : Nat) (any : Bool) (C : List UInt8) (c d : Nat) (h : hexv c = some d) : qstep most any C c .hex1 = if d < 2 ∨ 7 ≤ d then some (.hex2 d, C) else none := by
  simp only [qstep, h]
theorem qstep_hex1n (most : Nat) (any : Bool) (C : List UInt8) (c : Nat) (h : hexv c = none) : qstep most any C c .hex1 = none := by
  simp only [qstep, h]
theorem qstep_hex2 (most : Nat) (any : Bool) (C : List UInt8) (c d k : Nat) (h : hexv c = some d) : qstep most any C c (.hex2 k) = if k * 16 + d < 32 ∨ 126 < k * 16 + d then some (.whole, C ++ [UInt8.ofNat (k * 16 + d)]) else none := by
  simp only [qstep, h]
theorem qstep_hex2n (most : Nat) (any : Bool) (C : List UInt8) (c k : Nat) (h : hexv c = none) : qstep most any C c (.hex2 k) = none := by
  simp only [qstep, h]
theorem hexDigit_some (c d : Nat) (h : hexv c = some d) (w : World) : Calls Tryz.prog 83 #[.int .i32 (c : Int)] w fun e w' => e = .returned (.tuple #[.int .u8 (d : Int), .bool true]) ∧ w' = w := by
  have := hexDigit_any c w
  rw [h] at this
  exact this
theorem hexDigit_none (c : Nat) (h : hexv c = none) (w : World) : Calls Tryz.prog 83 #[.int .i32 (c : Int)] w fun e w' => e = .returned (.tuple #[.int .u8 0, .bool false]) ∧ w' = w := by
  have := hexDigit_any c w
  rw [h] at this
  exact this

theorem or_hex : ∀ k : Nat, k < 16 → ∀ d : Nat, d < 16 → bits BinOp.or IntKind.u8 ((k : Int) * 16) (d : Int) = (k : Int) * 16 + (d : Int) := by decide +kernel
set_option maxRecDepth 100000 in
set_option maxHeartbeats 1600000 in
theorem accept_any (w : World) (base q least most : Nat) (any : Bool) (C : List UInt8) (st : QSt) (c : Nat) (h : QD w base q least most any C st) (hm : most ≤ 9223372036854775807) (hb : base ≤ w.heap.size) (hC : C.length ≤ 10000000) :
    Calls Tryz.prog 62 #[.pointer (some ⟨q, 0, none⟩), .int .i32 (c : Int)] w (QOut base q least most any w (qstep most any C c st)) := by
  cases st with
  | whole =>
    have HB := Lib.hid (begin_any w base q least most any C c h hm hb hC)
    obtain ⟨ao, cap, hh, h6, -, -, -, -⟩ := h
    obtain ⟨c0, c1, c2, c3, c4, c5⟩ := h6.cells
    rw [show QSt.num .whole = 0 from rfl] at c4
    clear h6
    go_enter Tryz.func62, Tryz.ntmps62
    go_wp2_with fail
    refine HB.out.mono ?_
    rintro e w1 hq
    have HQ := Lib.hid hq
    obtain ⟨bq, rfl⟩ := qout_bool hq
    clear hq
    go_wp2_with fail
    go_ret
    exact HQ.out
  | esc =>
    have HB := Lib.hid (escape_any w base q least most any C c h hm hb hC)
    obtain ⟨ao, cap, hh, h6, -, -, -, -⟩ := h
    obtain ⟨c0, c1, c2, c3, c4, c5⟩ := h6.cells
    rw [show QSt.num .esc = 1 from rfl] at c4
    clear h6
    go_enter Tryz.func62, Tryz.ntmps62
    go_wp2_with fail
    refine HB.out.mono ?_
    rintro e w1 hq
    have HQ := Lib.hid hq
    obtain ⟨bq, rfl⟩ := qout_bool hq
    clear hq
    go_wp2_with fail
    go_ret
    exact HQ.out
  | hex1 =>
    obtain ⟨ao, cap, hh, h6, ho, hqb, -, hcl⟩ := h
    obtain ⟨c0, c1, c2, c3, c4, c5⟩ := h6.cells
    rw [show QSt.num .hex1 = 2 from rfl] at c4
    cases hx : hexv c with
    | none =>
      have HX := Lib.hid (hexDigit_none c hx)
      have HS := Lib.hid (qstep_hex1n most any C c hx)
      clear h6 ho hx
      go_enter Tryz.func62, Tryz.ntmps62
      go_wp2_with fail
      refine (HX.out _).mono ?_
      rintro e w' ⟨rfl, hw'⟩; obtain rfl := hw'.symm
      go_wp2_with fail
      go_ret
      rw [HS.out]
      exact ⟨Kp.refl base (Is q) w, rfl⟩
    | some d =>
      have HX := Lib.hid (hexDigit_some c d hx)
      have HS := Lib.hid (qstep_hex1 most any C c d hx)
      have hd := hexv_lt hx
      have h61 := (h6.set5 (.int .u8 (d : Int))).set4 (.int .i64 3)
      have f4 := h6.free 4
      have f5 := h6.free 5
      have H6 := Lib.hid h61
      have HO := Lib.hid ho
      clear h6 ho h61 hx
      by_cases h2 : d < 2
      · have h2' : (d : Int) < 2 := by omega
        go_enter Tryz.func62, Tryz.ntmps62
        go_wp2_with fail
        refine (HX.out _).mono ?_
        rintro e w' ⟨rfl, hw'⟩; obtain rfl := hw'.symm
        go_wp2_with fail
        go_ret
        rw [HS.out, if_pos (.inl h2)]
        exact ⟨((Kp.refl base (Is q) w).set ⟨q, 5, none⟩ (Is.self q) _).set ⟨q, 4, none⟩ (Is.self q) _, rfl, ao, cap, d, H6.out, ownsRow_setCell_below (a := ⟨q, 4, none⟩) (ownsRow_setCell_below (a := ⟨q, 5, none⟩) HO.out hqb _) hqb _, hqb, ⟨rfl, hd⟩, by simpa [QSt.more] using hcl⟩
      · have h2' : ¬ (d : Int) < 2 := by omega
        by_cases h7 : 7 ≤ d
        · have h7' : (7 : Int) ≤ (d : Int) := by omega
          go_enter Tryz.func62, Tryz.ntmps62
          go_wp2_with fail
          refine (HX.out _).mono ?_
          rintro e w' ⟨rfl, hw'⟩; obtain rfl := hw'.symm
          go_wp2_with fail
          go_ret
          rw [HS.out, if_pos (.inr h7)]
          exact ⟨((Kp.refl base (Is q) w).set ⟨q, 5, none⟩ (Is.self q) _).set ⟨q, 4, none⟩ (Is.self q) _, rfl, ao, cap, d, H6.out, ownsRow_setCell_below (a := ⟨q, 4, none⟩) (ownsRow_setCell_below (a := ⟨q, 5, none⟩) HO.out hqb _) hqb _, hqb, ⟨rfl, hd⟩, by simpa [QSt.more] using hcl⟩
        · have h7' : ¬ (7 : Int) ≤ (d : Int) := by omega
          go_enter Tryz.func62, Tryz.ntmps62
          go_wp2_with fail
          refine (HX.out _).mono ?_
          rintro e w' ⟨rfl, hw'⟩; obtain rfl := hw'.symm
          go_wp2_with fail
          go_ret
          rw [HS.out, if_neg (by omega)]
          refine ⟨((Kp.refl base (Is q) w).set ⟨q, 5, none⟩ (Is.self q) _).set ⟨q, 4, none⟩ (Is.self q) _, ?_⟩
          exact ret_bool (by simp; omega)
  | hex2 k =>
    have hq0 := h
    obtain ⟨ao, cap, hh, h6, ho, hqb, ⟨hhk, hk16⟩, hcl⟩ := h
    subst hhk
    obtain ⟨c0, c1, c2, c3, c4, c5⟩ := h6.cells
    rw [show QSt.num (.hex2 hh) = 3 from rfl] at c4
    cases hx : hexv c with
    | none =>
      have HX := Lib.hid (hexDigit_none c hx)
      have HS := Lib.hid (qstep_hex2n most any C c hh hx)
      clear h6 ho hx hq0
      go_enter Tryz.func62, Tryz.ntmps62
      go_wp2_with fail
      refine (HX.out _).mono ?_
      rintro e w' ⟨rfl, hw'⟩; obtain rfl := hw'.symm
      go_wp2_with fail
      go_ret
      rw [HS.out]
      exact ⟨Kp.refl base (Is q) w, rfl⟩
    | some d =>
      have HX := Lib.hid (hexDigit_some c d hx)
      have HS := Lib.hid (qstep_hex2 most any C c d hh hx)
      have hd := hexv_lt hx
      have hlm : C.length < most := by simp [QSt.more] at hcl; omega
      have HA1 := add_any w base q least most any C _ (UInt8.ofNat (hh * 16 + d)) hq0 hm hb hC
      have hcb : ((UInt8.ofNat (hh * 16 + d)).toNat : Int) = ((hh * 16 + d : Nat) : Int) := by simp; omega
      rw [hcb, if_pos hlm] at HA1
      have HA1 := Lib.hid HA1
      have hor := or_hex hh hk16 d hd
      have hb1 : (hh : Int) ≤ 15 := by omega
      have hb2 : (d : Int) ≤ 15 := by omega
      have ecb : ((hh * 16 + d : Nat) : Int) = (hh : Int) * 16 + (d : Int) := by omega
      rw [ecb] at HA1
      clear h6 ho hx hq0 hcb
      by_cases hp : 32 ≤ hh * 16 + d ∧ hh * 16 + d ≤ 126
      · have HP := Lib.hid (fun w => (print_any ((hh : Int) * 16 + (d : Int)) w))
        have hpb : (decide (32 ≤ (hh : Int) * 16 + (d : Int)) && decide ((hh : Int) * 16 + (d : Int) ≤ 126)) = true := by rw [Bool.and_eq_true, decide_eq_true_eq, decide_eq_true_eq]; omega
        have HP1 := HP.out
        rw [hpb] at HP1
        have HP1 := Lib.hid HP1
        clear HP hpb ecb
        go_enter Tryz.func62, Tryz.ntmps62
        go_wp2_with fail
        refine (HX.out _).mono ?_
        rintro e w' ⟨rfl, hw'⟩; obtain rfl := hw'.symm
        go_wp2_with fail
        refine (HP1.out _).mono ?_
        rintro e w' ⟨rfl, hw'⟩; obtain rfl := hw'.symm
        go_wp2_with fail
        go_ret
        rw [HS.out, if_neg (by omega)]
        exact ⟨Kp.refl base (Is q) w, rfl⟩
      · have HP := Lib.hid (fun w => (print_any ((hh : Int) * 16 + (d : Int)) w))
        have hpb : (decide (32 ≤ (hh : Int) * 16 + (d : Int)) && decide ((hh : Int) * 16 + (d : Int) ≤ 126)) = false := by rw [Bool.and_eq_false_iff, decide_eq_false_iff_not, decide_eq_false_iff_not]; omega
        have HP1 := HP.out
        rw [hpb] at HP1
        have HP1 := Lib.hid HP1
        clear HP hpb ecb
        go_enter Tryz.func62, Tryz.ntmps62
        go_wp2_with fail
        refine (HX.out _).mono ?_
        rintro e w' ⟨rfl, hw'⟩; obtain rfl := hw'.symm
        go_wp2_with fail
        refine (HP1.out _).mono ?_
        rintro e w' ⟨rfl, hw'⟩; obtain rfl := hw'.symm
        go_wp2_with fail
        refine HA1.out.mono ?_
        rintro e w1 hq
        have HQ := Lib.hid hq
        obtain ⟨bq, rfl⟩ := qout_bool hq
        clear hq
        go_wp2_with fail
        go_ret
        rw [HS.out, if_pos (by omega)]
        exact HQ.out
end Go.Proofs.YtmbmlcnipncgnaaGreatDoor
