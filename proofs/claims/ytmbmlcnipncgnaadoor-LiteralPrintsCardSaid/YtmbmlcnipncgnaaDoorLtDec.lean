/-
  Decimal of the reference. Nothing is assumed.
-/
import Derived.Test.YtmbmlcnipncgnaaDoorLtLit
import Derived.Test.YtmbmlcnipncgnaaDoorLtRefQ
import Derived.Test.YtmbmlcnipncgnaaDoorLtOwn
namespace Go.Proofs.YtmbmlcnipncgnaaDoor
open Go.RowKit

theorem heap_newD (w : World) (o : Obj) : (w.alloc o).heap[w.heap.size]? = some o := by
  show (w.heap.push o)[w.heap.size]? = some o
  rw [Array.getElem?_push, if_pos rfl]
theorem one_strD (w : World) (x : UInt8) : (convert 52 9 (.slice (some ⟨w.heap.size, 0, none⟩) 1 1)).run Tryd.prog (w.alloc (.cells #[.int .u8 (x.toNat : Int)] 5)) = .ok (.string (str [x])) (w.alloc (.cells #[.int .u8 (x.toNat : Int)] 5)) := by
  have h : OwnB (w.alloc (.cells #[.int .u8 (x.toNat : Int)] 5)) 0 (.slice (some ⟨w.heap.size, 0, none⟩) 1 1) [x] := ⟨rfl, .inr ⟨w.heap.size, 1, #[.int .u8 (x.toNat : Int)], rfl, Nat.zero_le _, heap_newD w _, Nat.le_refl _, by decide, rfl, rfl⟩⟩
  exact h.string

set_option maxRecDepth 100000 in
set_option maxHeartbeats 1600000 in
theorem rdec_pos (A : Nat) (hA : A ≤ 1000000) (w : World) :
    Calls Tryd.prog 33 #[.int .i64 (A : Int)] w fun e w' => e = .returned (.string (str (Lib.decDigits A))) ∧ Below w.heap.size w w' := by
  have h0 : ¬ ((A : Int) < 0) := by omega
  have HL : Hid ((Lib.decDigits A).length ≤ 21) := Lib.hid (by
    have := Lib.itoa_length_le (A : Int) (by omega) (by omega)
    unfold Lib.itoa at this
    rw [if_neg h0, Int.toNat_natCast] at this
    exact this)
  have HA := Lib.hid hA
  clear hA
  go_enter Tryd.func33, Tryd.ntmps33
  go_wp2_with fail
  go_loopw [0, 3] (fun nv sv wr => ∃ (a : Nat) (S : List UInt8), nv = .int .i64 (a : Int) ∧ sv = .string (str S) ∧ a ≤ A ∧ Hid (Lib.decDigits A = Lib.decDigits a ++ S) ∧ Below w.heap.size w wr) (fun nv _ _ => (intOf nv).toNat)
  case atStart => exact ⟨A, [], rfl, rfl, Nat.le_refl _, Lib.hid (by rw [List.append_nil]), Below.refl _ _⟩
  case round =>
    obtain ⟨a, S, rfl, rfl, haA, HD, hbel⟩ := hrel
    have hsz := str_size S
    have hS : S.length ≤ 21 := by
      have h1 := congrArg List.length HD.out
      have h2 := HL.out
      rw [List.length_append] at h1
      omega
    have ha0 : (0 : Int) ≤ (a : Int) := by omega
    have hab : (a : Int) ≤ 1000000 := by have := HA.out; omega
    by_cases h10 : a < 10
    · have h10' : ¬ (10 : Int) ≤ (a : Int) := by omega
      have HE : Hid (Lib.decDigits A = UInt8.ofNat (48 + a) :: S) := Lib.hid (by rw [HD.out, dec_small h10]; rfl)
      have hx8 : ((UInt8.ofNat (48 + a)).toNat : Int) = 48 + (a : Int) := by simp; omega
      have ha9 : (a : Int) ≤ 9 := by omega
      have hcv : (convert 52 9 (.slice (some ⟨wr.heap.size, 0, none⟩) 1 1)).run Tryd.prog (wr.alloc (.cells #[.int .u8 (48 + (a : Int))] 5)) = .ok (.string (str [UInt8.ofNat (48 + a)])) (wr.alloc (.cells #[.int .u8 (48 + (a : Int))] 5)) := by
        rw [← hx8]
        exact one_strD wr _
      obtain ⟨X, hX⟩ : ∃ X, str [UInt8.ofNat (48 + a)] = X := ⟨_, rfl⟩
      rw [hX] at hcv
      have hX1 : X.size = 1 := by rw [← hX]; rfl
      have hadd : ∀ w, (Op.stringOp .add X (str S)).run Tryd.prog w = .ok (.string (X ++ str S)) w := fun w => run_string_add_sum w X (str S) (by rw [hsz, hX1]; omega)
      have HX : Hid (X ++ str S = str (Lib.decDigits A)) := Lib.hid (by rw [← hX, lt_app, HE.out]; rfl)
      have HB := Lib.hid (hbel.alloc hbel.size (.cells #[.int .u8 (48 + (a : Int))] 5))
      clear h10 hX hx8 HD
      go_wp2_with fail
      go_ret
      exact ⟨ret_string HX.out, HB.out⟩
    · have h10' : (10 : Int) ≤ (a : Int) := by omega
      have HE : Hid (Lib.decDigits A = Lib.decDigits (a / 10) ++ (UInt8.ofNat (48 + a % 10) :: S)) := Lib.hid (by rw [HD.out, dec_big h10, List.append_assoc]; rfl)
      have hx8 : ((UInt8.ofNat (48 + a % 10)).toNat : Int) = 48 + (a : Int) % 10 := by simp; omega
      have hm1 : (a : Int) % 10 ≤ 9 := by omega
      have hm0 : (0 : Int) ≤ (a : Int) % 10 := by omega
      have hcv : (convert 52 9 (.slice (some ⟨wr.heap.size, 0, none⟩) 1 1)).run Tryd.prog (wr.alloc (.cells #[.int .u8 (48 + (a : Int) % 10)] 5)) = .ok (.string (str [UInt8.ofNat (48 + a % 10)])) (wr.alloc (.cells #[.int .u8 (48 + (a : Int) % 10)] 5)) := by
        rw [← hx8]
        exact one_strD wr _
      obtain ⟨X, hX⟩ : ∃ X, str [UInt8.ofNat (48 + a % 10)] = X := ⟨_, rfl⟩
      rw [hX] at hcv
      have hX1 : X.size = 1 := by rw [← hX]; rfl
      have hadd : ∀ w, (Op.stringOp .add X (str S)).run Tryd.prog w = .ok (.string (X ++ str S)) w := fun w => run_string_add_sum w X (str S) (by rw [hsz, hX1]; omega)
      have HX : Hid (X ++ str S = str (UInt8.ofNat (48 + a % 10) :: S)) := Lib.hid (by rw [← hX, lt_app]; rfl)
      have HB := Lib.hid (hbel.alloc hbel.size (.cells #[.int .u8 (48 + (a : Int) % 10)] 5))
      have HQ : Hid (((a / 10 : Nat) : Int) = (a : Int) / 10) := Lib.hid (Int.natCast_ediv a 10)
      have HM : Hid (a / 10 < a) := Lib.hid (by omega)
      clear h10 hX hx8 HD
      go_wp2_with fail
      go_roundw
      case rel => exact ⟨a / 10, UInt8.ofNat (48 + a % 10) :: S, by rw [HQ.out], by rw [HX.out], by have := HM.out; omega, HE, HB.out⟩
      case measure => simp [intOf]; have := HM.out; omega

set_option maxRecDepth 100000 in
theorem rdec_any (n : Int) (h0 : -1000000 ≤ n) (h1 : n ≤ 1000000) (w : World) :
    Calls Tryd.prog 33 #[.int .i64 n] w fun e w' => e = .returned (.string (str (Lib.itoa n))) ∧ Below w.heap.size w w' := by
  by_cases h : n < 0
  · have HC := rdec_pos n.natAbs (by omega)
    have ha : ((n.natAbs : Nat) : Int) = -n := by omega
    rw [ha] at HC
    have HI : Hid (Lib.itoa n = 45 :: Lib.decDigits n.natAbs) := Lib.hid (by unfold Lib.itoa; rw [if_pos h])
    have hl : (Lib.decDigits n.natAbs).length ≤ 21 := by
      have := Lib.itoa_length_le n (by omega) (by omega)
      rw [HI.out, List.length_cons] at this
      omega
    have hadd : ∀ w, (Op.stringOp .add ⟨#[45]⟩ (str (Lib.decDigits n.natAbs))).run Tryd.prog w = .ok (.string (⟨#[45]⟩ ++ str (Lib.decDigits n.natAbs))) w := fun w => run_string_add_sum w _ _ (by rw [str_size]; show 1 + _ ≤ _; omega)
    have HX : Hid ((⟨#[45]⟩ : ByteArray) ++ str (Lib.decDigits n.natAbs) = str (Lib.itoa n)) := Lib.hid (by rw [HI.out]; exact lt_app [45] _)
    clear ha hl
    go_enter Tryd.func33, Tryd.ntmps33
    go_wp2_with fail
    refine (HC _).mono ?_
    rintro e w1 ⟨rfl, hb1⟩
    go_wp2_with fail
    go_ret
    exact ⟨ret_string HX.out, hb1⟩
  · have HC := rdec_pos n.toNat (by omega) w
    have ha : ((n.toNat : Nat) : Int) = n := by omega
    rw [ha] at HC
    have hi : Lib.itoa n = Lib.decDigits n.toNat := by unfold Lib.itoa; rw [if_neg h]
    rw [hi]
    exact HC
end Go.Proofs.YtmbmlcnipncgnaaDoor
