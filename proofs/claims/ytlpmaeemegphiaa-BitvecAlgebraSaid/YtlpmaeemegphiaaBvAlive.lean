/-
  The examples of the chapter hold. Nothing is assumed.
-/
import Derived.Test.YtlpmaeemegphiaaBvNone
namespace Go.Proofs.Ytlpmaeemegphiaa
open Go.RowKit

theorem sol_ex : sol 5 4 2 = [2, 130] := by decide +kernel
theorem text_ex : bvText 5 = ⟨#[48, 48, 48, 48, 48, 49, 48, 49]⟩ := by decide +kernel
theorem add_ex (w : World) : Calls Try.prog 21 #[.int .i64 200, .int .i64 100] w fun e w' => e = .returned (.int .i64 44) ∧ Below w.heap.size w w' := add_any 200 100 w
theorem sub_ex (w : World) : Calls Try.prog 23 #[.int .i64 0, .int .i64 1] w fun e w' => e = .returned (.int .i64 255) ∧ Below w.heap.size w w' := sub_any 0 1 w
theorem arith_ex1 (w : World) : Calls Try.prog 31 #[.int .i64 128, .int .i64 1] w fun e w' => e = .returned (.int .i64 192) ∧ Below w.heap.size w w' := arith_any 128 1 w
theorem arith_ex9 (w : World) : Calls Try.prog 31 #[.int .i64 128, .int .i64 9] w fun e w' => e = .returned (.int .i64 255) ∧ Below w.heap.size w w' := arith_any 128 9 w
theorem solve_ex (w : World) : Calls Try.prog 38 #[.string ⟨#[98, 109, 117, 108]⟩, .int .i64 4, .int .i64 2] w fun e w' => RetI w.heap.size [2, 130] e w' ∧ Below w.heap.size w w' := by
  have := solve5_any 4 2 w
  rw [sol_ex] at this
  exact this
theorem text5_ex (w : World) : Calls Try.prog 35 #[.int .i64 5] w fun e w' => e = .returned (.string ⟨#[48, 48, 48, 48, 48, 49, 48, 49]⟩) ∧ Below w.heap.size w w' := by
  have := text_any 5 w
  rw [text_ex] at this
  exact this

set_option maxRecDepth 100000 in
set_option maxHeartbeats 1600000 in
theorem alive_any (w : World) : Calls Try.prog 20 #[] w fun e w' => e = .returned (.bool true) ∧ Below w.heap.size w w' := by
  have hb : Below w.heap.size w w := Below.refl _ _
  go_enter Try.func20, Try.ntmps20
  go_wp2_with fail
  refine (add_ex _).mono ?_
  rintro e w1 ⟨rfl, hb1⟩; replace hb := hb.trans (hb1.mono hb.size); clear hb1
  go_wp2_with fail
  refine (sub_ex _).mono ?_
  rintro e w2 ⟨rfl, hb1⟩; replace hb := hb.trans (hb1.mono hb.size); clear hb1
  go_wp2_with fail
  refine (arith_ex1 _).mono ?_
  rintro e w3 ⟨rfl, hb1⟩; replace hb := hb.trans (hb1.mono hb.size); clear hb1
  go_wp2_with fail
  refine (arith_ex9 _).mono ?_
  rintro e w4 ⟨rfl, hb1⟩; replace hb := hb.trans (hb1.mono hb.size); clear hb1
  go_wp2_with fail
  refine (solve_ex _).mono ?_
  rintro e w5 ⟨⟨v, rfl, hown⟩, hb1⟩; replace hb := hb.trans (hb1.mono hb.size); clear hb1
  have hh := hown.holds (by simp)
  have HH := Lib.hid hh; clear hown hh
  go_wp2_with fail
  have h2 : HoldsI (w5.alloc (.cells #[.int .i64 2, .int .i64 130] 3)) (w5.heap.size + 1) (.slice (some ⟨w5.heap.size, 0, none⟩) 2 2) [2, 130] := by
    refine ⟨_, 2, rfl, by simp, fun i z hz => ⟨_, 0, rfl, by omega, ?_⟩⟩
    rw [World.cell?_alloc_at _ _ _ _ rfl]
    match i, hz with
    | 0, hz => simp at hz; subst hz; rfl
    | 1, hz => simp at hz; subst hz; rfl
    | i + 2, hz => simp at hz
  have HH2 := Lib.hid h2; clear h2
  refine (ints_eq v _ [2, 130] _ (w5.heap.size + 1) ((HH.out.later (below1 _ _)).mono (by omega)) HH2.out (by simp)).mono ?_
  rintro e w6 ⟨rfl, hb1⟩; replace hb := (hb.alloc hb.size _).trans (hb1.mono (by have := hb.size; simp; omega)); clear hb1
  go_wp2_with fail
  refine (text5_ex _).mono ?_
  rintro e w7 ⟨rfl, hb1⟩; replace hb := hb.trans (hb1.mono hb.size); clear hb1
  go_wp2_with fail
  go_ret
  exact ⟨rfl, hb⟩

end Go.Proofs.Ytlpmaeemegphiaa
