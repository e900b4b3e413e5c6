/-
  The walk of StrsSplits. Nothing is assumed.
-/
import Derived.Test.YtlpmaeemegphiaaDoorStSplit
import Derived.Deep.QuietTactic
import Derived.BigQuiet
namespace Go.Proofs.YtlpmaeemegphiaaDoor
open Go.RowKit

theorem halves (s : ByteArray) (i : Nat) : s.extract 0 i ++ s.extract i s.size = s := by
  rw [extract_str, extract_str]
  apply ByteArray.ext
  have hl : s.data.toList.length = s.size := by rw [Array.length_toList]; rfl
  simp only [str, ByteArray.data_append]
  apply Array.ext'
  simp only [Array.toList_append, List.drop_zero, Nat.sub_zero]
  rw [List.take_of_length_le (l := s.data.toList.drop i) (by simp [hl])]
  exact List.take_append_drop _ _
theorem half_size (s : ByteArray) (i : Nat) (h : i ≤ s.size) : (s.extract 0 i).size = i := by
  rw [extract_str, str_size]
  have hl : s.data.toList.length = s.size := by rw [Array.length_toList]; rfl
  simp [hl]
  omega

theorem half_size2 (s : ByteArray) (i : Nat) (h : s.size ≤ 200) : (s.extract i s.size).size ≤ 1000 := by
  rw [extract_str, str_size]
  have hl : s.data.toList.length = s.size := by rw [Array.length_toList]; rfl
  rw [List.length_take, List.length_drop, hl]
  omega
theorem below_drewN (w : World) (B n : Nat) : Below B w (w.drewN n) := ⟨rfl, rfl, rfl, Nat.le_refl _, fun _ _ => rfl⟩

set_option maxRecDepth 100000 in
set_option maxHeartbeats 1600000 in
theorem lawSplits_any (s : ByteArray) (w : World) (hE : Env w) :
    Calls Tryd.prog 10 #[.string s] w fun e w' => e = .returned (.bool true) ∧ Below w.heap.size w w' := by
  by_cases hl : 200 < (s.size : Int)
  · go_enter Tryd.func10, Tryd.ntmps10
    go_wp2_with fail
    refine (alive_any w hE).mono ?_
    rintro e w2 ⟨rfl, hb⟩
    go_wp2_with fail
    go_ret
    exact ⟨rfl, hb⟩
  have hs : s.size ≤ 200 := by omega
  go_enter Tryd.func10, Tryd.ntmps10
  go_wp2_with fail
  refine (splits_any s _ (by omega)).mono ?_
  rintro e w1 ⟨v, rfl, ⟨b, cap, rfl, hblt, hcell⟩, hb⟩
  have HE := Lib.hid (hE.later hb)
  go_wp2_with fail
  go_loopw [4] (fun j wr => ∃ k : Nat, k ≤ s.size + 1 ∧ j = .int .i64 k ∧ Below w1.heap.size w1 wr) (fun j _ => s.size + 1 - (intOf j).toNat)
  case atStart => exact ⟨0, Nat.zero_le _, rfl, Below.refl _ _⟩
  case round =>
    obtain ⟨k, hk, rfl, hbel⟩ := hrel
    by_cases hlt : k ≤ s.size
    · obtain ⟨c0, c1⟩ := hcell k hlt
      rw [← hbel.cell (p := ⟨b, _, none⟩) hblt] at c0 c1
      have hxy := halves s k
      have hxs := half_size s k hlt
      have hys := half_size2 s k hs
      generalize s.extract 0 k = X at *
      generalize s.extract k s.size = Y at *
      have hx1 : X.size ≤ 1000 := by omega
      have hneq : ((X ++ Y).toList == s.toList) = true := by rw [hxy]; exact beq_self_eq_true _
      have hsz : ((X.size : Int) == (k : Int)) = true := by rw [hxs]; exact beq_self_eq_true _
      clear hxy hxs
      have hadd : ∀ w, (Op.stringOp .add X Y).run Tryd.prog w = .ok (.string (X ++ Y)) w := fun w => run_string_add_sum w X Y (by omega)
      have hki0 : (0 : Int) ≤ (k : Int) := by omega
      have hki : (k : Int) < (s.size : Int) + 1 := by omega
      go_wp2_with fail
      go_quiet (fail)
      go_wp2_with fail
      go_roundw
      case rel => exact ⟨k + 1, by omega, by go_num, hbel.trans (below_drewN _ _ _)⟩
      case measure => simp [intOf]; omega
    · obtain rfl : k = s.size + 1 := by omega
      have hbw := hb.trans (hbel.mono hb.size)
      clear hcell
      go_wp2_with fail
      refine (alive_any _ (HE.out.later hbel)).mono ?_
      rintro e w2 ⟨rfl, hb2⟩
      go_wp2_with fail
      go_ret
      exact ⟨rfl, hbw.trans (hb2.mono hbw.size)⟩
end Go.Proofs.YtlpmaeemegphiaaDoor
