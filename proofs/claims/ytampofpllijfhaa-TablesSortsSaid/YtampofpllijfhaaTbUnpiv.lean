/-
  checkUnpivot and Unpivot of the package. Nothing is assumed.
-/
import Derived.Test.YtampofpllijfhaaTbTrans
import Derived.StillTailTactics
namespace Go.Proofs.Ytampofpllijfhaa
open Go.RowKit

/-- The error of Unpivot. -/
def unpE (t : Tab) (keep : Int) : Int :=
  if chkT t ≠ 0 then chkT t else if t.length = 0 then 7 else if keep < 0 ∨ (colsT t : Int) ≤ keep then 1 else if 8 < keep + 2 ∨ 8 < ((t.length : Int) - 1) * ((colsT t : Int) - keep) then 2 else 0
theorem unpE_chk {t : Tab} {keep : Int} (h : chkT t ≠ 0) : unpE t keep = chkT t := if_pos h
theorem unpE_none {t : Tab} {keep : Int} (h : chkT t = 0) (h0 : t.length = 0) : unpE t keep = 7 := by unfold unpE; rw [if_neg (by simp [h]), if_pos h0]
theorem unpE_range {t : Tab} {keep : Int} (h : chkT t = 0) (h0 : ¬ t.length = 0) (h1 : keep < 0 ∨ (colsT t : Int) ≤ keep) : unpE t keep = 1 := by unfold unpE; rw [if_neg (by simp [h]), if_neg h0, if_pos h1]
theorem unpE_size {t : Tab} {keep : Int} (h : chkT t = 0) (h0 : ¬ t.length = 0) (h1 : ¬ (keep < 0 ∨ (colsT t : Int) ≤ keep)) (h2 : 8 < keep + 2 ∨ 8 < ((t.length : Int) - 1) * ((colsT t : Int) - keep)) : unpE t keep = 2 := by unfold unpE; rw [if_neg (by simp [h]), if_neg h0, if_neg h1, if_pos h2]
theorem unpE_ok {t : Tab} {keep : Int} (h : chkT t = 0) (h0 : ¬ t.length = 0) (h1 : ¬ (keep < 0 ∨ (colsT t : Int) ≤ keep)) (h2 : ¬ (8 < keep + 2 ∨ 8 < ((t.length : Int) - 1) * ((colsT t : Int) - keep))) : unpE t keep = 0 := by unfold unpE; rw [if_neg (by simp [h]), if_neg h0, if_neg h1, if_neg h2]

set_option maxRecDepth 100000 in
set_option maxHeartbeats 1600000 in
theorem checkUnpivot_any (x : Value) (t : List (List ByteArray)) (keep : Int) (w : World) (P : Nat → Prop) (hx : HoldsT w P x t) (hk : I64 keep) :
    Calls Try.prog 64 #[x, .int .i64 keep] w fun e w' => e = .returned (.int .i64 (unpE t keep)) ∧ w = w' := by
  obtain ⟨hk1, hk2⟩ := hk
  have HC := Lib.hid (chk_any x t w P hx)
  have HK := Lib.hid (cols_any x t w P hx)
  obtain ⟨oa, ca, rfl, _, _⟩ := hx.form
  clear hx
  by_cases hc0 : chkT t = 0
  · have fc := neq_fT hc0
    have hc8 := colsT_le hc0
    have h8 := (chkT_rows hc0).1
    by_cases h0 : t.length = 0
    · have HE := Lib.hid (unpE_none (keep := keep) hc0 h0)
      have hb : ((t.length : Int) == 0) = true := by rw [h0]; rfl
      clear hc0 h0
      go_enter Try.func64, Try.ntmps64
      go_wp2_with fail
      refine HC.out.mono ?_
      rintro e w' ⟨rfl, rfl⟩
      go_wp2_with fail
      go_ret
      exact ⟨ret_int HE.out.symm, rfl⟩
    have hb : ((t.length : Int) == 0) = false := by rw [beq_eq_false_iff_ne]; omega
    by_cases h1 : keep < 0
    · have HE := Lib.hid (unpE_range hc0 h0 (.inl h1))
      clear hc0 h0
      go_enter Try.func64, Try.ntmps64
      go_wp2_with fail
      refine HC.out.mono ?_
      rintro e w' ⟨rfl, rfl⟩
      go_wp2_with fail
      go_ret
      exact ⟨ret_int HE.out.symm, rfl⟩
    by_cases h2 : (colsT t : Int) ≤ keep
    · have HE := Lib.hid (unpE_range hc0 h0 (.inr h2))
      clear hc0 h0
      go_enter Try.func64, Try.ntmps64
      go_wp2_with fail
      refine HC.out.mono ?_
      rintro e w' ⟨rfl, rfl⟩
      go_wp2_with fail
      refine HK.out.mono ?_
      rintro e w' ⟨rfl, rfl⟩
      go_wp2_with fail
      go_ret
      exact ⟨ret_int HE.out.symm, rfl⟩
    by_cases h3 : 8 < keep + 2
    · have HE := Lib.hid (unpE_size hc0 h0 (by omega) (.inl h3))
      clear hc0 h0
      go_enter Try.func64, Try.ntmps64
      go_wp2_with fail
      refine HC.out.mono ?_
      rintro e w' ⟨rfl, rfl⟩
      go_wp2_with fail
      refine HK.out.mono ?_
      rintro e w' ⟨rfl, rfl⟩
      go_wp2_with fail
      go_ret
      exact ⟨ret_int HE.out.symm, rfl⟩
    obtain ⟨n1, hn1⟩ : ∃ n1 : Nat, t.length = n1 + 1 := ⟨t.length - 1, by omega⟩
    obtain ⟨d, hd⟩ : ∃ d : Nat, (colsT t : Int) - keep = d := ⟨((colsT t : Int) - keep).toNat, by omega⟩
    have hmle : n1 * d ≤ 7 * 8 := Nat.mul_le_mul (by omega) (by omega)
    obtain ⟨M, hM⟩ : ∃ M : Nat, n1 * d = M := ⟨_, rfl⟩
    have hn : (t.length : Int) - 1 = n1 := by omega
    have hmul : ((n1 : Int)) * (d : Int) = (M : Int) := by rw [← hM]; simp
    rw [hM] at hmle
    clear hn1 hM
    by_cases h4 : 8 < (M : Int)
    · have HE := Lib.hid (unpE_size (keep := keep) hc0 h0 (by omega) (.inr (by rw [hn, hd, hmul]; exact h4)))
      clear hc0 h0
      go_enter Try.func64, Try.ntmps64
      go_wp2_with fail
      refine HC.out.mono ?_
      rintro e w' ⟨rfl, rfl⟩
      go_wp2_with fail
      refine HK.out.mono ?_
      rintro e w' ⟨rfl, rfl⟩
      go_wp2_with fail
      refine HK.out.mono ?_
      rintro e w' ⟨rfl, rfl⟩
      go_wp2_with fail
      go_ret
      exact ⟨ret_int HE.out.symm, rfl⟩
    · have HE := Lib.hid (unpE_ok (keep := keep) hc0 h0 (by omega) (by rw [hn, hd, hmul]; omega))
      clear hc0 h0
      go_enter Try.func64, Try.ntmps64
      go_wp2_with fail
      refine HC.out.mono ?_
      rintro e w' ⟨rfl, rfl⟩
      go_wp2_with fail
      refine HK.out.mono ?_
      rintro e w' ⟨rfl, rfl⟩
      go_wp2_with fail
      refine HK.out.mono ?_
      rintro e w' ⟨rfl, rfl⟩
      go_wp2_with fail
      go_ret
      exact ⟨ret_int HE.out.symm, rfl⟩
  · have fc := neq_tT hc0
    have HE := Lib.hid (unpE_chk (keep := keep) hc0)
    clear hc0
    go_enter Try.func64, Try.ntmps64
    go_wp2_with fail
    refine HC.out.mono ?_
    rintro e w' ⟨rfl, rfl⟩
    go_wp2_with fail
    go_ret
    exact ⟨ret_int HE.out.symm, rfl⟩

end Go.Proofs.Ytampofpllijfhaa
