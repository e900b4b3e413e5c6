/-
  checkBoth of the package, both of the reference; Stack of the package. Nothing is assumed.
-/
import Derived.Test.YtampofpllijfhaaTbDup
import Derived.Test.YtampofpllijfhaaTbUnpB
namespace Go.Proofs.Ytampofpllijfhaa
open Go.RowKit

def bothE (a b : Tab) : Int := if chkT a = 0 then chkT b else chkT a
set_option maxHeartbeats 800000 in
theorem checkBoth_any (x y : Value) (a b : List (List ByteArray)) (w : World) (P : Nat → Prop) (hx : HoldsT w P x a) (hy : HoldsT w P y b) :
    Calls Try.prog 69 #[x, y] w fun e w' => e = .returned (.int .i64 (bothE a b)) ∧ w = w' := by
  have HA := Lib.hid (chk_any x a w P hx)
  have HB := Lib.hid (chk_any y b w P hy)
  obtain ⟨oa, ca, rfl, _, _⟩ := hx.form
  obtain ⟨ob, cb, rfl, _, _⟩ := hy.form
  clear hx hy
  by_cases h : chkT a = 0
  · have fc := neq_fT h
    have HE : Hid (bothE a b = chkT b) := Lib.hid (if_pos h)
    clear h
    go_enter Try.func69, Try.ntmps69
    go_wp2_with fail
    refine HA.out.mono ?_
    rintro e w' ⟨rfl, rfl⟩
    go_wp2_with fail
    refine HB.out.mono ?_
    rintro e w' ⟨rfl, rfl⟩
    go_wp2_with fail
    go_ret
    exact ⟨ret_int HE.out.symm, rfl⟩
  · have fc := neq_tT h
    have HE : Hid (bothE a b = chkT a) := Lib.hid (if_neg h)
    clear h
    go_enter Try.func69, Try.ntmps69
    go_wp2_with fail
    refine HA.out.mono ?_
    rintro e w' ⟨rfl, rfl⟩
    go_wp2_with fail
    go_ret
    exact ⟨ret_int HE.out.symm, rfl⟩
set_option maxHeartbeats 800000 in
theorem rboth_any (x y : Value) (a b : List (List ByteArray)) (w : World) (B : Nat) (hx : HoldsT w (· < B) x a) (hy : HoldsT w (· < B) y b) (hB : B ≤ w.heap.size) :
    Calls Try.prog 70 #[x, y] w fun e w' => e = .returned (.int .i64 (bothE a b)) ∧ Below w.heap.size w w' := by
  have HA := Lib.hid (rchk_any x a w B hx hB)
  have HY := Lib.hid hy
  obtain ⟨oa, ca, rfl, _, _⟩ := hx.form
  obtain ⟨ob, cb, rfl, _, _⟩ := hy.form
  clear hx hy
  by_cases h : chkT a = 0
  · have fc := neq_fT h
    have HE : Hid (bothE a b = chkT b) := Lib.hid (if_pos h)
    clear h
    go_enter Try.func70, Try.ntmps70
    go_wp2_with fail
    refine HA.out.mono ?_
    rintro e w1 ⟨rfl, hb1⟩
    have HB := Lib.hid (rchk_any _ b w1 B (HY.out.later (hb1.mono hB)) (Nat.le_trans hB hb1.size))
    go_wp2_with fail
    refine HB.out.mono ?_
    rintro e w2 ⟨rfl, hb2⟩
    have hb3 := hb1.trans (hb2.mono hb1.size)
    go_wp2_with fail
    go_ret
    exact ⟨ret_int HE.out.symm, hb3⟩
  · have fc := neq_tT h
    have HE : Hid (bothE a b = chkT a) := Lib.hid (if_neg h)
    clear h
    go_enter Try.func70, Try.ntmps70
    go_wp2_with fail
    refine HA.out.mono ?_
    rintro e w1 ⟨rfl, hb1⟩
    go_wp2_with fail
    go_ret
    exact ⟨ret_int HE.out.symm, hb1⟩

/-- The error of Stack. -/
def stackE (a b : Tab) : Int := if bothE a b ≠ 0 then bothE a b else if 0 < a.length ∧ 0 < b.length ∧ colsT a ≠ colsT b then 4 else if 8 < a.length + b.length then 2 else 0
def stackV (a b : Tab) : Tab := if stackE a b = 0 then a ++ b else []
theorem stackE_both {a b : Tab} (h : bothE a b ≠ 0) : stackE a b = bothE a b := if_pos h
theorem stackE_form {a b : Tab} (h : bothE a b = 0) (h1 : 0 < a.length ∧ 0 < b.length ∧ colsT a ≠ colsT b) : stackE a b = 4 := by unfold stackE; rw [if_neg (by simp [h]), if_pos h1]
theorem stackE_size {a b : Tab} (h : bothE a b = 0) (h1 : ¬ (0 < a.length ∧ 0 < b.length ∧ colsT a ≠ colsT b)) (h2 : 8 < a.length + b.length) : stackE a b = 2 := by unfold stackE; rw [if_neg (by simp [h]), if_neg h1, if_pos h2]
theorem stackE_ok {a b : Tab} (h : bothE a b = 0) (h1 : ¬ (0 < a.length ∧ 0 < b.length ∧ colsT a ≠ colsT b)) (h2 : ¬ 8 < a.length + b.length) : stackE a b = 0 := by unfold stackE; rw [if_neg (by simp [h]), if_neg h1, if_neg h2]
theorem bothE_ok {a b : Tab} (h : bothE a b = 0) : chkT a = 0 ∧ chkT b = 0 := by
  unfold bothE at h
  split at h
  · exact ⟨by assumption, h⟩
  · exact absurd h (by assumption)
theorem tabs_two (w : World) (B : Nat) (x y : Value) (a b : Tab) (h : HoldsT w (· < B) x a) (h' : HoldsT w (· < B) y b) (hB : B ≤ w.heap.size) :
    HoldsP (w.alloc (.cells #[x, y] 22)) (· < w.heap.size + 1) (.slice (some ⟨w.heap.size, 0, none⟩) 2 2) [a, b] := by
  have hb1 := below1 w (.cells #[x, y] 22)
  refine ⟨_, 2, rfl, Nat.le_refl _, by omega, fun i y hi => ?_⟩
  match i, hi with
  | 0, hi =>
    simp at hi
    subst hi
    exact ⟨_, 0, x, rfl, by omega, by simp, (h.later (hb1.mono hB)).mono (by omega)⟩
  | 1, hi =>
    simp at hi
    subst hi
    exact ⟨_, 0, _, rfl, by omega, by simp, (h'.later (hb1.mono hB)).mono (by omega)⟩
  | i + 2, hi => simp at hi

set_option maxRecDepth 100000 in
set_option maxHeartbeats 1600000 in
theorem Stack_any (x y : Value) (a b : List (List ByteArray)) (w : World) (B : Nat) (hx : HoldsT w (· < B) x a) (hy : HoldsT w (· < B) y b) (hB : B ≤ w.heap.size) :
    Calls Try.prog 37 #[x, y] w fun e w' => RetTE w w' (stackV a b) (stackE a b) e ∧ Below w.heap.size w w' := by
  have HC := Lib.hid (checkBoth_any x y a b w (· < B) hx hy)
  have HA := Lib.hid (cols_any x a w (· < B) hx)
  have HB := Lib.hid (cols_any y b w (· < B) hy)
  have HX := Lib.hid hx
  have HY := Lib.hid hy
  obtain ⟨oa, ca, rfl, _, _⟩ := hx.form
  obtain ⟨ob, cb, rfl, _, _⟩ := hy.form
  clear hx hy
  by_cases h : bothE a b = 0
  · have fc := neq_fT h
    obtain ⟨h1, h2⟩ := bothE_ok h
    have la := (chkT_rows h1).1
    have lb := (chkT_rows h2).1
    have hca := colsT_le h1
    have hcb := colsT_le h2
    have HRA := Lib.hid (chkT_rows h1).2
    have HRB := Lib.hid (chkT_rows h2).2
    by_cases hf : 0 < a.length ∧ 0 < b.length ∧ colsT a ≠ colsT b
    · have HV : Hid (stackE a b = 4 ∧ stackV a b = []) := Lib.hid ⟨stackE_form h hf, by unfold stackV; rw [stackE_form h hf]; rfl⟩
      obtain ⟨q1, q2, q3⟩ := hf
      have i1 : (0 : Int) < (a.length : Int) := by omega
      have i2 : (0 : Int) < (b.length : Int) := by omega
      have i3 : ((colsT a : Int) != (colsT b : Int)) = true := by rw [bne_iff_ne]; omega
      clear h h1 h2 q1 q2 q3
      go_enter Try.func37, Try.ntmps37
      go_wp2_with fail
      refine HC.out.mono ?_
      rintro e w' ⟨rfl, rfl⟩
      go_wp2_with fail
      refine HA.out.mono ?_
      rintro e w' ⟨rfl, rfl⟩
      go_wp2_with fail
      refine HB.out.mono ?_
      rintro e w' ⟨rfl, rfl⟩
      go_wp2_with fail
      go_ret2
      exact ⟨RetTE.nil HV.out.2 HV.out.1.symm, Below.refl _ _⟩
    · by_cases hs : 8 < a.length + b.length
      · have HV : Hid (stackE a b = 2 ∧ stackV a b = []) := Lib.hid ⟨stackE_size h hf hs, by unfold stackV; rw [stackE_size h hf hs]; rfl⟩
        have i0 : 8 < (a.length : Int) + (b.length : Int) := by omega
        have i1 : (0 : Int) < (a.length : Int) := by omega
        have i2 : (0 : Int) < (b.length : Int) := by omega
        have i3 : ((colsT a : Int) != (colsT b : Int)) = false := by rw [bne_eq_false_iff_eq]; omega
        clear h h1 h2 hf hs
        go_enter Try.func37, Try.ntmps37
        go_wp2_with fail
        refine HC.out.mono ?_
        rintro e w' ⟨rfl, rfl⟩
        go_wp2_with fail
        refine HA.out.mono ?_
        rintro e w' ⟨rfl, rfl⟩
        go_wp2_with fail
        refine HB.out.mono ?_
        rintro e w' ⟨rfl, rfl⟩
        go_wp2_with fail
        go_ret2
        exact ⟨RetTE.nil HV.out.2 HV.out.1.symm, Below.refl _ _⟩
      · have HV : Hid (stackE a b = 0 ∧ stackV a b = a ++ b) := Lib.hid ⟨stackE_ok h hf hs, by unfold stackV; rw [stackE_ok h hf hs, if_pos rfl]⟩
        have i0 : ¬ 8 < (a.length : Int) + (b.length : Int) := by omega
        have HP := Lib.hid (tabs_two w B _ _ a b HX.out HY.out hB)
        have hfl : [a, b].flatten = a ++ b := by simp
        have HD := Lib.hid (duplicate_any _ [a, b] _ (w.heap.size + 1) HP.out (by simp) (by rw [hfl, List.length_append]; omega) (by simp) (fun t ht r hr => by
          simp at ht
          rcases ht with rfl | rfl
          · have := (HRA.out r hr).2.2.1; omega
          · have := (HRB.out r hr).2.2.1; omega))
        rw [hfl] at HD
        have fin : Hid (∀ w2 v, AccD w2 (w.heap.size + 1) v (a ++ b) → Below (w.heap.size + 1) (w.alloc (.cells #[.slice oa a.length ca, .slice ob b.length cb] 22)) w2 → RetTE w w2 (stackV a b) (stackE a b) (.returned (.tuple #[v, .int .i64 0])) ∧ Below w.heap.size w w2) := Lib.hid (fun w2 v ho hb => by
          refine ⟨RetTE.mk (ho.toT.holds.keep (fun _ hp _ => ⟨by have := hp.1; omega, hp.2⟩) (fun _ _ _ _ => rfl)) HV.out.2.symm HV.out.1.symm, (below1 w _).trans (hb.mono (by omega))⟩)
        by_cases j1 : 0 < (a.length : Int)
        · by_cases j2 : 0 < (b.length : Int)
          · have i3 : ((colsT a : Int) != (colsT b : Int)) = false := by rw [bne_eq_false_iff_eq]; omega
            clear h h1 h2 hf hs hfl
            go_enter Try.func37, Try.ntmps37
            go_wp2_with fail
            refine HC.out.mono ?_
            rintro e w' ⟨rfl, rfl⟩
            go_wp2_with fail
            refine HA.out.mono ?_
            rintro e w' ⟨rfl, rfl⟩
            go_wp2_with fail
            refine HB.out.mono ?_
            rintro e w' ⟨rfl, rfl⟩
            go_wp2_with fail
            refine HD.out.mono ?_
            rintro e w2 ⟨⟨v, rfl, ho⟩, hb2⟩
            have HO := Lib.hid ho
            have HB2 := Lib.hid hb2
            clear ho hb2
            go_wp2_with fail
            go_ret2
            exact fin.out _ _ (by simpa using HO.out) (by simpa using HB2.out)
          · clear h h1 h2 hf hs hfl
            go_enter Try.func37, Try.ntmps37
            go_wp2_with fail
            refine HC.out.mono ?_
            rintro e w' ⟨rfl, rfl⟩
            go_wp2_with fail
            refine HD.out.mono ?_
            rintro e w2 ⟨⟨v, rfl, ho⟩, hb2⟩
            have HO := Lib.hid ho
            have HB2 := Lib.hid hb2
            clear ho hb2
            go_wp2_with fail
            go_ret2
            exact fin.out _ _ (by simpa using HO.out) (by simpa using HB2.out)
        · clear h h1 h2 hf hs hfl
          go_enter Try.func37, Try.ntmps37
          go_wp2_with fail
          refine HC.out.mono ?_
          rintro e w' ⟨rfl, rfl⟩
          go_wp2_with fail
          refine HD.out.mono ?_
          rintro e w2 ⟨⟨v, rfl, ho⟩, hb2⟩
          have HO := Lib.hid ho
          have HB2 := Lib.hid hb2
          clear ho hb2
          go_wp2_with fail
          go_ret2
          exact fin.out _ _ (by simpa using HO.out) (by simpa using HB2.out)
  · have fc := neq_tT h
    have HV : Hid (stackE a b = bothE a b ∧ stackV a b = []) := Lib.hid ⟨stackE_both h, by unfold stackV; rw [stackE_both h, if_neg h]⟩
    clear h
    go_enter Try.func37, Try.ntmps37
    go_wp2_with fail
    refine HC.out.mono ?_
    rintro e w' ⟨rfl, rfl⟩
    go_wp2_with fail
    go_ret2
    exact ⟨RetTE.nil HV.out.2 HV.out.1.symm, Below.refl _ _⟩

end Go.Proofs.Ytampofpllijfhaa
