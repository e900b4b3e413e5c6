/-
  The walks of ListsElements, ListsTakes, ListsSorts, ListsSelects. Nothing is assumed.
-/
import Derived.Test.YtohooejljbddmaaLsSort
import Derived.Test.YtohooejljbddmaaLsSel
import Derived.Test.YtohooejljbddmaaLsRef1
import Derived.Test.YtohooejljbddmaaLsElem
namespace Go.Proofs.Ytohooejljbddmaa
open Go.RowKit

theorem same_yes (x y : Value) (l : List Int) (w : World) (hx : HoldsI w w.heap.size x l) (hy : HoldsI w w.heap.size y l) (hl : l.length ≤ 1000) :
    Calls Try.prog 23 #[x, y] w fun e w' => e = .returned (.bool true) ∧ Below w.heap.size w w' := by
  have h := same_any x y l l w w.heap.size hx hy (Nat.le_refl _) hl hl
  rw [decide_eq_true rfl] at h
  exact h

set_option maxRecDepth 100000 in
set_option maxHeartbeats 3200000 in
theorem lawElements_any (x0 : Value) (l0 : List Int) (k : Int) (w : World) (hx0 : HoldsI w w.heap.size x0 l0) (hw0 : I64L l0) (hk0 : -9223372036854775808 ≤ k) (hk1 : k ≤ 9223372036854775807) :
    Calls Try.prog 3 #[x0, .int .i64 k] w fun e w' => e = .returned (.bool true) ∧ Below w.heap.size w w' := by
  have HX0 := Lib.hid hx0
  have HI0 := Lib.hid hw0
  clear hw0
  obtain ⟨oa0, ca0, rfl, _, _, hel0⟩ := hx0
  clear hel0
  by_cases hl0 : 60 < (l0.length : Int)
  · go_enter Try.func3, Try.ntmps3
    go_wp2_with fail
    refine (alive_any _).mono ?_
    rintro e w1 ⟨rfl, hb1⟩
    go_wp2_with fail
    go_ret
    exact ⟨rfl, hb1⟩
  have hn0 : l0.length ≤ 60 := by omega
  go_enter Try.func3, Try.ntmps3
  have hB0 : Below w.heap.size w w := Below.refl _ _
  go_wp2_with fail
  refine (element_any _ l0 k _ _ (HX0.out.later hB0) (by omega) hk0 hk1).mono ?_
  rintro e w1 ⟨rfl, hb1⟩
  have hB1 := hB0.trans (hb1.mono hB0.size)
  clear hb1
  go_wp2_with fail
  refine (relement_any _ l0 k _ _ (HX0.out.later hB1) (by omega) hk0 hk1).mono ?_
  rintro e w2 ⟨rfl, hb2⟩
  have hB2 := hB1.trans (hb2.mono hB1.size)
  clear hb2
  go_wp2_with fail
  refine (head_any _ l0 _ _ (HX0.out.later hB2) (by omega)).mono ?_
  rintro e w3 ⟨rfl, hb3⟩
  have hB3 := hB2.trans (hb3.mono hB2.size)
  clear hb3
  go_wp2_with fail
  refine (rhead_any _ l0 _ _ (HX0.out.later hB3) (by omega)).mono ?_
  rintro e w4 ⟨rfl, hb4⟩
  have hB4 := hB3.trans (hb4.mono hB3.size)
  clear hb4
  go_wp2_with fail
  refine (last_any _ l0 _ _ (HX0.out.later hB4) (by omega)).mono ?_
  rintro e w5 ⟨rfl, hb5⟩
  have hB5 := hB4.trans (hb5.mono hB4.size)
  clear hb5
  go_wp2_with fail
  refine (rlast_any _ l0 _ _ (HX0.out.later hB5) (by omega)).mono ?_
  rintro e w6 ⟨rfl, hb6⟩
  have hB6 := hB5.trans (hb6.mono hB5.size)
  clear hb6
  go_wp2_with fail
  refine (max_any _ l0 _ _ (HX0.out.later hB6) (by omega)).mono ?_
  rintro e w7 ⟨rfl, hb7⟩
  have hB7 := hB6.trans (hb7.mono hB6.size)
  clear hb7
  go_wp2_with fail
  refine (rmax_any _ l0 _ _ (HX0.out.later hB7) hB7.size (by omega)).mono ?_
  rintro e w8 ⟨rfl, hb8⟩
  have hB8 := hB7.trans (hb8.mono hB7.size)
  clear hb8
  go_wp2_with fail
  refine (min_any _ l0 _ _ (HX0.out.later hB8) (by omega)).mono ?_
  rintro e w9 ⟨rfl, hb9⟩
  have hB9 := hB8.trans (hb9.mono hB8.size)
  clear hb9
  go_wp2_with fail
  refine (rmin_any _ l0 _ _ (HX0.out.later hB9) hB9.size (by omega)).mono ?_
  rintro e w10 ⟨rfl, hb10⟩
  have hB10 := hB9.trans (hb10.mono hB9.size)
  clear hb10
  go_wp2_with fail
  refine (alive_any _).mono ?_
  rintro e w11 ⟨rfl, hb11⟩
  have hB11 := hB10.trans (hb11.mono hB10.size)
  clear hb11
  go_wp2_with fail
  go_ret
  exact ⟨rfl, hB11⟩

set_option maxRecDepth 100000 in
set_option maxHeartbeats 3200000 in
theorem lawTakes_any (x0 : Value) (l0 : List Int) (k : Int) (w : World) (hx0 : HoldsI w w.heap.size x0 l0) (hw0 : I64L l0) :
    Calls Try.prog 4 #[x0, .int .i64 k] w fun e w' => e = .returned (.bool true) ∧ Below w.heap.size w w' := by
  have HX0 := Lib.hid hx0
  have HI0 := Lib.hid hw0
  clear hw0
  obtain ⟨oa0, ca0, rfl, _, _, hel0⟩ := hx0
  clear hel0
  by_cases hl0 : 60 < (l0.length : Int)
  · go_enter Try.func4, Try.ntmps4
    go_wp2_with fail
    refine (alive_any _).mono ?_
    rintro e w1 ⟨rfl, hb1⟩
    go_wp2_with fail
    go_ret
    exact ⟨rfl, hb1⟩
  have hn0 : l0.length ≤ 60 := by omega
  go_enter Try.func4, Try.ntmps4
  have hB0 : Below w.heap.size w w := Below.refl _ _
  go_wp2_with fail
  refine (take_any _ l0 k _ _ (HX0.out.later hB0) hB0.size (by omega)).mono ?_
  rintro e w1 ⟨⟨va, rfl, ho1⟩, hb1⟩
  have Ha := Lib.hid ho1.holds
  clear ho1
  have hB1 := hB0.trans (hb1.mono hB0.size)
  clear hb1
  go_wp2_with fail
  refine (rtake_any _ l0 k _ _ (HX0.out.later hB1) hB1.size (by omega)).mono ?_
  rintro e w2 ⟨⟨vb, rfl, ho2⟩, hb2⟩
  have Ha := Lib.hid (Ha.out.on hb2)
  have Hb := Lib.hid ho2.holds
  clear ho2
  have hB2 := hB1.trans (hb2.mono hB1.size)
  clear hb2
  go_wp2_with fail
  refine (same_yes _ _ _ _ Ha.out Hb.out (by have := tk_len l0 k; omega)).mono ?_
  rintro e w3 ⟨rfl, hb3⟩
  have Ha := Lib.hid (Ha.out.on hb3)
  have Hb := Lib.hid (Hb.out.on hb3)
  have hB3 := hB2.trans (hb3.mono hB2.size)
  clear hb3
  clear Ha
  clear Hb
  go_wp2_with fail
  refine (drop_any _ l0 k _ _ (HX0.out.later hB3) hB3.size (by omega)).mono ?_
  rintro e w4 ⟨⟨va, rfl, ho4⟩, hb4⟩
  have Ha := Lib.hid ho4.holds
  clear ho4
  have hB4 := hB3.trans (hb4.mono hB3.size)
  clear hb4
  go_wp2_with fail
  refine (rdrop_any _ l0 k _ _ (HX0.out.later hB4) hB4.size (by omega)).mono ?_
  rintro e w5 ⟨⟨vb, rfl, ho5⟩, hb5⟩
  have Ha := Lib.hid (Ha.out.on hb5)
  have Hb := Lib.hid ho5.holds
  clear ho5
  have hB5 := hB4.trans (hb5.mono hB4.size)
  clear hb5
  go_wp2_with fail
  refine (same_yes _ _ _ _ Ha.out Hb.out (by have := dr_len l0 k; omega)).mono ?_
  rintro e w6 ⟨rfl, hb6⟩
  have Ha := Lib.hid (Ha.out.on hb6)
  have Hb := Lib.hid (Hb.out.on hb6)
  have hB6 := hB5.trans (hb6.mono hB5.size)
  clear hb6
  clear Ha
  clear Hb
  go_wp2_with fail
  refine (reverse_any _ l0 _ _ (HX0.out.later hB6) hB6.size (by omega)).mono ?_
  rintro e w7 ⟨⟨va, rfl, ho7⟩, hb7⟩
  have Ha := Lib.hid ho7.holds
  clear ho7
  have hB7 := hB6.trans (hb7.mono hB6.size)
  clear hb7
  go_wp2_with fail
  refine (rreverse_any _ l0 _ _ (HX0.out.later hB7) hB7.size (by omega)).mono ?_
  rintro e w8 ⟨⟨vb, rfl, ho8⟩, hb8⟩
  have Ha := Lib.hid (Ha.out.on hb8)
  have Hb := Lib.hid ho8.holds
  clear ho8
  have hB8 := hB7.trans (hb8.mono hB7.size)
  clear hb8
  go_wp2_with fail
  refine (same_yes _ _ _ _ Ha.out Hb.out (by simp; omega)).mono ?_
  rintro e w9 ⟨rfl, hb9⟩
  have Ha := Lib.hid (Ha.out.on hb9)
  have Hb := Lib.hid (Hb.out.on hb9)
  have hB9 := hB8.trans (hb9.mono hB8.size)
  clear hb9
  clear Ha
  clear Hb
  go_wp2_with fail
  refine (alive_any _).mono ?_
  rintro e w10 ⟨rfl, hb10⟩
  have hB10 := hB9.trans (hb10.mono hB9.size)
  clear hb10
  go_wp2_with fail
  go_ret
  exact ⟨rfl, hB10⟩

set_option maxRecDepth 100000 in
set_option maxHeartbeats 3200000 in
theorem lawSorts_any (x0 : Value) (l0 : List Int) (k : Int) (w : World) (hx0 : HoldsI w w.heap.size x0 l0) (hw0 : I64L l0) :
    Calls Try.prog 5 #[x0, .int .i64 k] w fun e w' => e = .returned (.bool true) ∧ Below w.heap.size w w' := by
  have HX0 := Lib.hid hx0
  have HI0 := Lib.hid hw0
  clear hw0
  obtain ⟨oa0, ca0, rfl, _, _, hel0⟩ := hx0
  clear hel0
  by_cases hl0 : 60 < (l0.length : Int)
  · go_enter Try.func5, Try.ntmps5
    go_wp2_with fail
    refine (alive_any _).mono ?_
    rintro e w1 ⟨rfl, hb1⟩
    go_wp2_with fail
    go_ret
    exact ⟨rfl, hb1⟩
  have hn0 : l0.length ≤ 60 := by omega
  go_enter Try.func5, Try.ntmps5
  have hB0 : Below w.heap.size w w := Below.refl _ _
  go_wp2_with fail
  refine (sort_any _ l0 _ _ (HX0.out.later hB0) hB0.size (by omega)).mono ?_
  rintro e w1 ⟨⟨va, rfl, ho1⟩, hb1⟩
  have Ha := Lib.hid ho1.holds
  clear ho1
  have hB1 := hB0.trans (hb1.mono hB0.size)
  clear hb1
  go_wp2_with fail
  refine (rsort_any _ l0 _ _ (HX0.out.later hB1) hB1.size (by omega)).mono ?_
  rintro e w2 ⟨⟨vb, rfl, ho2⟩, hb2⟩
  have Ha := Lib.hid (Ha.out.on hb2)
  have Hb := Lib.hid ho2.holds
  clear ho2
  have hB2 := hB1.trans (hb2.mono hB1.size)
  clear hb2
  go_wp2_with fail
  refine (same_yes _ _ _ _ Ha.out Hb.out (by rw [srt_len]; omega)).mono ?_
  rintro e w3 ⟨rfl, hb3⟩
  have Ha := Lib.hid (Ha.out.on hb3)
  have Hb := Lib.hid (Hb.out.on hb3)
  have hB3 := hB2.trans (hb3.mono hB2.size)
  clear hb3
  clear Ha
  clear Hb
  go_wp2_with fail
  refine (unique_any _ l0 _ _ (HX0.out.later hB3) hB3.size (by omega) HI0.out).mono ?_
  rintro e w4 ⟨⟨va, rfl, ho4⟩, hb4⟩
  have Ha := Lib.hid ho4.holds
  clear ho4
  have hB4 := hB3.trans (hb4.mono hB3.size)
  clear hb4
  go_wp2_with fail
  refine (runique_any _ l0 _ _ (HX0.out.later hB4) hB4.size (by omega)).mono ?_
  rintro e w5 ⟨⟨vb, rfl, ho5⟩, hb5⟩
  have Ha := Lib.hid (Ha.out.on hb5)
  have Hb := Lib.hid ho5.holds
  clear ho5
  have hB5 := hB4.trans (hb5.mono hB4.size)
  clear hb5
  go_wp2_with fail
  refine (same_yes _ _ _ _ Ha.out Hb.out (by have := uqK_len l0 l0.length (Nat.le_refl _); rw [uqK_all l0 l0.length (Nat.le_refl _)] at this; omega)).mono ?_
  rintro e w6 ⟨rfl, hb6⟩
  have Ha := Lib.hid (Ha.out.on hb6)
  have Hb := Lib.hid (Hb.out.on hb6)
  have hB6 := hB5.trans (hb6.mono hB5.size)
  clear hb6
  clear Ha
  clear Hb
  go_wp2_with fail
  refine (count_any _ l0 k _ _ (HX0.out.later hB6) (by omega)).mono ?_
  rintro e w7 ⟨rfl, hb7⟩
  have hB7 := hB6.trans (hb7.mono hB6.size)
  clear hb7
  go_wp2_with fail
  refine (rcount_any _ l0 k _ _ (HX0.out.later hB7) (by omega)).mono ?_
  rintro e w8 ⟨rfl, hb8⟩
  have hB8 := hB7.trans (hb8.mono hB7.size)
  clear hb8
  go_wp2_with fail
  refine (alive_any _).mono ?_
  rintro e w9 ⟨rfl, hb9⟩
  have hB9 := hB8.trans (hb9.mono hB8.size)
  clear hb9
  go_wp2_with fail
  go_ret
  exact ⟨rfl, hB9⟩

set_option maxRecDepth 100000 in
set_option maxHeartbeats 3200000 in
theorem lawSelects_any (x0 : Value) (l0 : List Int) (k : Int) (w : World) (hx0 : HoldsI w w.heap.size x0 l0) (hw0 : I64L l0) :
    Calls Try.prog 6 #[x0, .int .i64 k] w fun e w' => e = .returned (.bool true) ∧ Below w.heap.size w w' := by
  have HX0 := Lib.hid hx0
  have HI0 := Lib.hid hw0
  clear hw0
  obtain ⟨oa0, ca0, rfl, _, _, hel0⟩ := hx0
  clear hel0
  by_cases hl0 : 60 < (l0.length : Int)
  · go_enter Try.func6, Try.ntmps6
    go_wp2_with fail
    refine (alive_any _).mono ?_
    rintro e w1 ⟨rfl, hb1⟩
    go_wp2_with fail
    go_ret
    exact ⟨rfl, hb1⟩
  have hn0 : l0.length ≤ 60 := by omega
  go_enter Try.func6, Try.ntmps6
  have hB0 : Below w.heap.size w w := Below.refl _ _
  go_wp2_with fail
  refine (above_any _ l0 k _ _ (HX0.out.later hB0) hB0.size (by omega)).mono ?_
  rintro e w1 ⟨⟨va, rfl, ho1⟩, hb1⟩
  have Ha := Lib.hid ho1.holds
  clear ho1
  have hB1 := hB0.trans (hb1.mono hB0.size)
  clear hb1
  go_wp2_with fail
  refine (rabove_any _ l0 k _ _ (HX0.out.later hB1) hB1.size (by omega)).mono ?_
  rintro e w2 ⟨⟨vb, rfl, ho2⟩, hb2⟩
  have Ha := Lib.hid (Ha.out.on hb2)
  have Hb := Lib.hid ho2.holds
  clear ho2
  have hB2 := hB1.trans (hb2.mono hB1.size)
  clear hb2
  go_wp2_with fail
  refine (same_yes _ _ _ _ Ha.out Hb.out (by have := selK_len (abv k) l0 l0.length; rw [selK_all _ l0 l0.length (Nat.le_refl _)] at this; omega)).mono ?_
  rintro e w3 ⟨rfl, hb3⟩
  have Ha := Lib.hid (Ha.out.on hb3)
  have Hb := Lib.hid (Hb.out.on hb3)
  have hB3 := hB2.trans (hb3.mono hB2.size)
  clear hb3
  clear Ha
  clear Hb
  go_wp2_with fail
  refine (even_any _ l0 _ _ (HX0.out.later hB3) hB3.size (by omega)).mono ?_
  rintro e w4 ⟨⟨va, rfl, ho4⟩, hb4⟩
  have Ha := Lib.hid ho4.holds
  clear ho4
  have hB4 := hB3.trans (hb4.mono hB3.size)
  clear hb4
  go_wp2_with fail
  refine (reven_any _ l0 _ _ (HX0.out.later hB4) hB4.size (by omega)).mono ?_
  rintro e w5 ⟨⟨vb, rfl, ho5⟩, hb5⟩
  have Ha := Lib.hid (Ha.out.on hb5)
  have Hb := Lib.hid ho5.holds
  clear ho5
  have hB5 := hB4.trans (hb5.mono hB4.size)
  clear hb5
  go_wp2_with fail
  refine (same_yes _ _ _ _ Ha.out Hb.out (by have := selK_len evn l0 l0.length; rw [selK_all _ l0 l0.length (Nat.le_refl _)] at this; omega)).mono ?_
  rintro e w6 ⟨rfl, hb6⟩
  have Ha := Lib.hid (Ha.out.on hb6)
  have Hb := Lib.hid (Hb.out.on hb6)
  have hB6 := hB5.trans (hb6.mono hB5.size)
  clear hb6
  clear Ha
  clear Hb
  go_wp2_with fail
  refine (alive_any _).mono ?_
  rintro e w7 ⟨rfl, hb7⟩
  have hB7 := hB6.trans (hb7.mono hB6.size)
  clear hb7
  go_wp2_with fail
  go_ret
  exact ⟨rfl, hB7⟩

end Go.Proofs.Ytohooejljbddmaa
