/-
  The walks of ListsSums, ListsScales, ListsZips. Nothing is assumed.
-/
import Derived.Test.YtohooejljbddmaaLsLawA
import Derived.Test.YtohooejljbddmaaLsSum3
import Derived.Test.YtohooejljbddmaaLsSum4
namespace Go.Proofs.Ytohooejljbddmaa
open Go.RowKit

theorem zipc_any (x y : Value) (l m : List Int) (w : World) (B : Nat) (hx : HoldsI w B x l) (hy : HoldsI w B y m) (hB : B ≤ w.heap.size) (hl : l.length ≤ 900) (hm : m.length ≤ 900) :
    Calls Try.prog 48 #[y, x] w fun e w' => RetE w.heap.size (yes (zpB l m) (zipL l m)) (rng (zpB l m)) e w' ∧ Below w.heap.size w w' := by
  have h := zip_any y x m l w B hy hx hB hm hl
  rw [zpB_comm, zipL_comm] at h
  exact h

set_option maxRecDepth 100000 in
set_option maxHeartbeats 3200000 in
theorem lawSums_any (x0 : Value) (l0 : List Int) (w : World) (hx0 : HoldsI w w.heap.size x0 l0) (hw0 : I64L l0) :
    Calls Try.prog 7 #[x0] w fun e w' => e = .returned (.bool true) ∧ Below w.heap.size w w' := by
  have HX0 := Lib.hid hx0
  have HI0 := Lib.hid hw0
  clear hw0
  obtain ⟨oa0, ca0, rfl, _, _, hel0⟩ := hx0
  clear hel0
  by_cases hl0 : 60 < (l0.length : Int)
  · go_enter Try.func7, Try.ntmps7
    go_wp2_with fail
    refine (alive_any _).mono ?_
    rintro e w1 ⟨rfl, hb1⟩
    go_wp2_with fail
    go_ret
    exact ⟨rfl, hb1⟩
  have hn0 : l0.length ≤ 60 := by omega
  go_enter Try.func7, Try.ntmps7
  have hB0 : Below w.heap.size w w := Below.refl _ _
  go_wp2_with fail
  refine (sum_any _ l0 _ _ (HX0.out.later hB0) (by omega)).mono ?_
  rintro e w1 ⟨rfl, hb1⟩
  have hB1 := hB0.trans (hb1.mono hB0.size)
  clear hb1
  go_wp2_with fail
  refine (rsum_any _ l0 _ _ (HX0.out.later hB1) (by omega)).mono ?_
  rintro e w2 ⟨rfl, hb2⟩
  have hB2 := hB1.trans (hb2.mono hB1.size)
  clear hb2
  go_wp2_with fail
  refine (running_any _ l0 _ _ (HX0.out.later hB2) hB2.size (by omega)).mono ?_
  rintro e w3 ⟨⟨va, rfl, ho3⟩, hb3⟩
  have Ha := Lib.hid ho3.holds
  clear ho3
  have hB3 := hB2.trans (hb3.mono hB2.size)
  clear hb3
  go_wp2_with fail
  refine (rrunning_any _ l0 _ _ (HX0.out.later hB3) hB3.size (by omega)).mono ?_
  rintro e w4 ⟨⟨vb, rfl, ho4⟩, hb4⟩
  have Ha := Lib.hid (Ha.out.on hb4)
  have Hb := Lib.hid ho4.holds
  clear ho4
  have hB4 := hB3.trans (hb4.mono hB3.size)
  clear hb4
  go_wp2_with fail
  refine (same_yes _ _ _ _ Ha.out Hb.out (by have := yes_len (rnB l0) (runK l0 l0.length); rw [runK_len] at this; omega)).mono ?_
  rintro e w5 ⟨rfl, hb5⟩
  have Ha := Lib.hid (Ha.out.on hb5)
  have Hb := Lib.hid (Hb.out.on hb5)
  have hB5 := hB4.trans (hb5.mono hB4.size)
  clear hb5
  clear Ha
  clear Hb
  go_wp2_with fail
  refine (alive_any _).mono ?_
  rintro e w6 ⟨rfl, hb6⟩
  have hB6 := hB5.trans (hb6.mono hB5.size)
  clear hb6
  go_wp2_with fail
  go_ret
  exact ⟨rfl, hB6⟩

set_option maxRecDepth 100000 in
set_option maxHeartbeats 3200000 in
theorem lawScales_any (x0 : Value) (l0 : List Int) (k : Int) (w : World) (hx0 : HoldsI w w.heap.size x0 l0) (hw0 : I64L l0) :
    Calls Try.prog 8 #[x0, .int .i64 k] w fun e w' => e = .returned (.bool true) ∧ Below w.heap.size w w' := by
  have HX0 := Lib.hid hx0
  have HI0 := Lib.hid hw0
  clear hw0
  obtain ⟨oa0, ca0, rfl, _, _, hel0⟩ := hx0
  clear hel0
  by_cases hl0 : 60 < (l0.length : Int)
  · go_enter Try.func8, Try.ntmps8
    go_wp2_with fail
    refine (alive_any _).mono ?_
    rintro e w1 ⟨rfl, hb1⟩
    go_wp2_with fail
    go_ret
    exact ⟨rfl, hb1⟩
  have hn0 : l0.length ≤ 60 := by omega
  go_enter Try.func8, Try.ntmps8
  have hB0 : Below w.heap.size w w := Below.refl _ _
  go_wp2_with fail
  refine (shift_any _ l0 k _ _ (HX0.out.later hB0) hB0.size (by omega)).mono ?_
  rintro e w1 ⟨⟨va, rfl, ho1⟩, hb1⟩
  have Ha := Lib.hid ho1.holds
  clear ho1
  have hB1 := hB0.trans (hb1.mono hB0.size)
  clear hb1
  go_wp2_with fail
  refine (rshift_any _ l0 k _ _ (HX0.out.later hB1) hB1.size (by omega)).mono ?_
  rintro e w2 ⟨⟨vb, rfl, ho2⟩, hb2⟩
  have Ha := Lib.hid (Ha.out.on hb2)
  have Hb := Lib.hid ho2.holds
  clear ho2
  have hB2 := hB1.trans (hb2.mono hB1.size)
  clear hb2
  go_wp2_with fail
  refine (scale_any _ l0 k _ _ (HX0.out.later hB2) hB2.size (by omega)).mono ?_
  rintro e w3 ⟨⟨vc, rfl, ho3⟩, hb3⟩
  have Ha := Lib.hid (Ha.out.on hb3)
  have Hb := Lib.hid (Hb.out.on hb3)
  have Hc := Lib.hid ho3.holds
  clear ho3
  have hB3 := hB2.trans (hb3.mono hB2.size)
  clear hb3
  go_wp2_with fail
  refine (rscale_any _ l0 k _ _ (HX0.out.later hB3) hB3.size (by omega)).mono ?_
  rintro e w4 ⟨⟨vd, rfl, ho4⟩, hb4⟩
  have Ha := Lib.hid (Ha.out.on hb4)
  have Hb := Lib.hid (Hb.out.on hb4)
  have Hc := Lib.hid (Hc.out.on hb4)
  have Hd := Lib.hid ho4.holds
  clear ho4
  have hB4 := hB3.trans (hb4.mono hB3.size)
  clear hb4
  go_wp2_with fail
  refine (same_yes _ _ _ _ Ha.out Hb.out (by have := yes_len (shiftB l0 k) (mpK (· + k) l0 l0.length); have := mpK_len (· + k) l0 l0.length; omega)).mono ?_
  rintro e w5 ⟨rfl, hb5⟩
  have Ha := Lib.hid (Ha.out.on hb5)
  have Hb := Lib.hid (Hb.out.on hb5)
  have Hc := Lib.hid (Hc.out.on hb5)
  have Hd := Lib.hid (Hd.out.on hb5)
  have hB5 := hB4.trans (hb5.mono hB4.size)
  clear hb5
  clear Ha
  clear Hb
  go_wp2_with fail
  refine (same_yes _ _ _ _ Hc.out Hd.out (by have := yes_len (scaleB l0 k) (mpK (· * k) l0 l0.length); have := mpK_len (· * k) l0 l0.length; omega)).mono ?_
  rintro e w6 ⟨rfl, hb6⟩
  have Hc := Lib.hid (Hc.out.on hb6)
  have Hd := Lib.hid (Hd.out.on hb6)
  have hB6 := hB5.trans (hb6.mono hB5.size)
  clear hb6
  clear Hc
  clear Hd
  go_wp2_with fail
  refine (alive_any _).mono ?_
  rintro e w7 ⟨rfl, hb7⟩
  have hB7 := hB6.trans (hb7.mono hB6.size)
  clear hb7
  go_wp2_with fail
  go_ret
  exact ⟨rfl, hB7⟩

set_option maxRecDepth 100000 in
set_option maxHeartbeats 3200000 in
theorem lawZips_any (x0 : Value) (l0 : List Int) (x1 : Value) (l1 : List Int) (w : World) (hx0 : HoldsI w w.heap.size x0 l0) (hw0 : I64L l0) (hx1 : HoldsI w w.heap.size x1 l1) (hw1 : I64L l1) :
    Calls Try.prog 9 #[x0, x1] w fun e w' => e = .returned (.bool true) ∧ Below w.heap.size w w' := by
  have HX0 := Lib.hid hx0
  have HI0 := Lib.hid hw0
  clear hw0
  obtain ⟨oa0, ca0, rfl, _, _, hel0⟩ := hx0
  clear hel0
  have HX1 := Lib.hid hx1
  have HI1 := Lib.hid hw1
  clear hw1
  obtain ⟨oa1, ca1, rfl, _, _, hel1⟩ := hx1
  clear hel1
  by_cases hl0 : 60 < (l0.length : Int)
  · go_enter Try.func9, Try.ntmps9
    go_wp2_with fail
    refine (alive_any _).mono ?_
    rintro e w1 ⟨rfl, hb1⟩
    go_wp2_with fail
    go_ret
    exact ⟨rfl, hb1⟩
  have hn0 : l0.length ≤ 60 := by omega
  by_cases hl1 : 60 < (l1.length : Int)
  · go_enter Try.func9, Try.ntmps9
    go_wp2_with fail
    refine (alive_any _).mono ?_
    rintro e w1 ⟨rfl, hb1⟩
    go_wp2_with fail
    go_ret
    exact ⟨rfl, hb1⟩
  have hn1 : l1.length ≤ 60 := by omega
  go_enter Try.func9, Try.ntmps9
  have hB0 : Below w.heap.size w w := Below.refl _ _
  go_wp2_with fail
  refine (zip_any _ _ l0 l1 _ _ (HX0.out.later hB0) (HX1.out.later hB0) hB0.size (by omega) (by omega)).mono ?_
  rintro e w1 ⟨⟨va, rfl, ho1⟩, hb1⟩
  have Ha := Lib.hid ho1.holds
  clear ho1
  have hB1 := hB0.trans (hb1.mono hB0.size)
  clear hb1
  go_wp2_with fail
  refine (rzip_any _ _ l0 l1 _ _ (HX0.out.later hB1) (HX1.out.later hB1) hB1.size (by omega) (by omega)).mono ?_
  rintro e w2 ⟨⟨vb, rfl, ho2⟩, hb2⟩
  have Ha := Lib.hid (Ha.out.on hb2)
  have Hb := Lib.hid ho2.holds
  clear ho2
  have hB2 := hB1.trans (hb2.mono hB1.size)
  clear hb2
  go_wp2_with fail
  refine (zipc_any _ _ l0 l1 _ _ (HX0.out.later hB2) (HX1.out.later hB2) hB2.size (by omega) (by omega)).mono ?_
  rintro e w3 ⟨⟨vc, rfl, ho3⟩, hb3⟩
  have Ha := Lib.hid (Ha.out.on hb3)
  have Hb := Lib.hid (Hb.out.on hb3)
  have Hc := Lib.hid ho3.holds
  clear ho3
  have hB3 := hB2.trans (hb3.mono hB2.size)
  clear hb3
  go_wp2_with fail
  refine (append_any _ _ l0 l1 _ _ (HX0.out.later hB3) (HX1.out.later hB3) hB3.size (by omega) (by omega)).mono ?_
  rintro e w4 ⟨⟨vd, rfl, ho4⟩, hb4⟩
  have Ha := Lib.hid (Ha.out.on hb4)
  have Hb := Lib.hid (Hb.out.on hb4)
  have Hc := Lib.hid (Hc.out.on hb4)
  have Hd := Lib.hid ho4.holds
  clear ho4
  have hB4 := hB3.trans (hb4.mono hB3.size)
  clear hb4
  go_wp2_with fail
  refine (rappend_any _ _ l0 l1 _ _ (HX0.out.later hB4) (HX1.out.later hB4) hB4.size (by omega) (by omega)).mono ?_
  rintro e w5 ⟨⟨vf, rfl, ho5⟩, hb5⟩
  have Ha := Lib.hid (Ha.out.on hb5)
  have Hb := Lib.hid (Hb.out.on hb5)
  have Hc := Lib.hid (Hc.out.on hb5)
  have Hd := Lib.hid (Hd.out.on hb5)
  have Hf := Lib.hid ho5.holds
  clear ho5
  have hB5 := hB4.trans (hb5.mono hB4.size)
  clear hb5
  go_wp2_with fail
  refine (same_yes _ _ _ _ Ha.out Hb.out (by have := yes_len (zpB l0 l1) (zipL l0 l1); have : (zipL l0 l1).length = _ := zipK_len _ _ _; omega)).mono ?_
  rintro e w6 ⟨rfl, hb6⟩
  have Ha := Lib.hid (Ha.out.on hb6)
  have Hb := Lib.hid (Hb.out.on hb6)
  have Hc := Lib.hid (Hc.out.on hb6)
  have Hd := Lib.hid (Hd.out.on hb6)
  have Hf := Lib.hid (Hf.out.on hb6)
  have hB6 := hB5.trans (hb6.mono hB5.size)
  clear hb6
  clear Hb
  go_wp2_with fail
  refine (same_yes _ _ _ _ Ha.out Hc.out (by have := yes_len (zpB l0 l1) (zipL l0 l1); have : (zipL l0 l1).length = _ := zipK_len _ _ _; omega)).mono ?_
  rintro e w7 ⟨rfl, hb7⟩
  have Ha := Lib.hid (Ha.out.on hb7)
  have Hc := Lib.hid (Hc.out.on hb7)
  have Hd := Lib.hid (Hd.out.on hb7)
  have Hf := Lib.hid (Hf.out.on hb7)
  have hB7 := hB6.trans (hb7.mono hB6.size)
  clear hb7
  clear Ha
  clear Hc
  go_wp2_with fail
  refine (same_yes _ _ _ _ Hd.out Hf.out (by unfold apL; split <;> simp <;> omega)).mono ?_
  rintro e w8 ⟨rfl, hb8⟩
  have Hd := Lib.hid (Hd.out.on hb8)
  have Hf := Lib.hid (Hf.out.on hb8)
  have hB8 := hB7.trans (hb8.mono hB7.size)
  clear hb8
  clear Hd
  clear Hf
  go_wp2_with fail
  refine (alive_any _).mono ?_
  rintro e w9 ⟨rfl, hb9⟩
  have hB9 := hB8.trans (hb9.mono hB8.size)
  clear hb9
  go_wp2_with fail
  go_ret
  exact ⟨rfl, hB9⟩

end Go.Proofs.Ytohooejljbddmaa
