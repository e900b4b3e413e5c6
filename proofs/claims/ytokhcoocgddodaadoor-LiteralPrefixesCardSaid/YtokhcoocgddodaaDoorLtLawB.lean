/-
  The walk of LiteralFaults. Nothing is assumed but the tables of the shelf.
-/
import Derived.Test.YtokhcoocgddodaaDoorLtAwake
namespace Go.Proofs.YtokhcoocgddodaaDoor
open Go.RowKit

theorem faults_pure (L : List UInt8) : ((parseL L).2.1 = 0 ∧ (parseL L).2.2 = 0) ∨
    ∃ i, (parseL L).2 = (i, 8) ∧ i ≤ L.length ∧ ((parseL (L.take i)).2 = (i, 8) ∨ (parseL (L.take i)).2.2 = 0) ∧ (i < L.length → (parseL (L.take (i + 1))).2 = (i, 8)) := by
  have hbd := (oneL_bd L 0 (Nat.zero_le _)).2
  have h1 := oneL_take L (oneL L 0).fin (Nat.le_refl _)
  have h2 := oneL_take L ((oneL L 0).fin + 1) (Nat.le_succ _)
  unfold parseL
  cases hx : oneL L 0 with
  | bad i =>
    rw [hx] at h1 h2 hbd
    simp only [PR.fin] at h1 h2 hbd
    refine .inr ⟨i, rfl, hbd, .inl ?_, fun _ => ?_⟩
    · rw [h1]; rfl
    · rw [h2]; rfl
  | ok v i =>
    rw [hx] at h1 h2 hbd
    simp only [PR.fin] at h1 h2 hbd
    by_cases hi : i = L.length
    · rw [whole_yes L zeroV v i hi]
      exact .inl ⟨rfl, rfl⟩
    · rw [whole_no L zeroV v i hi]
      refine .inr ⟨i, rfl, hbd, .inr ?_, fun hlt => ?_⟩
      · rw [h1, whole_yes _ _ _ _ (by rw [List.length_take]; omega)]
      · rw [h2, whole_no _ _ _ _ (by rw [List.length_take]; omega)]
theorem ext_take (s : ByteArray) (n : Nat) : (s.extract 0 n).data.toList = s.data.toList.take n := by
  rw [extract_str, str_list]
  simp
theorem parse_w (s : ByteArray) (w : World) (hs : s.size ≤ 1000000) (i : Nat) (z : Int) (h : (parseL s.data.toList).2 = (i, z)) :
    Calls Tryd.prog 13 #[.string s] w fun e w' => (∃ (t n : Int) (x : ByteArray) (oe : Option Addr) (m ce : Nat), e = .returned (.tuple #[.agg #[.int .i64 t, .int .i64 n, .string x, .slice oe m ce], .int .i64 (i : Int), .int .i64 z])) ∧ Below w.heap.size w w' := by
  refine (parse_any s w hs).mono ?_
  rintro e w' ⟨⟨oe, ce, rfl, -⟩, hb⟩
  rw [h]
  exact ⟨⟨_, _, _, _, _, _, rfl⟩, hb⟩

set_option maxRecDepth 100000 in
set_option maxHeartbeats 3200000 in
theorem faults_any (s : ByteArray) (w : World) (hT : TabsB w.heap.size w) :
    Calls Tryd.prog 7 #[.string s] w fun e w' => e = .returned (.bool true) ∧ Below w.heap.size w w' := by
  have HT := Lib.hid hT
  clear hT
  by_cases hs : 1500 < s.size
  · have HA := Lib.hid (awake_any w HT.out)
    go_enter Tryd.func7, Tryd.ntmps7
    go_wp2_with fail
    refine HA.out.mono ?_
    rintro e w1 ⟨rfl, hb⟩
    go_wp2_with fail
    go_ret
    exact ⟨rfl, hb⟩
  have hs2 : s.size ≤ 1500 := by omega
  rcases faults_pure s.data.toList with ⟨h1, h2⟩ | ⟨i, h1, hi, h2, h3⟩
  · have HP := Lib.hid (parse_w s w (by omega) 0 0 (by rw [← h1, ← h2]))
    clear h1 h2
    go_enter Tryd.func7, Tryd.ntmps7
    go_wp2_with fail
    refine HP.out.mono ?_
    rintro e w1 ⟨⟨t, n, x, oe, m, ce, rfl⟩, hb⟩
    have hb1 := hb.alloc hb.size (.cells #[.int .i64 t, .int .i64 n, .string x, .slice oe m ce] 24)
    have HA := Lib.hid (awake_any _ (HT.out.up hb1 hb1.size))
    clear HP
    go_wp2_with fail
    refine HA.out.mono ?_
    rintro e w2 ⟨rfl, hb2⟩
    go_wp2_with fail
    go_ret
    exact ⟨rfl, hb1.trans (hb2.mono hb1.size)⟩
  · rw [lt_len] at hi h3
    have HP := Lib.hid (parse_w s w (by omega) i 8 h1)
    have hii : (i : Int) ≤ (s.size : Int) := by omega
    obtain ⟨z, hz1, hz2⟩ : ∃ z : Int, (parseL (s.data.toList.take i)).2 = (if z = 0 then (parseL (s.data.toList.take i)).2.1 else i, z) ∧ (z = 0 ∨ z = 8) := by
      rcases h2 with h | h
      · exact ⟨8, by rw [h]; rfl, .inr rfl⟩
      · exact ⟨0, by rw [if_pos rfl, ← h], .inl rfl⟩
    generalize (parseL (s.data.toList.take i)).2.1 = k at hz1
    have hx1 : (s.extract 0 i).size ≤ 1000000 := by rw [ByteArray.size_extract]; omega
    have HQ := fun w => Lib.hid (parse_w (s.extract 0 i) w hx1 (if z = 0 then k else i) z (by rw [ext_take]; exact hz1))
    have hz3 : z ≠ 0 → (if z = 0 then k else i) = i := fun h => if_neg h
    generalize (if z = 0 then k else i) = q at HQ hz3
    have HZ2 := Lib.hid hz2
    have HZ3 := Lib.hid hz3
    clear hz1 h1 h2 hx1 hz2 hz3
    by_cases hl : i < s.size
    · obtain ⟨j, hj⟩ : ∃ j, i + 1 = j := ⟨_, rfl⟩
      have hji : (i : Int) + 1 = (j : Int) := by omega
      have hjl : (j : Int) ≤ (s.size : Int) := by omega
      have hx2 : (s.extract 0 j).size ≤ 1000000 := by rw [ByteArray.size_extract]; omega
      have HR := fun w => Lib.hid (parse_w (s.extract 0 j) w hx2 i 8 (by rw [ext_take, ← hj]; exact h3 hl))
      have hne : ((i : Int) == (s.size : Int)) = false := by rw [beq_eq_false_iff_ne]; omega
      clear h3 hx2
      go_enter Tryd.func7, Tryd.ntmps7
      go_wp2_with fail
      refine HP.out.mono ?_
      rintro e w1 ⟨⟨t, n, x, oe, m, ce, rfl⟩, hb⟩
      have hb1 := hb.alloc hb.size (.cells #[.int .i64 t, .int .i64 n, .string x, .slice oe m ce] 24)
      clear HP hb
      go_wp2_with fail
      refine (HQ _).out.mono ?_
      rintro e w2 ⟨⟨t2, n2, x2, oe2, m2, ce2, rfl⟩, hb2⟩
      have hb3 := (hb1.trans (hb2.mono hb1.size)).alloc (hb1.trans (hb2.mono hb1.size)).size (.cells #[.int .i64 t2, .int .i64 n2, .string x2, .slice oe2 m2 ce2] 24)
      clear HQ hb1 hb2
      rcases HZ2.out with rfl | rfl
      · go_wp2_with fail
        refine (HR _).out.mono ?_
        rintro e w3 ⟨⟨t3, n3, x3, oe3, m3, ce3, rfl⟩, hb2⟩
        have hb4 := (hb3.trans (hb2.mono hb3.size)).alloc (hb3.trans (hb2.mono hb3.size)).size (.cells #[.int .i64 t3, .int .i64 n3, .string x3, .slice oe3 m3 ce3] 24)
        have HA := Lib.hid (awake_any _ (HT.out.up hb4 hb4.size))
        clear HR hb3 hb2
        go_wp2_with fail
        refine HA.out.mono ?_
        rintro e w4 ⟨rfl, hb5⟩
        go_wp2_with fail
        go_ret
        exact ⟨rfl, hb4.trans (hb5.mono hb4.size)⟩
      · obtain rfl := HZ3.out (by decide)
        go_wp2_with fail
        refine (HR _).out.mono ?_
        rintro e w3 ⟨⟨t3, n3, x3, oe3, m3, ce3, rfl⟩, hb2⟩
        have hb4 := (hb3.trans (hb2.mono hb3.size)).alloc (hb3.trans (hb2.mono hb3.size)).size (.cells #[.int .i64 t3, .int .i64 n3, .string x3, .slice oe3 m3 ce3] 24)
        have HA := Lib.hid (awake_any _ (HT.out.up hb4 hb4.size))
        clear HR hb3 hb2
        go_wp2_with fail
        refine HA.out.mono ?_
        rintro e w4 ⟨rfl, hb5⟩
        go_wp2_with fail
        go_ret
        exact ⟨rfl, hb4.trans (hb5.mono hb4.size)⟩
    · have hne : ((i : Int) == (s.size : Int)) = true := by rw [show i = s.size by omega]; exact beq_self_eq_true _
      clear h3 hi hl
      go_enter Tryd.func7, Tryd.ntmps7
      go_wp2_with fail
      refine HP.out.mono ?_
      rintro e w1 ⟨⟨t, n, x, oe, m, ce, rfl⟩, hb⟩
      have hb1 := hb.alloc hb.size (.cells #[.int .i64 t, .int .i64 n, .string x, .slice oe m ce] 24)
      clear HP hb
      go_wp2_with fail
      refine (HQ _).out.mono ?_
      rintro e w2 ⟨⟨t2, n2, x2, oe2, m2, ce2, rfl⟩, hb2⟩
      have hb3 := (hb1.trans (hb2.mono hb1.size)).alloc (hb1.trans (hb2.mono hb1.size)).size (.cells #[.int .i64 t2, .int .i64 n2, .string x2, .slice oe2 m2 ce2] 24)
      have HA := Lib.hid (awake_any _ (HT.out.up hb3 hb3.size))
      clear HQ hb1 hb2
      rcases HZ2.out with rfl | rfl
      · go_wp2_with fail
        refine HA.out.mono ?_
        rintro e w4 ⟨rfl, hb5⟩
        go_wp2_with fail
        go_ret
        exact ⟨rfl, hb3.trans (hb5.mono hb3.size)⟩
      · obtain rfl := HZ3.out (by decide)
        go_wp2_with fail
        refine HA.out.mono ?_
        rintro e w4 ⟨rfl, hb5⟩
        go_wp2_with fail
        go_ret
        exact ⟨rfl, hb3.trans (hb5.mono hb3.size)⟩
end Go.Proofs.YtokhcoocgddodaaDoor
