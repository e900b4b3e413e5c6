/-
  The walk of LiteralPrefixes. Nothing is assumed but the tables of the shelf.
-/
import Derived.Test.YtokhcoocgddodaaDoorLtLawB
import Derived.Test.YtokhcoocgddodaaDoorLtBack
import Derived.Test.YtokhcoocgddodaaDoorLtSmall
namespace Go.Proofs.YtokhcoocgddodaaDoor
open Go.RowKit

set_option maxRecDepth 100000 in
set_option maxHeartbeats 3200000 in
theorem prefixes_any (v : V) (sl : Value) (n : Int) (w : World) (B : Nat) (hR : Rep w B sl v.l) (hB : B ≤ w.heap.size) (hT : TabsB w.heap.size w) :
    Calls Tryd.prog 8 #[.agg #[.int .i64 v.t, .int .i64 v.n, .string v.s, sl], .int .i64 n] w fun e w' => e = .returned (.bool true) ∧ Below w.heap.size w w' := by
  have HT := Lib.hid hT
  clear hT
  obtain ⟨oa, cap, rfl, hlc, hm, -⟩ := hR.slice
  have hb0 := below1 w (.cells #[.int .i64 v.t, .int .i64 v.n, .string v.s, .slice oa v.l.length cap] 24)
  have HR0 := Lib.hid (hR.later (hb0.mono hB))
  have HS := Lib.hid (small_some v _ (w.alloc (.cells #[.int .i64 v.t, .int .i64 v.n, .string v.s, .slice oa v.l.length cap] 24)) B 5 HR0.out (by simp; omega) (by decide))
  have hw1 : w.heap.size + 1 ≤ (w.alloc (.cells #[.int .i64 v.t, .int .i64 v.n, .string v.s, .slice oa v.l.length cap] 24)).heap.size := by simp
  clear hR
  go_enter Tryd.func8, Tryd.ntmps8
  go_wp2_with fail
  refine HS.out.mono ?_
  rintro e w1 ⟨⟨z, rfl⟩, hb1⟩
  clear HS
  have hv := (Below.refl (w.heap.size + 1) (w.alloc (.cells #[.int .i64 v.t, .int .i64 v.n, .string v.s, .slice oa v.l.length cap] 24))).trans (hb1.mono hw1)
  have hb := hb0.trans (hb1.mono hb0.size)
  have HR1 := Lib.hid (HR0.out.later (hb1.mono (by simp; omega)))
  clear hb1 hb0 HR0 hw1
  cases z
  · have HA := Lib.hid (awake_any _ (HT.out.up hb hb.size))
    clear hv
    go_wp2_with fail
    refine HA.out.mono ?_
    rintro e w2 ⟨rfl, hb2⟩
    go_wp2_with fail
    go_ret
    exact ⟨rfl, hb.trans (hb2.mono hb.size)⟩
  obtain ⟨g0, g1, g2, g3⟩ := box_later hv
  have HP := Lib.hid (print_v v _ w1 B HR1.out (Nat.le_trans hB hb.size) (HT.out.up hb hb.size))
  clear hv HR1
  by_cases hc : v.chk = 0
  · have hp : printL v = (v.lit, 0) := by unfold printL; rw [if_pos hc]
    have hll := lit_len hc
    have HF := Lib.hid (prefix_lit hc)
    unfold RetS at HP
    rw [hp] at HP
    have hsz : (str v.lit).size = v.lit.length := str_size _
    have hstr : (str v.lit).data.toList = v.lit := str_list _
    generalize str v.lit = S at *
    clear hp hc
    by_cases h0 : n < 0
    · go_wp2_with fail
      refine HP.out.mono ?_
      rintro e w2 ⟨rfl, hb2⟩
      have hb3 := hb.trans (hb2.mono hb.size)
      have HA := Lib.hid (awake_any _ (HT.out.up hb3 hb3.size))
      clear HP hb hb2
      go_wp2_with fail
      refine HA.out.mono ?_
      rintro e w3 ⟨rfl, hb4⟩
      go_wp2_with fail
      go_ret
      exact ⟨rfl, hb3.trans (hb4.mono hb3.size)⟩
    by_cases h1 : (S.size : Int) ≤ n
    · go_wp2_with fail
      refine HP.out.mono ?_
      rintro e w2 ⟨rfl, hb2⟩
      have hb3 := hb.trans (hb2.mono hb.size)
      have HA := Lib.hid (awake_any _ (HT.out.up hb3 hb3.size))
      clear HP hb hb2
      go_wp2_with fail
      refine HA.out.mono ?_
      rintro e w3 ⟨rfl, hb4⟩
      go_wp2_with fail
      go_ret
      exact ⟨rfl, hb3.trans (hb4.mono hb3.size)⟩
    obtain ⟨m, rfl⟩ := Int.eq_ofNat_of_zero_le (a := n) (by omega)
    have hm2 : (m : Int) ≤ (S.size : Int) := by omega
    have hx : (S.extract 0 m).size ≤ 1000000 := by rw [ByteArray.size_extract]; omega
    have hcase : ∃ (k : Nat) (q : Int), (parseL (S.extract 0 m).data.toList).2 = (k, q) ∧ (q = 0 ∨ (q = 8 ∧ k = m)) := by
      rw [ext_take, hstr]
      rcases HF.out m (by omega) with h | h
      · exact ⟨_, _, rfl, .inl h⟩
      · exact ⟨m, 8, h, .inr ⟨rfl, rfl⟩⟩
    obtain ⟨k, q, hkq, hcs⟩ := hcase
    have HQ := fun w => Lib.hid (parse_w (S.extract 0 m) w hx k q hkq)
    clear hkq hx hstr hsz hll HF
    go_wp2_with fail
    refine HP.out.mono ?_
    rintro e w2 ⟨rfl, hb2⟩
    have hb3 := hb.trans (hb2.mono hb.size)
    clear HP hb hb2
    go_wp2_with fail
    refine (HQ _).out.mono ?_
    rintro e w3 ⟨⟨t3, n3, x3, oe3, m3, ce3, rfl⟩, hb2⟩
    have hb4 := (hb3.trans (hb2.mono hb3.size)).alloc (hb3.trans (hb2.mono hb3.size)).size (.cells #[.int .i64 t3, .int .i64 n3, .string x3, .slice oe3 m3 ce3] 24)
    have HA := Lib.hid (awake_any _ (HT.out.up hb4 hb4.size))
    clear HQ hb3 hb2
    rcases hcs with rfl | ⟨rfl, rfl⟩
    · go_wp2_with fail
      refine HA.out.mono ?_
      rintro e w4 ⟨rfl, hb5⟩
      go_wp2_with fail
      go_ret
      exact ⟨rfl, hb4.trans (hb5.mono hb4.size)⟩
    · go_wp2_with fail
      refine HA.out.mono ?_
      rintro e w4 ⟨rfl, hb5⟩
      go_wp2_with fail
      go_ret
      exact ⟨rfl, hb4.trans (hb5.mono hb4.size)⟩
  · have hp : printL v = ([], v.chk) := by unfold printL; rw [if_neg hc]
    unfold RetS at HP
    rw [hp] at HP
    have fc := neq_t hc
    clear hc hp
    go_wp2_with fail
    refine HP.out.mono ?_
    rintro e w2 ⟨rfl, hb2⟩
    have hb3 := hb.trans (hb2.mono hb.size)
    have HA := Lib.hid (awake_any _ (HT.out.up hb3 hb3.size))
    clear HP hb hb2
    go_wp2_with fail
    refine HA.out.mono ?_
    rintro e w3 ⟨rfl, hb4⟩
    go_wp2_with fail
    go_ret
    exact ⟨rfl, hb3.trans (hb4.mono hb3.size)⟩
end Go.Proofs.YtokhcoocgddodaaDoor
