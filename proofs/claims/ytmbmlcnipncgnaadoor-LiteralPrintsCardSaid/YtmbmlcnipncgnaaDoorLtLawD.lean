/-
  Print of the reference; the walk of LiteralPrints. Nothing is assumed but the tables of the shelf.
-/
import Derived.Test.YtmbmlcnipncgnaaDoorLtAwake
import Derived.Test.YtmbmlcnipncgnaaDoorLtText
import Derived.Test.YtmbmlcnipncgnaaDoorLtRefCheck
import Derived.Test.YtmbmlcnipncgnaaDoorLtSmall
namespace Go.Proofs.YtmbmlcnipncgnaaDoor
open Go.RowKit

theorem box_laterD {w w1 : World} {o : Obj} (h : Below (w.heap.size + 1) (w.alloc o) w1) (i : Nat) : w1.cell? ⟨w.heap.size, i, none⟩ = (w.alloc o).cell? ⟨w.heap.size, i, none⟩ := h.cell (p := ⟨w.heap.size, i, none⟩) (by show w.heap.size < w.heap.size + 1; omega)
theorem neq_tD {a : Int} (h : a ≠ 0) : (a != 0) = true := bne_iff_ne.2 h

set_option maxRecDepth 100000 in
set_option maxHeartbeats 1600000 in
theorem rprint_any (v : V) (sl : Value) (w : World) (B : Nat) (hR : Rep w B sl v.l) (hB : B ≤ w.heap.size) :
    Calls Tryd.prog 8 #[.agg #[.int .i64 v.t, .int .i64 v.n, .string v.s, sl]] w fun e w' => RetS (printL v) e ∧ Below w.heap.size w w' := by
  obtain ⟨oa, cap, rfl, hlc, hm, -⟩ := hR.slice
  have hb0 := below1 w (.cells #[.int .i64 v.t, .int .i64 v.n, .string v.s, .slice oa v.l.length cap] 24)
  have HR0 := Lib.hid (hR.later (hb0.mono hB))
  have HC := Lib.hid (refCheck_any v _ (w.alloc (.cells #[.int .i64 v.t, .int .i64 v.n, .string v.s, .slice oa v.l.length cap] 24)) B HR0.out (by simp; omega))
  have hw1 : w.heap.size + 1 ≤ (w.alloc (.cells #[.int .i64 v.t, .int .i64 v.n, .string v.s, .slice oa v.l.length cap] 24)).heap.size := by simp
  clear hR
  by_cases hc : v.chk = 0
  · have hp : printL v = (v.lit, 0) := by unfold printL; rw [if_pos hc]
    have HPL := Lib.hid hp
    have HX := fun w1 h1 h2 => Lib.hid (rtext_any v (.slice oa v.l.length cap) w1 B h1 h2 hc)
    rw [hc] at HC
    clear hc hp
    go_enter Tryd.func8, Tryd.ntmps8
    go_wp2_with fail
    refine HC.out.mono ?_
    rintro e w1 ⟨rfl, hb1⟩
    have hv := (Below.refl (w.heap.size + 1) (w.alloc (.cells #[.int .i64 v.t, .int .i64 v.n, .string v.s, .slice oa v.l.length cap] 24))).trans (hb1.mono hw1)
    have hb := hb0.trans (hb1.mono hb0.size)
    have HR1 := Lib.hid (HR0.out.later (hb1.mono (by simp; omega)))
    have HT := Lib.hid (HX w1 HR1.out (Nat.le_trans hB hb.size)).out
    have g0 := box_laterD hv 0
    have g1 := box_laterD hv 1
    have g2 := box_laterD hv 2
    have g3 := box_laterD hv 3
    simp at g0 g1 g2 g3
    clear hv HR1 hb1 hb0 HR0 hw1 HX HC
    go_wp2_with fail
    refine HT.out.mono ?_
    rintro e w2 ⟨rfl, hb2⟩
    go_wp2_with fail
    go_ret2
    exact ⟨by rw [HPL.out]; rfl, hb.trans (hb2.mono hb.size)⟩
  · have hp : printL v = ([], v.chk) := by unfold printL; rw [if_neg hc]
    have HPL := Lib.hid hp
    have fc := neq_tD hc
    clear hc hp
    go_enter Tryd.func8, Tryd.ntmps8
    go_wp2_with fail
    refine HC.out.mono ?_
    rintro e w1 ⟨rfl, hb1⟩
    go_wp2_with fail
    go_ret2
    exact ⟨by rw [HPL.out]; rfl, hb0.trans (hb1.mono hb0.size)⟩

set_option maxRecDepth 100000 in
set_option maxHeartbeats 3200000 in
theorem prints_any (v : V) (sl : Value) (w : World) (B : Nat) (hR : Rep w B sl v.l) (hB : B ≤ w.heap.size) (hT : TabsB w.heap.size w) :
    Calls Tryd.prog 3 #[.agg #[.int .i64 v.t, .int .i64 v.n, .string v.s, sl]] w fun e w' => e = .returned (.bool true) ∧ Below w.heap.size w w' := by
  have HT := Lib.hid hT
  clear hT
  obtain ⟨oa, cap, rfl, hlc, hm, -⟩ := hR.slice
  have hb0 := below1 w (.cells #[.int .i64 v.t, .int .i64 v.n, .string v.s, .slice oa v.l.length cap] 24)
  have HR0 := Lib.hid (hR.later (hb0.mono hB))
  have HS := Lib.hid (small_some v _ (w.alloc (.cells #[.int .i64 v.t, .int .i64 v.n, .string v.s, .slice oa v.l.length cap] 24)) B 5 HR0.out (by simp; omega) (by decide))
  have hw1 : w.heap.size + 1 ≤ (w.alloc (.cells #[.int .i64 v.t, .int .i64 v.n, .string v.s, .slice oa v.l.length cap] 24)).heap.size := by simp
  clear hR
  go_enter Tryd.func3, Tryd.ntmps3
  go_wp2_with fail
  refine HS.out.mono ?_
  rintro e w1 ⟨⟨z, rfl⟩, hb1⟩
  clear HS
  have hv := (Below.refl (w.heap.size + 1) (w.alloc (.cells #[.int .i64 v.t, .int .i64 v.n, .string v.s, .slice oa v.l.length cap] 24))).trans (hb1.mono hw1)
  have hb := hb0.trans (hb1.mono hb0.size)
  have HR1 := Lib.hid (HR0.out.later (hb1.mono (by simp; omega)))
  clear hb1 hb0 HR0 hw1
  cases z
  · have HA := Lib.hid (awake_any _ (HT.out.up hb hb.size))
    clear hv
    go_wp2_with fail
    refine HA.out.mono ?_
    rintro e w2 ⟨rfl, hb2⟩
    go_wp2_with fail
    go_ret
    exact ⟨rfl, hb.trans (hb2.mono hb.size)⟩
  have HP := Lib.hid (print_v v _ w1 B HR1.out (Nat.le_trans hB hb.size) (HT.out.up hb hb.size))
  have HV := Lib.hid hv
  have g0 := box_laterD hv 0
  have g1 := box_laterD hv 1
  have g2 := box_laterD hv 2
  have g3 := box_laterD hv 3
  simp at g0 g1 g2 g3
  clear hv
  obtain ⟨S, z, hSz⟩ : ∃ (S : ByteArray) (z : Int), ∀ e, RetS (printL v) e ↔ e = .returned (.tuple #[.string S, .int .i64 z]) := ⟨_, _, fun _ => Iff.rfl⟩
  have HQ := fun w' h1 h2 => Lib.hid (rprint_any v (.slice oa v.l.length cap) w' B h1 h2)
  simp only [hSz] at HP HQ
  clear hSz
  go_wp2_with fail
  refine HP.out.mono ?_
  rintro e w2 ⟨rfl, hb2⟩
  have hb3 := hb.trans (hb2.mono hb.size)
  have HR2 := Lib.hid (HR1.out.later (hb2.mono (Nat.le_trans hB hb.size)))
  have HQ2 := Lib.hid (HQ w2 HR2.out (Nat.le_trans hB hb3.size)).out
  have hv2 := HV.out.trans (hb2.mono (by have := HV.out.size; simp at this; omega))
  have g0 := box_laterD hv2 0
  have g1 := box_laterD hv2 1
  have g2 := box_laterD hv2 2
  have g3 := box_laterD hv2 3
  simp at g0 g1 g2 g3
  clear HP HQ hb hb2 HV hv2 HR1 HR2
  go_wp2_with fail
  refine HQ2.out.mono ?_
  rintro e w3 ⟨rfl, hb4⟩
  have hb5 := hb3.trans (hb4.mono hb3.size)
  have HA := Lib.hid (awake_any _ (HT.out.up hb5 hb5.size))
  clear HQ2 hb3 hb4
  go_wp2_with fail
  refine HA.out.mono ?_
  rintro e w4 ⟨rfl, hb6⟩
  go_wp2_with fail
  go_ret
  exact ⟨rfl, hb5.trans (hb6.mono hb5.size)⟩
end Go.Proofs.YtmbmlcnipncgnaaDoor
