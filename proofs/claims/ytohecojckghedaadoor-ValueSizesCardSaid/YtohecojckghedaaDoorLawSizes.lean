/-
  The walk of ValueSizes.
-/
import Derived.Test.YtohecojckghedaaDoorLaw0
namespace Go.Proofs.YtohecojckghedaaDoor
open Go.RowKit
open Go.Sort (grow)

set_option maxRecDepth 100000 in
set_option maxHeartbeats 1600000 in
theorem lawSizes_any (v : V) (sl : Value) (w : World) (B : Nat) (hrep : Rep w B sl v.l) (hB : B ≤ w.heap.size) (hN : Names w) :
    Calls Tryd.prog 6 #[.agg #[.int .i64 v.t, .int .i64 v.n, .string v.s, sl]] w fun e w' => e = .returned (.bool true) ∧ Below w.heap.size w w' := by
  obtain ⟨oa, cap, rfl, hlc, hm, hel⟩ := hrep.slice
  go_enter Tryd.func6, Tryd.ntmps6
  go_wp2_with fail
  have hb0 := below1 w (.cells #[.int .i64 v.t, .int .i64 v.n, .string v.s, .slice oa v.l.length cap] 24)
  refine (small_any v _ _ B (hrep.later (hb0.mono hB)) (by simp; omega)).mono ?_
  rintro e w1 ⟨rfl, hb1⟩
  have hb2 := (Below.refl (w.heap.size + 1) (w.alloc (.cells #[.int .i64 v.t, .int .i64 v.n, .string v.s, .slice oa v.l.length cap] 24))).trans (hb1.mono (by simp))
  have hb3 : Below w.heap.size w w1 := hb0.trans (hb2.mono (by omega))
  have hs3 := hb3.size
  cases hsm : v.small
  · have HSM := Lib.hid hsm; clear hsm
    go_wp2_with fail
    refine (alive_any w1 (hN.later hb3)).mono ?_
    rintro e w2 ⟨rfl, hb4⟩
    go_wp2_with fail
    go_ret
    exact ⟨rfl, hb3.trans (hb4.mono hs3)⟩
  have HSM := Lib.hid hsm; clear hsm
  go_wp2_with fail
  go_loopw [3, 4] (fun s i wr => ∃ k : Nat, k ≤ v.l.length ∧ i = .int .i64 k ∧ s = .int .i64 (V.sizes 1 (v.l.take k)) ∧ Below (w.heap.size + 1) (w.alloc (.cells #[.int .i64 v.t, .int .i64 v.n, .string v.s, .slice oa v.l.length cap] 24)) wr) (fun _ i _ => v.l.length - (intOf i).toNat)
  case atStart => exact ⟨0, Nat.zero_le _, rfl, rfl, hb2⟩
  case round =>
    obtain ⟨k, hk, rfl, rfl, hbel'⟩ := hrel
    clear hb1 hb2 hb3 hs3
    have hbel : Below w.heap.size w wr := (below1 _ _).trans (hbel'.mono (by omega))
    obtain ⟨c0, c1, c2, c3⟩ := box_later hbel'
    have hs := hbel.size
    have hs1 := hbel'.size
    by_cases hlt : k < v.l.length
    · obtain ⟨b, off, oe, ce, rfl, hb, h0, h1, h2, h3, hr⟩ := hel k _ (List.getElem?_eq_getElem hlt)
      rw [← hbel.cell (p := ⟨b, _, none⟩) (Nat.lt_of_lt_of_le hb hB)] at h0 h1 h2 h3
      go_wp2_with fail
      refine (size_any _ _ _ B (hr.later (hbel.mono hB)) (by omega)).mono ?_
      rintro e w1 ⟨rfl, hb1⟩
      go_wp2_with fail
      go_roundw
      case rel =>
        refine ⟨k + 1, hlt, by go_num, ?_, hbel'.trans (hb1.mono (by simp at hs1; omega))⟩
        rw [List.take_succ_eq_append_getElem hlt, V.sizes_snoc]
      case measure => simp [intOf]; omega
    · obtain rfl : k = v.l.length := by omega
      rw [List.take_length, ← V.size_eq]
      clear hel hlt
      have hW0 := hrep.later (hbel.mono hB)
      have hNW := hN.later hbel
      have hBW : B ≤ wr.heap.size := Nat.le_trans hB hs
      have q0 := fun d os => cell_regrown c0 d os
      have q1 := fun d os => cell_regrown c1 d os
      have q2 := fun d os => cell_regrown c2 d os
      have q3 := fun d os => cell_regrown c3 d os
      have r25 := fun d os => Calls.regrown_of (size_any v _ (grow (redrawn wr d) os) B (hW0.later ((below_regrown wr d os).mono hBW)) (Nat.le_trans hBW (below_regrown wr d os).size))
      have r26 := fun d os => Calls.regrown_of (refSize_any v _ (grow (redrawn wr d) os) B (hW0.later ((below_regrown wr d os).mono hBW)) (Nat.le_trans hBW (below_regrown wr d os).size))
      have r21 := fun d os => Calls.regrown_of (alive_any (grow (redrawn wr d) os) (hNW.later (below_regrown wr d os)))
      go_wp2_with fail
      clear c0 c1 c2 c3 hN hrep hW0 hNW
      refine wp_region_quiet_below (by kernel_rfl) (by kernel_rfl) ?_
      repeat (quiet_step (first | exact r25 _ _ | exact r26 _ _ | exact r21 _ _))
      refine wpQuiet_nil ?_
      intro w' hw'
      obtain ⟨p, rfl⟩ := hw'
      go_wp2_with fail
      go_ret
      exact ⟨rfl, hbel.trans ((below_regrown wr _ _).mono hs)⟩

end Go.Proofs.YtohecojckghedaaDoor
