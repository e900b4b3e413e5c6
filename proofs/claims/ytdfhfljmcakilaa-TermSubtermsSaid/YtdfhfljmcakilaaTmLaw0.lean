/-
  The statements' own helper (alive). Nothing is assumed.
-/
import Derived.Test.YtdfhfljmcakilaaTmCmp
import Derived.Lib.QuietBelow
import Derived.BigQuiet
namespace Go.Proofs.Ytdfhfljmcakilaa
open Go.RowKit
open Go.Sort (grow)

def t0 : T := .mk 1 [.mk 0 [], .mk 0 []]
def c0 : T := .mk 0 []
theorem pre_c0 : c0.pre = [c0] := by unfold c0; rw [T.pre, T.pres_nil]
theorem pre_t0 : t0.pre = [t0, c0, c0] := by
  unfold t0
  rw [T.pre, T.pres_cons, T.pres_cons, T.pres_nil]
  have h := pre_c0
  unfold c0 at h ⊢
  rw [h]
  rfl
theorem size_c0 : c0.size = 1 := by unfold T.size; rw [pre_c0]; rfl
theorem size_t0 : t0.size = 3 := by unfold T.size; rw [pre_t0]; rfl
theorem depth_c0 : c0.depth = 1 := by unfold c0; rw [T.depth, T.depths]
theorem depth_t0 : t0.depth = 2 := by
  have h := depth_c0
  unfold c0 at h
  unfold t0
  rw [T.depth, T.depths, T.depths, T.depths, h]
  rfl
theorem cmp_t0 : t0.cmp c0 = 1 := by
  have h : c0.cmp t0 = -1 := T.cmp_small (by rw [size_c0, size_t0]; omega)
  rw [T.cmp_swap, h]
  rfl

set_option maxRecDepth 100000 in
set_option maxHeartbeats 1600000 in
theorem alive_any (w : World) : Calls Try.prog 10 #[] w fun e w' => e = .returned (.bool true) ∧ Below w.heap.size w w' := by
  have hR := Rep.new2 (w := w) (B := 0) (C := w.heap.size + 1) (n := w.heap.size) (sl := .slice none 0 0) (sl' := .slice none 0 0) (v := c0) (v' := c0) (t := 24) Rep.nil Rep.nil (Nat.zero_le _) rfl (Nat.le_refl _)
  have HBB : Below w.heap.size w ((w.alloc (.cells #[.int .i64 0, .slice none 0 0, .int .i64 0, .slice none 0 0] 24)).alloc (.cells #[.int .i64 1, .slice (some ⟨w.heap.size, 0, none⟩) 2 2] 24)) := below2 _ _ _
  have hR2 : Rep ((w.alloc (.cells #[.int .i64 0, .slice none 0 0, .int .i64 0, .slice none 0 0] 24)).alloc (.cells #[.int .i64 1, .slice (some ⟨w.heap.size, 0, none⟩) 2 2] 24)) (w.heap.size + 1) (.slice (some ⟨w.heap.size, 0, none⟩) 2 2) t0.l := hR.later ((below1 _ _).mono (by simp))
  have k0 : ((w.alloc (.cells #[.int .i64 0, .slice none 0 0, .int .i64 0, .slice none 0 0] 24)).alloc (.cells #[.int .i64 1, .slice (some ⟨w.heap.size, 0, none⟩) 2 2] 24)).cell? ⟨w.heap.size, 0, none⟩ = some (.int .i64 0) := by
    rw [World.cell?_alloc_past _ _ _ (by simp)]; exact cell_at _ _ _ _ _ rfl
  have k1 : ((w.alloc (.cells #[.int .i64 0, .slice none 0 0, .int .i64 0, .slice none 0 0] 24)).alloc (.cells #[.int .i64 1, .slice (some ⟨w.heap.size, 0, none⟩) 2 2] 24)).cell? ⟨w.heap.size, 1, none⟩ = some (.slice none 0 0) := by
    rw [World.cell?_alloc_past _ _ _ (by simp)]; exact cell_at _ _ _ _ _ rfl
  have BT : Box ((w.alloc (.cells #[.int .i64 0, .slice none 0 0, .int .i64 0, .slice none 0 0] 24)).alloc (.cells #[.int .i64 1, .slice (some ⟨w.heap.size, 0, none⟩) 2 2] 24)) (w.heap.size + 1) t0 (.slice (some ⟨w.heap.size, 0, none⟩) 2 2) := Box.new t0 _ _ (by simp)
  have hzz : ((w.alloc (.cells #[.int .i64 0, .slice none 0 0, .int .i64 0, .slice none 0 0] 24)).alloc (.cells #[.int .i64 1, .slice (some ⟨w.heap.size, 0, none⟩) 2 2] 24)).heap.size = w.heap.size + 2 := by simp
  clear hR
  go_enter Try.func10, Try.ntmps10
  go_wp2_with fail
  generalize (w.alloc (.cells #[.int .i64 0, .slice none 0 0, .int .i64 0, .slice none 0 0] 24)).alloc (.cells #[.int .i64 1, .slice (some ⟨w.heap.size, 0, none⟩) 2 2] 24) = W at *
  obtain ⟨b0, b1⟩ := BT
  have b0 : W.cell? ⟨w.heap.size + 1, 0, none⟩ = some (.int .i64 1) := b0
  have hBW : w.heap.size + 1 ≤ W.heap.size := by omega
  have qb0 := fun d os => cell_regrown b0 d os
  have qb1 := fun d os => cell_regrown b1 d os
  have qk0 := fun d os => cell_regrown k0 d os
  have qk1 := fun d os => cell_regrown k1 d os
  have rs : ∀ d os, _ := fun d os => Calls.regrown_of (size_any t0 (.slice (some ⟨w.heap.size, 0, none⟩) 2 2) (grow (redrawn W d) os) (w.heap.size + 1) (hR2.later ((below_regrown W d os).mono hBW)) (Nat.le_trans hBW (below_regrown W d os).size) (by rw [size_t0]; omega))
  have rd : ∀ d os, _ := fun d os => Calls.regrown_of (depth_any t0 (.slice (some ⟨w.heap.size, 0, none⟩) 2 2) (grow (redrawn W d) os) (w.heap.size + 1) (hR2.later ((below_regrown W d os).mono hBW)) (Nat.le_trans hBW (below_regrown W d os).size) (by rw [size_t0]; omega))
  have rc : ∀ d os, _ := fun d os => Calls.regrown_of (compare_any t0 c0 (.slice (some ⟨w.heap.size, 0, none⟩) 2 2) (.slice none 0 0) (grow (redrawn W d) os) (w.heap.size + 1) (hR2.later ((below_regrown W d os).mono hBW)) Rep.nil (Nat.le_trans hBW (below_regrown W d os).size) (by rw [size_t0]; omega) (by rw [size_c0]; omega))
  rw [size_t0] at rs
  rw [depth_t0] at rd
  rw [cmp_t0] at rc
  have e1 : t0.r = 1 := rfl
  have e2 : c0.r = 0 := rfl
  rw [e1] at rs rd rc
  rw [e2] at rc
  have n3 : ((3 : Nat) : Int) = 3 := rfl
  have n2 : ((2 : Nat) : Int) = 2 := rfl
  rw [n3] at rs
  rw [n2] at rd
  clear b0 b1 k0 k1 e1 e2 n3 n2 hR2
  refine wp_region_quiet_below (by kernel_rfl) (by kernel_rfl) ?_
  repeat (quiet_step (first | with_reducible exact rs _ _ | with_reducible exact rd _ _ | with_reducible exact rc _ _))
  refine wpQuiet_nil ?_
  intro w' hw'
  obtain ⟨p, rfl⟩ := hw'
  clear qb0 qb1 qk0 qk1 rs rd rc
  have hb4 := below_regrown W p.d p.os
  generalize grow (redrawn W p.d) p.os = w4 at *
  go_wp2_with fail
  go_ret
  exact ⟨rfl, HBB.trans (hb4.mono (by omega))⟩

theorem small_one (v : T) : smallT [v] = decide (v.size ≤ 40) := by simp [smallT]
theorem small_two (a b : T) : smallT [a, b] = (decide (a.size ≤ 40) && decide (b.size ≤ 40)) := by simp [smallT]
theorem small_three (a b c : T) : smallT [a, b, c] = (decide (a.size ≤ 40) && (decide (b.size ≤ 40) && decide (c.size ≤ 40))) := by simp [smallT]

end Go.Proofs.Ytdfhfljmcakilaa
