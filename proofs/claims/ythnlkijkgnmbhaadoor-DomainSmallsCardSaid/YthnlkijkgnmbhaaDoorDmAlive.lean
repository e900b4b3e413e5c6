/-
  The law's alive. Nothing is assumed.
-/
import Derived.Test.YthnlkijkgnmbhaaDoorDmSmall
namespace Go.Proofs.YthnlkijkgnmbhaaDoor
open Go.RowKit

def exL : List (List V) := [[fInt 0, fInt 1, fInt 2], [fBool 0, fBool 1]]
theorem ex_e : smE [2, 1] 3 = 0 := by decide +kernel
theorem ex_l : smLs [2, 1] 3 = exL := by
  unfold smLs
  rw [if_pos ex_e]
  rfl
theorem ex_n : szN exL = 6 ∧ szE exL = 0 := ⟨by rfl, by rfl⟩
theorem ex_v : (fInt 2).n = -1 := by rfl

theorem fst_some {t : Int} (h : t ∈ [(2 : Int), 1]) : FstC t (fstOf t) 65 := by
  simp only [List.mem_cons, List.not_mem_nil, or_false] at h
  rcases h with rfl | rfl
  · exact fun i w hi => fstInt_any i w (by omega)
  · exact fun i w hi => fstBool_any i w (by omega)

theorem two_ints (w : World) (t : TypeId) : LInts (w.alloc (.cells #[.int .i64 2, .int .i64 1] t)) (w.heap.size + 1) (.slice (some ⟨w.heap.size, 0, none⟩) 2 2) [2, 1] := by
  refine ⟨_, 2, rfl, by simp, fun i a ha => ?_⟩
  match i, ha with
  | 0, ha => cases ha; exact ⟨w.heap.size, 0, _, rfl, Nat.lt_succ_self _, cell_at _ _ _ _ _ rfl, rfl⟩
  | 1, ha => cases ha; exact ⟨w.heap.size, 0, _, rfl, Nat.lt_succ_self _, cell_at _ _ _ _ _ rfl, rfl⟩
  | i + 2, ha => simp at ha

set_option maxRecDepth 100000 in
set_option maxHeartbeats 1600000 in
theorem alive_any (w : World) (hN : Names w) : Calls Tryd.prog 8 #[] w fun e w' => e = .returned (.bool true) ∧ Below w.heap.size w w' := by
  have HS := Lib.hid (smallOf_any [2, 1] (.slice (some ⟨w.heap.size, 0, none⟩) 2 2) 3 (w.alloc (.cells #[.int .i64 2, .int .i64 1] 3)) (w.heap.size + 1) (two_ints w _) (by simp) (hN.later (below1 _ _)) (fun t ht _ => fst_some ht))
  rw [ex_e, ex_l] at HS
  go_enter Tryd.func8, Tryd.ntmps8
  go_wp2_with fail
  refine HS.out.mono ?_
  rintro e w1 ⟨⟨sl, rfl, hax⟩, hb1⟩
  obtain ⟨oa, cp, rfl, _, _⟩ := hax.form
  have hl2 : exL.length = 2 := rfl
  rw [hl2] at hax ⊢
  have hba : Below w1.heap.size w1 (w1.alloc (.cells #[.slice oa 2 cp] 24)) := below1 _ _
  have HZ := Lib.hid (size_any exL (.slice oa 2 cp) (w1.alloc (.cells #[.slice oa 2 cp] 24)) w1.heap.size (hax.later hba) (by simp))
  rw [ex_n.1, ex_n.2] at HZ
  obtain ⟨b, off, oe, ce, rfl, hb, hc, hr⟩ := hax.at_ (i := 0) (a := [fInt 0, fInt 1, fInt 2]) rfl
  obtain ⟨oa3, ca3, hsl, _, _, hel⟩ := hr.slice
  cases hsl
  obtain ⟨b2, off2, oe2, ce2, rfl, hb2, c0, c1, c2, c3, _⟩ := hel 2 (fInt 2) rfl
  rw [ex_v] at c1
  have HB1 := Lib.hid ((below1 w (.cells #[.int .i64 2, .int .i64 1] 3)).trans (hb1.mono (by simp)))
  have HC := Lib.hid (And.intro hc c1)
  clear hax hr hel c0 c1 c2 c3 hc hb1
  have hd : (w1.alloc (.cells #[.slice (some ⟨b, off, none⟩) 2 cp] 24)).cell? ⟨w1.heap.size, 0, none⟩ = some (.slice (some ⟨b, off, none⟩) 2 cp) := cell_at _ _ _ _ _ rfl
  go_wp2_with fail
  refine HZ.out.mono ?_
  rintro e w2 ⟨rfl, hb3⟩
  have hd2 := (hb3.cell (p := ⟨w1.heap.size, 0, none⟩) (by simp)).trans hd
  have hb4 := hba.trans (hb3.mono (by simp))
  have hc := (hb4.cell (p := ⟨b, _, none⟩) hb).trans HC.out.1
  have hc1 := (hb4.cell (p := ⟨b2, _, none⟩) hb2).trans HC.out.2
  have HB4 := Lib.hid hb4
  clear hd hb3 hb4 hba
  simp only [List.length_cons, List.length_nil, Nat.reduceAdd, Nat.add_zero, Nat.reduceMul] at hc hc1
  go_wp2_with fail
  trace_state
  go_ret
  exact ⟨rfl, HB1.out.trans (HB4.out.mono HB1.out.size)⟩

end Go.Proofs.YthnlkijkgnmbhaaDoor
