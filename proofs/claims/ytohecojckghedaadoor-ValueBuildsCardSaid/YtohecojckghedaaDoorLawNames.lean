/-
  The walk of ValueNames.
-/
import Derived.Test.YtohecojckghedaaDoorLaw0
namespace Go.Proofs.YtohecojckghedaaDoor
open Go.RowKit

theorem V.cmps_self (l : List V) (h : ∀ x, x ∈ l → x.cmp x = 0) : V.cmps l l = 0 := by
  induction l with
  | nil => rw [V.cmps_nil]; rfl
  | cons a l ih => rw [V.cmps_cons, if_neg (by rw [h a (List.mem_cons_self ..)]; simp)]; exact ih fun x hx => h x (List.mem_cons_of_mem _ hx)
theorem V.cmp_self (v : V) : v.cmp v = 0 := by
  induction v using V.ind with
  | h v ih => rw [V.cmp_eq, if_neg (by rw [cmpI_eq rfl]; simp), if_neg (by rw [cmpI_eq rfl]; simp), if_neg (by rw [cmpS_eq rfl]; simp)]; exact V.cmps_self _ ih
theorem V.eqb_self (v : V) : v.eqb v = true := by unfold V.eqb; rw [V.cmp_self]; rfl

set_option maxRecDepth 100000 in
set_option maxHeartbeats 1600000 in
theorem lawNames_any (t : Int) (s : ByteArray) (w : World) (hN : Names w) :
    Calls Tryd.prog 7 #[.int .i64 t, .string s] w fun e w' => e = .returned (.bool true) ∧ Below w.heap.size w w' := by
  by_cases hl : 100 < (s.size : Int)
  · go_enter Tryd.func7, Tryd.ntmps7
    go_wp2_with fail
    refine (alive_any w hN).mono ?_
    rintro e w2 ⟨rfl, hb4⟩
    go_wp2_with fail
    go_ret
    exact ⟨rfl, hb4⟩
  go_enter Tryd.func7, Tryd.ntmps7
  go_wp2_with fail
  refine (parseType_any s w hN).mono ?_
  rintro e w' ⟨rfl, rfl⟩
  generalize hp : tparse s = tp
  have HP := Lib.hid hp; clear hp
  obtain ⟨bp, hbp⟩ : ∃ b, decide (tp ≠ 0) = b := ⟨_, rfl⟩
  rw [hbp]
  have HBP := Lib.hid hbp; clear hbp
  go_wp2_with fail
  refine (refParseType_any s w).mono ?_
  rintro e w1 ⟨rfl, hb1⟩
  rw [HP.out, HBP.out]
  go_wp2_with fail
  refine (default_any t w1).mono ?_
  rintro e w2 ⟨rfl, hb2⟩
  have hx2 : Below w.heap.size w w2 := hb1.trans (hb2.mono hb1.size)
  clear hb1 hb2
  go_wp2_with fail
  refine (refDefault_any t _).mono ?_
  rintro e w4 ⟨rfl, hb4⟩
  obtain ⟨c0, c1, c2, c3⟩ := box_later ((Below.refl (w2.heap.size + 1) _).trans (hb4.mono (by simp)))
  have hx4 : Below w.heap.size w w4 := (hx2.alloc hx2.size _).trans (hb4.mono (by have := hx2.size; simp; omega))
  have hs24 : w2.heap.size < w4.heap.size := by have := hb4.size; simp at this; omega
  clear hb4
  go_wp2_with fail
  have hN5 : Names (w4.alloc (.cells #[.int .i64 (dflt t).t, .int .i64 (dflt t).n, .string (dflt t).s, .slice none 0 0] 24)) := (hN.later hx4).later (below1 _ _)
  refine (typeName_any t _ hN5).mono ?_
  rintro e w' ⟨rfl, rfl⟩
  go_wp2_with fail
  refine (refTypeName_any t _).mono ?_
  rintro e w6 ⟨rfl, hb6⟩
  have hb6' := (Below.refl (w4.heap.size + 1) (w4.alloc (.cells #[.int .i64 (dflt t).t, .int .i64 (dflt t).n, .string (dflt t).s, .slice none 0 0] 24))).trans (hb6.mono (by simp))
  obtain ⟨d0, d1, d2, d3⟩ := box_later hb6'
  have hx64 : Below w4.heap.size w4 w6 := (below1 _ _).trans (hb6'.mono (by omega))
  rw [← hx64.cell (p := ⟨w2.heap.size, _, none⟩) hs24] at c0 c1 c2 c3
  have hx6 : Below w.heap.size w w6 := hx4.trans (hx64.mono hx4.size)
  have hN6 := hN.later hx6
  clear hb6 hb6' hx64 hN5 hx2 hx4
  go_wp2_with fail
  refine (refEqual_any (dflt t) (dflt t) _ _ w6 0 (by rw [dflt_l]; exact Rep.nil) (by rw [dflt_l]; exact Rep.nil) (Nat.zero_le _)).mono ?_
  rintro e w7 ⟨rfl, hb7⟩
  rw [V.eqb_self]
  go_wp2_with fail
  refine (alive_any w7 (hN6.later hb7)).mono ?_
  rintro e w8 ⟨rfl, hb8⟩
  go_wp2_with fail
  go_ret
  exact ⟨rfl, (hx6.trans (hb7.mono hx6.size)).trans (hb8.mono (by have := hx6.size; have := hb7.size; omega))⟩

end Go.Proofs.YtohecojckghedaaDoor
