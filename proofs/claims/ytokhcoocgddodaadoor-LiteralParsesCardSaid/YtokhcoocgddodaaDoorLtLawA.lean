/-
  The walks of LiteralQuotes and LiteralParses. Nothing is assumed but the tables of the shelf.
-/
import Derived.Test.YtokhcoocgddodaaDoorLtAwake
import Derived.Test.YtokhcoocgddodaaDoorLtRefP
import Derived.Test.YtokhcoocgddodaaDoorLtRefQ
import Derived.Test.YtokhcoocgddodaaDoorLtRefCmp
namespace Go.Proofs.YtokhcoocgddodaaDoor
open Go.RowKit

theorem V.cmps_self (l : List V) (h : ∀ x, x ∈ l → x.cmp x = 0) : V.cmps l l = 0 := by
  induction l with
  | nil => rw [V.cmps_nil]; rfl
  | cons a l ih => rw [V.cmps_cons, if_neg (by rw [h a (List.mem_cons_self ..)]; simp)]; exact ih fun x hx => h x (List.mem_cons_of_mem _ hx)
theorem V.cmp_self (v : V) : v.cmp v = 0 := by
  induction v using V.ind with
  | h v ih => rw [V.cmp_eq, if_neg (by rw [cmpI_eq rfl]; simp), if_neg (by rw [cmpI_eq rfl]; simp), if_neg (by rw [cmpS_eq rfl]; simp)]; exact V.cmps_self _ ih
theorem unq_cases (s : ByteArray) : ∃ (t : ByteArray) (i : Nat) (z : Int), ∀ e, RetU (unquoteL s.data.toList) e ↔ e = .returned (.tuple #[.string t, .int .i64 (i : Int), .int .i64 z]) := ⟨_, _, _, fun _ => Iff.rfl⟩

set_option maxRecDepth 100000 in
set_option maxHeartbeats 1600000 in
theorem quotes_any (s : ByteArray) (w : World) (hT : TabsB w.heap.size w) :
    Calls Tryd.prog 5 #[.string s] w fun e w' => e = .returned (.bool true) ∧ Below w.heap.size w w' := by
  have HT := Lib.hid hT
  clear hT
  by_cases hs : 1000 < s.size
  · have HA := Lib.hid (awake_any w HT.out)
    go_enter Tryd.func5, Tryd.ntmps5
    go_wp2_with fail
    refine HA.out.mono ?_
    rintro e w1 ⟨rfl, hb⟩
    go_wp2_with fail
    go_ret
    exact ⟨rfl, hb⟩
  · obtain ⟨t, i, z, hu⟩ := unq_cases s
    have HU := Lib.hid (unquote_any s w (by omega))
    have HV := fun w => Lib.hid (runquote_any s w (by omega))
    have HQ := fun w hT => Lib.hid (quote_any s w (by omega) hT)
    have HR := fun w => Lib.hid (rquote_any s w (by omega))
    simp only [hu] at HU HV
    clear hu
    generalize str (quoteL s.data.toList) = q at *
    go_enter Tryd.func5, Tryd.ntmps5
    go_wp2_with fail
    refine HU.out.mono ?_
    rintro e w1 ⟨rfl, hb⟩
    clear HU
    go_wp2_with fail
    refine (HV _).out.mono ?_
    rintro e w2 ⟨rfl, hb1⟩
    replace hb := hb.trans (hb1.mono hb.size)
    clear hb1 HV
    have HQ2 := HQ w2 (fun wr h1 => (HT.out wr (hb.trans (h1.mono hb.size))).1)
    clear HQ
    go_wp2_with fail
    refine HQ2.out.mono ?_
    rintro e w3 ⟨rfl, hb1⟩
    replace hb := hb.trans (hb1.mono hb.size)
    clear hb1 HQ2
    go_wp2_with fail
    refine (HR _).out.mono ?_
    rintro e w' ⟨rfl, hw'⟩; obtain rfl := hw'.symm
    clear HR
    have HA := Lib.hid (awake_any _ (HT.out.up hb hb.size))
    go_wp2_with fail
    refine HA.out.mono ?_
    rintro e w4 ⟨rfl, hb1⟩
    go_wp2_with fail
    go_ret
    exact ⟨rfl, hb.trans (hb1.mono hb.size)⟩

set_option maxRecDepth 100000 in
set_option maxHeartbeats 1600000 in
theorem parses_any (s : ByteArray) (w : World) (hT : TabsB w.heap.size w) :
    Calls Tryd.prog 4 #[.string s] w fun e w' => e = .returned (.bool true) ∧ Below w.heap.size w w' := by
  have HT := Lib.hid hT
  clear hT
  by_cases hs : 1500 < s.size
  · have HA := Lib.hid (awake_any w HT.out)
    go_enter Tryd.func4, Tryd.ntmps4
    go_wp2_with fail
    refine HA.out.mono ?_
    rintro e w1 ⟨rfl, hb⟩
    go_wp2_with fail
    go_ret
    exact ⟨rfl, hb⟩
  · have HU := Lib.hid (parse_any s w (by omega))
    have HV := fun w => Lib.hid (rparse_any s w (by omega))
    generalize parseL s.data.toList = p at *
    obtain ⟨v, i, z⟩ := p
    dsimp only [RetP] at HU HV
    go_enter Tryd.func4, Tryd.ntmps4
    go_wp2_with fail
    refine HU.out.mono ?_
    rintro e w1 ⟨⟨oe, ce, rfl, hR1⟩, hb⟩
    clear HU
    have HR1 := Lib.hid (hR1.rep (B := w1.heap.size) (fun b hb => hb.2))
    clear hR1
    go_wp2_with fail
    have hb1 := hb.alloc hb.size (.cells #[.int .i64 v.t, .int .i64 v.n, .string v.s, .slice oe v.l.length ce] 24)
    have HB1 := Lib.hid hb1
    refine (HV _).out.mono ?_
    rintro e w2 ⟨⟨of', cf, rfl, hR2⟩, hb2⟩
    clear HV
    have HR2 := Lib.hid (hR2.rep (B := w2.heap.size) (fun b hb => hb.2))
    have HR3 := Lib.hid (((HR1.out.later (below1 w1 _)).later (hb2.mono (by simp))).mono (show w1.heap.size ≤ w2.heap.size from Nat.le_trans (by simp) hb2.size))
    have hb3 := hb1.trans (hb2.mono hb1.size)
    obtain ⟨c0, c1, c2, c3⟩ := box_later (hb2.mono (by simp))
    have hw12 : w1.heap.size < w2.heap.size := Nat.lt_of_lt_of_le (by simp) hb2.size
    clear hR2 HR1 hb1 hb HB1 hb2
    have hb4 := hb3.alloc hb3.size (.cells #[.int .i64 v.t, .int .i64 v.n, .string v.s, .slice of' v.l.length cf] 24)
    have HE := Lib.hid (refEqual_any v v _ _ (w2.alloc (.cells #[.int .i64 v.t, .int .i64 v.n, .string v.s, .slice of' v.l.length cf] 24)) w2.heap.size (HR3.out.later (below1 w2 _)) (HR2.out.later (below1 w2 _)) (by simp))
    rw [show v.eqb v = true by unfold V.eqb; rw [V.cmp_self]; rfl] at HE
    clear HR2 HR3
    go_wp2_with fail
    refine HE.out.mono ?_
    rintro e w3 ⟨rfl, hb5⟩
    clear HE
    have hb := hb4.trans (hb5.mono hb4.size)
    have HA := Lib.hid (awake_any _ (HT.out.up hb hb.size))
    go_wp2_with fail
    refine HA.out.mono ?_
    rintro e w4 ⟨rfl, hb6⟩
    go_wp2_with fail
    go_ret
    exact ⟨rfl, hb.trans (hb6.mono hb.size)⟩
end Go.Proofs.YtokhcoocgddodaaDoor
