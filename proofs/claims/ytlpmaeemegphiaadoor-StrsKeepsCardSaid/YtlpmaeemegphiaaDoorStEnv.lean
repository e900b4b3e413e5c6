/-
  What a row of layer 4 gives of the package-level variables; Find, Show; the examples. Nothing is assumed.
-/
import Derived.Test.YtlpmaeemegphiaaDoorStCase
import Derived.Test.YtlpmaeemegphiaaDoorShelf
import Derived.Lib.LaidTab
namespace Go.Proofs.YtlpmaeemegphiaaDoor
open Go.RowKit

/-- The two variables that the library reads here. -/
def Env (w : World) : Prop := (∃ m, w.cell? ⟨0, 0, none⟩ = some (.int .i64 m)) ∧ Lib.TabIs Tryd.prog w "internal/strconv.uint64pow10" .u64 Lib.pow10Tab

theorem gPow : Tryd.prog.globalNamed "internal/strconv.uint64pow10" = some 1 := by kernel_rfl
theorem Env.later {w w' : World} (h : Env w) (hb : Below w.heap.size w w') : Env w' := by
  obtain ⟨⟨m, hm⟩, ht⟩ := h
  refine ⟨⟨m, (hb.cell (p := ⟨0, 0, none⟩) (World.block_lt_of_cell? _ _ hm)).trans hm⟩, ?_⟩
  unfold Lib.TabIs World.var? at *
  rw [gPow] at *
  simp only [Option.bind_some] at *
  rw [hb.block]
  · exact ht
  · rcases Nat.lt_or_ge 1 w.heap.size with h | h
    · exact h
    · rw [Array.getElem?_eq_none h] at ht; cases ht

theorem below_grow (w : World) (k : Nat) (os : Array Obj) : Below w.heap.size w (Sort.grow (w.drewN k) os) := by
  refine ⟨rfl, rfl, rfl, ?_, fun i hi => ?_⟩
  · show w.heap.size ≤ (w.heap ++ os).size
    simp
  · show (w.heap ++ os)[i]? = w.heap[i]?
    rw [Array.getElem?_append_left hi]

theorem find_any (s t : ByteArray) (w : World) (hE : Env w) (hs : s.size ≤ 1000) :
    Calls Tryd.prog 27 #[.string s, .string t] w fun e w' => e = .returned (.int .i64 (Lib.index s.data.toList t.data.toList)) ∧ w' = w := by
  obtain ⟨⟨m, hm⟩, _⟩ := hE
  have HC := Tryd.strings_Index s t m w (by omega) hm
  go_enter Tryd.func27, Tryd.ntmps27
  go_wp2_with fail
  refine HC.mono ?_
  rintro e w' ⟨rfl, hw'⟩; obtain rfl := hw'.symm
  clear HC
  go_wp2_with fail
  go_ret
  exact ⟨rfl, rfl⟩

theorem show_any (n : Int) (w : World) (hE : Env w) (h0 : -9223372036854775808 ≤ n) (h1 : n ≤ 9223372036854775807) :
    Calls Tryd.prog 31 #[.int .i64 n] w fun e w' => e = .returned (.string (str (Lib.itoa n))) ∧ Below w.heap.size w w' := by
  have HC := Tryd.strconv_FormatInt_10 n h0 h1 w hE.2
  clear h0 h1
  go_enter Tryd.func31, Tryd.ntmps31
  go_wp2_with fail
  refine HC.mono ?_
  rintro e w' ⟨rfl, k, os, rfl⟩
  clear HC
  go_wp2_with fail
  go_ret
  exact ⟨rfl, below_grow _ _ _⟩

theorem itoa7 : Lib.itoa (-7) = [45, 55] := by
  unfold Lib.itoa
  rw [if_pos (by decide), show (-7 : Int).natAbs = 7 from rfl, dec_small (by decide)]
  rfl
theorem upper_ex (w : World) : Calls Tryd.prog 19 #[.string ⟨#[97, 66, 49]⟩] w fun e w' => e = .returned (.string ⟨#[65, 66, 49]⟩) ∧ Below w.heap.size w w' := upper_any ⟨#[97, 66, 49]⟩ w
theorem find_ex (w : World) (hE : Env w) : Calls Tryd.prog 27 #[.string ⟨#[97, 98]⟩, .string ⟨#[99]⟩] w fun e w' => e = .returned (.int .i64 (-1)) ∧ w' = w := find_any ⟨#[97, 98]⟩ ⟨#[99]⟩ w hE (by decide)
theorem show_ex (w : World) (hE : Env w) : Calls Tryd.prog 31 #[.int .i64 (-7)] w fun e w' => e = .returned (.string ⟨#[45, 55]⟩) ∧ Below w.heap.size w w' := by
  have := show_any (-7) w hE (by decide) (by decide)
  rw [itoa7] at this
  exact this

set_option maxHeartbeats 800000 in
theorem alive_any (w : World) (hE : Env w) : Calls Tryd.prog 12 #[] w fun e w' => e = .returned (.bool true) ∧ Below w.heap.size w w' := by
  go_enter Tryd.func12, Tryd.ntmps12
  go_wp2_with fail
  refine (upper_ex _).mono ?_
  rintro e w1 ⟨rfl, hb⟩
  have HE := Lib.hid (hE.later hb)
  go_wp2_with fail
  refine (find_ex _ HE.out).mono ?_
  rintro e w' ⟨rfl, hw'⟩; obtain rfl := hw'.symm
  go_wp2_with fail
  refine (show_ex _ HE.out).mono ?_
  rintro e w2 ⟨rfl, hb1⟩
  replace hb := hb.trans (hb1.mono hb.size)
  clear hb1
  go_wp2_with fail
  go_ret
  exact ⟨rfl, hb⟩

end Go.Proofs.YtlpmaeemegphiaaDoor
