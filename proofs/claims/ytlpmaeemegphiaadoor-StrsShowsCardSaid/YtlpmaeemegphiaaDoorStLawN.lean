/-
  The walk of StrsShows. Nothing is assumed.
-/
import Derived.Test.YtlpmaeemegphiaaDoorStRead
import Derived.Lib.ItoaLen
import Derived.Test.YtlpmaeemegphiaaDoorStEnv
namespace Go.Proofs.YtlpmaeemegphiaaDoor
open Go.RowKit

theorem itoa_short (n : Int) (h0 : -9223372036854775808 ≤ n) (h1 : n ≤ 9223372036854775807) : (str (Lib.itoa n)).size ≤ 1000 := by
  rw [← list_len]
  have := Lib.itoa_length_le n h0 h1
  show (Lib.itoa n).length ≤ 1000
  omega
set_option maxRecDepth 100000 in
set_option maxHeartbeats 1600000 in
theorem lawShows_any (n : Int) (w : World) (hE : Env w) (h0 : -9223372036854775808 ≤ n) (h1 : n ≤ 9223372036854775807) :
    Calls Tryd.prog 8 #[.int .i64 n] w fun e w' => e = .returned (.bool true) ∧ Below w.heap.size w w' := by
  have H1 := show_any n w hE h0 h1
  have H2 := fun w => rshow_any n w h0 h1
  have H3 := fun w => read_any (str (Lib.itoa n)) w (itoa_short n h0 h1)
  have e1 : rdN (str (Lib.itoa n)).data.toList = if -1000000 ≤ n ∧ n ≤ 1000000 then n else 0 := (read_show n).2
  have e2 : rdE (str (Lib.itoa n)).data.toList = if -1000000 ≤ n ∧ n ≤ 1000000 then 0 else 1 := (read_show n).1
  rw [e1, e2] at H3
  generalize str (Lib.itoa n) = T at *
  clear e1 e2 h0 h1
  by_cases hl : n < -1000000
  · rw [if_neg (by omega), if_neg (by omega)] at H3
    go_enter Tryd.func8, Tryd.ntmps8
    go_wp2_with fail
    refine H1.mono ?_
    rintro e w1 ⟨rfl, hb⟩
    go_wp2_with fail
    refine (H2 _).mono ?_
    rintro e w2 ⟨rfl, hb2⟩
    replace hb := hb.trans (hb2.mono hb.size)
    clear hb2
    go_wp2_with fail
    refine (H3 _).mono ?_
    rintro e w3 ⟨rfl, hb2⟩
    replace hb := hb.trans (hb2.mono hb.size)
    clear hb2
    clear H1 H2 H3
    have HE := Lib.hid (hE.later hb)
    go_wp2_with fail
    refine (alive_any _ HE.out).mono ?_
    rintro e wz ⟨rfl, hb2⟩
    go_wp2_with fail
    go_ret
    exact ⟨rfl, hb.trans (hb2.mono hb.size)⟩
  by_cases hr : 1000000 < n
  · rw [if_neg (by omega), if_neg (by omega)] at H3
    go_enter Tryd.func8, Tryd.ntmps8
    go_wp2_with fail
    refine H1.mono ?_
    rintro e w1 ⟨rfl, hb⟩
    go_wp2_with fail
    refine (H2 _).mono ?_
    rintro e w2 ⟨rfl, hb2⟩
    replace hb := hb.trans (hb2.mono hb.size)
    clear hb2
    go_wp2_with fail
    refine (H3 _).mono ?_
    rintro e w3 ⟨rfl, hb2⟩
    replace hb := hb.trans (hb2.mono hb.size)
    clear hb2
    clear H1 H2 H3
    have HE := Lib.hid (hE.later hb)
    go_wp2_with fail
    refine (alive_any _ HE.out).mono ?_
    rintro e wz ⟨rfl, hb2⟩
    go_wp2_with fail
    go_ret
    exact ⟨rfl, hb.trans (hb2.mono hb.size)⟩
  rw [if_pos (by omega), if_pos (by omega)] at H3
  go_enter Tryd.func8, Tryd.ntmps8
  go_wp2_with fail
  refine H1.mono ?_
  rintro e w1 ⟨rfl, hb⟩
  go_wp2_with fail
  refine (H2 _).mono ?_
  rintro e w2 ⟨rfl, hb2⟩
  replace hb := hb.trans (hb2.mono hb.size)
  clear hb2
  go_wp2_with fail
  refine (H3 _).mono ?_
  rintro e w3 ⟨rfl, hb2⟩
  replace hb := hb.trans (hb2.mono hb.size)
  clear hb2
  clear H1 H2 H3
  have HE := Lib.hid (hE.later hb)
  go_wp2_with fail
  refine (alive_any _ HE.out).mono ?_
  rintro e wz ⟨rfl, hb2⟩
  go_wp2_with fail
  go_ret
  exact ⟨rfl, hb.trans (hb2.mono hb.size)⟩

end Go.Proofs.YtlpmaeemegphiaaDoor
