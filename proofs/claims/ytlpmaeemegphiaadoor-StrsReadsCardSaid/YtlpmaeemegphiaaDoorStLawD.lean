/-
  The walk of StrsReads. Nothing is assumed.
-/
import Derived.Test.YtlpmaeemegphiaaDoorStReadR
import Derived.Test.YtlpmaeemegphiaaDoorStEnv
namespace Go.Proofs.YtlpmaeemegphiaaDoor
open Go.RowKit

theorem rdN_bd (l : List UInt8) : -1000000 ≤ rdN l ∧ rdN l ≤ 1000000 := by
  unfold rdN
  cases hb : rdBad l
  · rw [if_neg (by simp)]
    cases hn : nm 0 (digs' l) with
    | none => show (-1000000 : Int) ≤ 0 ∧ (0 : Int) ≤ 1000000; exact ⟨by omega, by omega⟩
    | some n =>
      have hd : ∀ c, c ∈ digs' l → isDig c = true := by
        unfold rdBad at hb
        simp only [Bool.or_eq_false_iff, Bool.not_eq_eq_eq_not, Bool.not_false] at hb
        have := hb.1
        unfold numl at this
        rw [Bool.and_eq_true, List.all_eq_true] at this
        exact this.1
      have := nm_bd _ 0 n hd (by omega) (by omega) hn
      simp only []
      split <;> omega
  · rw [if_pos rfl]
    exact ⟨by omega, by omega⟩
theorem rdE_ne {l : List UInt8} (h : rdE l ≠ 0) : (rdE l != 0) = true := by simpa using h
set_option maxRecDepth 100000 in
set_option maxHeartbeats 1600000 in
theorem lawReads_any (s : ByteArray) (w : World) (hE : Env w) :
    Calls Tryd.prog 9 #[.string s] w fun e w' => e = .returned (.bool true) ∧ Below w.heap.size w w' := by
  by_cases hl : 100 < (s.size : Int)
  · go_enter Tryd.func9, Tryd.ntmps9
    go_wp2_with fail
    refine (alive_any w hE).mono ?_
    rintro e w2 ⟨rfl, hb⟩
    go_wp2_with fail
    go_ret
    exact ⟨rfl, hb⟩
  have hs : s.size ≤ 1000 := by omega
  have H1 := fun w => read_any s w hs
  have H2 := fun w => rread_any s w hs
  have hbd := rdN_bd s.data.toList
  by_cases h0 : rdE s.data.toList = 0
  · have HS := fun w hE => show_any (rdN s.data.toList) w hE (by omega) (by omega)
    rw [show_read _ h0, str_of] at HS
    rw [h0] at H1 H2
    generalize rdN s.data.toList = m at *
    clear h0 hs
    go_enter Tryd.func9, Tryd.ntmps9
    go_wp2_with fail
    refine (H1 _).mono ?_
    rintro e w1 ⟨rfl, hb⟩
    go_wp2_with fail
    refine (H2 _).mono ?_
    rintro e w2 ⟨rfl, hb2⟩
    replace hb := hb.trans (hb2.mono hb.size)
    clear hb2
    clear H1 H2
    have HE0 := Lib.hid (hE.later hb)
    go_wp2_with fail
    refine (HS _ HE0.out).mono ?_
    rintro e w3 ⟨rfl, hb2⟩
    replace hb := hb.trans (hb2.mono hb.size)
    clear hb2
    clear HE0 HS
    have HE := Lib.hid (hE.later hb)
    go_wp2_with fail
    refine (alive_any _ HE.out).mono ?_
    rintro e wz ⟨rfl, hb2⟩
    go_wp2_with fail
    go_ret
    exact ⟨rfl, hb.trans (hb2.mono hb.size)⟩
  · have hn := rdE_ne h0
    generalize rdN s.data.toList = m at *
    generalize rdE s.data.toList = x at *
    clear hs h0 hbd
    go_enter Tryd.func9, Tryd.ntmps9
    go_wp2_with fail
    refine (H1 _).mono ?_
    rintro e w1 ⟨rfl, hb⟩
    go_wp2_with fail
    refine (H2 _).mono ?_
    rintro e w2 ⟨rfl, hb2⟩
    replace hb := hb.trans (hb2.mono hb.size)
    clear hb2
    clear H1 H2
    have HE := Lib.hid (hE.later hb)
    go_wp2_with fail
    refine (alive_any _ HE.out).mono ?_
    rintro e wz ⟨rfl, hb2⟩
    go_wp2_with fail
    go_ret
    exact ⟨rfl, hb.trans (hb2.mono hb.size)⟩

end Go.Proofs.YtlpmaeemegphiaaDoor
