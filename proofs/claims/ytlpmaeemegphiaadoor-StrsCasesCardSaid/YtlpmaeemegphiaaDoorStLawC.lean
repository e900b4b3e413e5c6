/-
  The walk of StrsCases. Nothing is assumed.
-/
import Derived.Test.YtlpmaeemegphiaaDoorStTrim
import Derived.Test.YtlpmaeemegphiaaDoorStEnv
namespace Go.Proofs.YtlpmaeemegphiaaDoor
open Go.RowKit

theorem trimB_head (l : List UInt8) (c : UInt8) (h : (Lib.trimB l 32)[0]? = some c) : c ≠ 32 := by
  intro e
  subst e
  unfold Lib.trimB Lib.trimLeftB at h
  have hn := List.head?_dropWhile_not (fun x : UInt8 => x == 32) (Lib.trimRightB l 32)
  rw [← List.head?_eq_getElem?] at h
  rw [h] at hn
  simp at hn
theorem trimB_last (l : List UInt8) (c : UInt8) (h : (Lib.trimB l 32).getLast? = some c) : c ≠ 32 := by
  intro e
  subst e
  obtain ⟨p, hp⟩ : ∃ p, p ++ Lib.trimB l 32 = Lib.trimRightB l 32 := by
    obtain ⟨p, hp⟩ := List.dropWhile_suffix (l := Lib.trimRightB l 32) (fun x : UInt8 => x == 32)
    exact ⟨p, hp⟩
  have h2 : (Lib.trimRightB l 32).getLast? = some 32 := by
    rw [← hp, List.getLast?_append, h]
    rfl
  unfold Lib.trimRightB at h2
  rw [List.getLast?_reverse] at h2
  have hn := List.head?_dropWhile_not (fun x : UInt8 => x == 32) l.reverse
  rw [h2] at hn
  simp at hn
theorem trim_trim (l : List UInt8) : Lib.trimB (Lib.trimB l 32) 32 = Lib.trimB l 32 := by
  have hh := trimB_head l
  have hl := trimB_last l
  generalize Lib.trimB l 32 = t at *
  have := trim_both t 0 t.length (by omega) (fun j c hj => absurd hj (Nat.not_lt_zero j)) (fun j c hj hc => by
    have := (List.getElem?_eq_some_iff.1 hc).1
    omega) (fun c _ hc => hh c hc) (fun c _ hc => hl c (by
      rw [List.getLast?_eq_getElem?]
      simpa using hc))
  simpa using this

set_option maxRecDepth 100000 in
set_option maxHeartbeats 1600000 in
theorem lawCases_any (s : ByteArray) (w : World) (hE : Env w) :
    Calls Tryd.prog 5 #[.string s] w fun e w' => e = .returned (.bool true) ∧ Below w.heap.size w w' := by
  by_cases hl : 200 < (s.size : Int)
  · go_enter Tryd.func5, Tryd.ntmps5
    go_wp2_with fail
    refine (alive_any w hE).mono ?_
    rintro e w2 ⟨rfl, hb⟩
    go_wp2_with fail
    go_ret
    exact ⟨rfl, hb⟩
  have hs : s.size ≤ 1000 := by omega
  have hln := list_len s
  obtain ⟨A, hA⟩ : ∃ A, str (upper s.data.toList) = A := ⟨_, rfl⟩
  obtain ⟨B, hB⟩ : ∃ B, str (lower s.data.toList) = B := ⟨_, rfl⟩
  obtain ⟨T, hT⟩ : ∃ T, str (Lib.trimB s.data.toList 32) = T := ⟨_, rfl⟩
  have H1 := fun w => upper_any s w
  have H2 := fun w => lower_any s w
  have H3 := fun w => trim_any s w hs
  have H4 := fun w => rupper_any s w hs
  have H5 := fun w => rlower_any s w hs
  have H6 := fun w => rtrim_any s w hs
  have hAs : A.size = s.size := by rw [← hA, str_size, upper_map, List.length_map, hln]
  have hBs : B.size = s.size := by rw [← hB, str_size, lower_map, List.length_map, hln]
  have hTs : T.size ≤ 1000 := by
    rw [← hT, str_size]
    refine Nat.le_trans (List.dropWhile_suffix _).length_le ?_
    unfold Lib.trimRightB
    rw [List.length_reverse]
    refine Nat.le_trans (List.dropWhile_suffix _).length_le ?_
    rw [List.length_reverse, hln]
    exact hs
  have H7 := fun w => upper_any A w
  have H8 := fun w => lower_any B w
  have H9 := fun w => trim_any T w hTs
  have H10 := fun w => upper_any B w
  have e7 : str (upper A.data.toList) = A := by rw [← hA, str_list, upper_upper]
  have e8 : str (lower B.data.toList) = B := by rw [← hB, str_list, lower_lower]
  have e9 : str (Lib.trimB T.data.toList 32) = T := by rw [← hT, str_list, trim_trim]
  have e10 : str (upper B.data.toList) = A := by rw [← hB, str_list, upper_lower, hA]
  rw [e7] at H7
  rw [e8] at H8
  rw [e9] at H9
  rw [e10] at H10
  rw [hA] at H1 H4
  rw [hB] at H2 H5
  rw [hT] at H3 H6
  have q1 : ((A.size : Int) == (s.size : Int)) = true := by rw [hAs]; exact beq_self_eq_true _
  have q2 : ((B.size : Int) == (s.size : Int)) = true := by rw [hBs]; exact beq_self_eq_true _
  clear e7 e8 e9 e10 hA hB hT hAs hBs hTs hln
  have hb : Below w.heap.size w w := Below.refl _ _
  go_enter Tryd.func5, Tryd.ntmps5
  go_wp2_with fail
  refine (H1 _).mono ?_
  rintro e w1 ⟨rfl, hb1⟩; replace hb := hb.trans (hb1.mono hb.size); clear hb1
  go_wp2_with fail
  refine (H2 _).mono ?_
  rintro e w2 ⟨rfl, hb1⟩; replace hb := hb.trans (hb1.mono hb.size); clear hb1
  go_wp2_with fail
  refine (H3 _).mono ?_
  rintro e w3 ⟨rfl, hb1⟩; replace hb := hb.trans (hb1.mono hb.size); clear hb1
  go_wp2_with fail
  refine (H4 _).mono ?_
  rintro e w4 ⟨rfl, hb1⟩; replace hb := hb.trans (hb1.mono hb.size); clear hb1
  go_wp2_with fail
  refine (H5 _).mono ?_
  rintro e w5 ⟨rfl, hb1⟩; replace hb := hb.trans (hb1.mono hb.size); clear hb1
  go_wp2_with fail
  refine (H6 _).mono ?_
  rintro e w' ⟨rfl, hw'⟩; obtain rfl := hw'.symm
  go_wp2_with fail
  refine (H7 _).mono ?_
  rintro e w7 ⟨rfl, hb1⟩; replace hb := hb.trans (hb1.mono hb.size); clear hb1
  go_wp2_with fail
  refine (H8 _).mono ?_
  rintro e w8 ⟨rfl, hb1⟩; replace hb := hb.trans (hb1.mono hb.size); clear hb1
  go_wp2_with fail
  refine (H9 _).mono ?_
  rintro e w9 ⟨rfl, hb1⟩; replace hb := hb.trans (hb1.mono hb.size); clear hb1
  go_wp2_with fail
  refine (H10 _).mono ?_
  rintro e w10 ⟨rfl, hb1⟩; replace hb := hb.trans (hb1.mono hb.size); clear hb1
  have HE := Lib.hid (hE.later hb)
  go_wp2_with fail
  refine (alive_any _ HE.out).mono ?_
  rintro e wz ⟨rfl, hb1⟩; replace hb := hb.trans (hb1.mono hb.size); clear hb1
  go_wp2_with fail
  go_ret
  exact ⟨rfl, hb⟩

end Go.Proofs.YtlpmaeemegphiaaDoor
