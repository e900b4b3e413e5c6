/-
  Repeat of the package and of the reference; the walk of StrsRepeats. Nothing is assumed.
-/
import Derived.Test.YtlpmaeemegphiaaDoorStWordP
import Derived.Test.YtlpmaeemegphiaaDoorStEnv
namespace Go.Proofs.YtlpmaeemegphiaaDoor
open Go.RowKit

def rpBig (s : ByteArray) (n : Int) : Bool := decide (64 < n * s.size)
/-- What Repeat returns. -/
def rpS (s : ByteArray) (n : Int) : ByteArray := if n < 0 then ⟨#[]⟩ else if s.size = 0 then ⟨#[]⟩ else if rpBig s n then ⟨#[]⟩ else str (Lib.repeatL s.data.toList n.toNat)
def rpE (s : ByteArray) (n : Int) : Int := if n < 0 then 1 else if s.size = 0 then 0 else if rpBig s n then 2 else 0
theorem nil_of_size {s : ByteArray} (h : s.size = 0) : s = ⟨#[]⟩ := by
  apply ByteArray.ext
  exact Array.eq_empty_of_size_eq_zero h
theorem ne_facts {s : ByteArray} (h : s.size ≠ 0) : s.toList.isEmpty = false ∧ (s.toList == []) = false := by
  have hl : s.toList ≠ [] := by
    rw [ByteArray.toList_eq]
    intro e
    have := congrArg List.length e
    rw [list_len] at this
    exact h this
  cases hs : s.toList with
  | nil => exact absurd hs hl
  | cons c r => exact ⟨rfl, rfl⟩
theorem str_append (a b : List UInt8) : str a ++ str b = str (a ++ b) := by
  apply ByteArray.ext
  simp [str]
theorem rep_succ (l : List UInt8) (i : Nat) : Lib.repeatL l (i + 1) = Lib.repeatL l i ++ l := by rw [Lib.repeatL_add, Lib.repeatL_one]
theorem big_iff (d m : Nat) (hd : 0 < d) : ((64 : Int) / (d : Int) < (m : Int)) ↔ 64 < m * d := by
  have h : 64 / d < m ↔ 64 < m * d := Nat.div_lt_iff_lt_mul hd
  rw [← h]
  have e : (64 : Int) / (d : Int) = ((64 / d : Nat) : Int) := rfl
  rw [e]
  omega

set_option maxRecDepth 100000 in
set_option maxHeartbeats 1600000 in
theorem repeat_any (s : ByteArray) (n : Int) (w : World) (hs : s.size ≤ 1000) (hn1 : n ≤ 9223372036854775807) :
    Calls Tryd.prog 29 #[.string s, .int .i64 n] w fun e w' => e = .returned (.tuple #[.string (rpS s n), .int .i64 (rpE s n)]) ∧ Below w.heap.size w w' := by
  by_cases h : n < 0
  · have e1 : rpS s n = ⟨#[]⟩ := by unfold rpS; rw [if_pos h]
    have e2 : rpE s n = 1 := by unfold rpE; rw [if_pos h]
    rw [e1, e2]
    clear e1 e2 hn1
    · skip
      go_enter Tryd.func29, Tryd.ntmps29
      go_wp2_with fail
      go_ret2
      exact ⟨rfl, Below.refl _ _⟩
  by_cases h0 : s.size = 0
  · have e1 : rpS s n = ⟨#[]⟩ := by unfold rpS; rw [if_neg h, if_pos h0]
    have e2 : rpE s n = 0 := by unfold rpE; rw [if_neg h, if_pos h0]
    rw [e1, e2]
    obtain rfl := nil_of_size h0
    clear e1 e2 hn1 h0 hs
    · skip
      go_enter Tryd.func29, Tryd.ntmps29
      go_wp2_with fail
      go_ret2
      exact ⟨rfl, Below.refl _ _⟩
  obtain ⟨m, rfl⟩ := Int.eq_ofNat_of_zero_le (a := n) (by omega)
  obtain ⟨f1, f2⟩ := ne_facts h0
  have hd : 0 < s.size := by omega
  have hdi : (0 : Int) < (s.size : Int) := by omega
  have hbig : rpBig s (m : Int) = decide (64 < m * s.size) := by
    unfold rpBig
    rw [Bool.eq_iff_iff, decide_eq_true_eq, decide_eq_true_eq]
    have : (m : Int) * (s.size : Int) = ((m * s.size : Nat) : Int) := by rw [Int.natCast_mul]
    rw [this]
    omega
  have hq0 : (0 : Int) ≤ (64 : Int) / (s.size : Int) := Int.ediv_nonneg (by omega) (by omega)
  by_cases hb : 64 < m * s.size
  · have e1 : rpS s m = ⟨#[]⟩ := by unfold rpS; rw [if_neg h, if_neg h0, hbig, if_pos (by simpa using hb)]
    have e2 : rpE s m = 2 := by unfold rpE; rw [if_neg h, if_neg h0, hbig, if_pos (by simpa using hb)]
    rw [e1, e2]
    clear e1 e2 hbig h h0
    have hq : (64 : Int) / (s.size : Int) < (m : Int) := (big_iff _ _ hd).2 hb
    clear hb hn1
    go_enter Tryd.func29, Tryd.ntmps29
    go_wp2_with fail
    go_ret2
    exact ⟨rfl, Below.refl _ _⟩
  · have e1 : rpS s m = str (Lib.repeatL s.data.toList m) := by unfold rpS; rw [if_neg h, if_neg h0, hbig, if_neg (by simpa using hb)]; rfl
    have e2 : rpE s m = 0 := by unfold rpE; rw [if_neg h, if_neg h0, hbig, if_neg (by simpa using hb)]
    rw [e1, e2]
    clear e1 e2 hbig h h0
    have hq : ¬ ((64 : Int) / (s.size : Int) < (m : Int)) := fun e => hb ((big_iff _ _ hd).1 e)
    have HC := fun w => Tryd.strings_Repeat s m w (by omega) (by rw [Nat.mul_comm]; omega)
    clear hb hn1
    go_enter Tryd.func29, Tryd.ntmps29
    go_wp2_with fail
    refine (HC _).mono ?_
    rintro e w1 ⟨rfl, hb⟩
    clear HC
    go_wp2_with fail
    go_ret2
    exact ⟨rfl, hb⟩

set_option maxRecDepth 100000 in
set_option maxHeartbeats 1600000 in
theorem rrepeat_any (s : ByteArray) (n : Int) (w : World) (hs : s.size ≤ 1000) (hn1 : n ≤ 9223372036854775807) :
    Calls Tryd.prog 30 #[.string s, .int .i64 n] w fun e w' => e = .returned (.tuple #[.string (rpS s n), .int .i64 (rpE s n)]) ∧ Below w.heap.size w w' := by
  by_cases h : n < 0
  · have e1 : rpS s n = ⟨#[]⟩ := by unfold rpS; rw [if_pos h]
    have e2 : rpE s n = 1 := by unfold rpE; rw [if_pos h]
    rw [e1, e2]
    clear e1 e2 hn1
    · skip
      go_enter Tryd.func30, Tryd.ntmps30
      go_wp2_with fail
      go_ret2
      exact ⟨rfl, Below.refl _ _⟩
  by_cases h0 : s.size = 0
  · have e1 : rpS s n = ⟨#[]⟩ := by unfold rpS; rw [if_neg h, if_pos h0]
    have e2 : rpE s n = 0 := by unfold rpE; rw [if_neg h, if_pos h0]
    rw [e1, e2]
    obtain rfl := nil_of_size h0
    clear e1 e2 hn1 h0 hs
    · skip
      go_enter Tryd.func30, Tryd.ntmps30
      go_wp2_with fail
      go_ret2
      exact ⟨rfl, Below.refl _ _⟩
  obtain ⟨m, rfl⟩ := Int.eq_ofNat_of_zero_le (a := n) (by omega)
  obtain ⟨f1, f2⟩ := ne_facts h0
  have hd : 0 < s.size := by omega
  have hdi : (0 : Int) < (s.size : Int) := by omega
  have hbig : rpBig s (m : Int) = decide (64 < m * s.size) := by
    unfold rpBig
    rw [Bool.eq_iff_iff, decide_eq_true_eq, decide_eq_true_eq]
    have : (m : Int) * (s.size : Int) = ((m * s.size : Nat) : Int) := by rw [Int.natCast_mul]
    rw [this]
    omega
  have hq0 : (0 : Int) ≤ (64 : Int) / (s.size : Int) := Int.ediv_nonneg (by omega) (by omega)
  by_cases hb : 64 < m * s.size
  · have e1 : rpS s m = ⟨#[]⟩ := by unfold rpS; rw [if_neg h, if_neg h0, hbig, if_pos (by simpa using hb)]
    have e2 : rpE s m = 2 := by unfold rpE; rw [if_neg h, if_neg h0, hbig, if_pos (by simpa using hb)]
    rw [e1, e2]
    clear e1 e2 hbig h h0
    have HB := Lib.hid hb
    clear hb hn1 hq0
    go_enter Tryd.func30, Tryd.ntmps30
    go_wp2_with fail
    go_loop [6, 7] (fun v j => ∃ (i : Nat) (O : ByteArray), i ≤ m ∧ j = .int .i64 i ∧ v = .string O ∧ Hid (O = str (Lib.repeatL s.data.toList i)) ∧ Hid (O.size = i * s.size) ∧ O.size ≤ 64) (fun _ j => m - (intOf j).toNat)
    case atStart => exact ⟨0, _, Nat.zero_le _, rfl, rfl, rfl, by show Hid (0 = 0 * s.size); exact Lib.hid (by omega), by decide⟩
    case round =>
      obtain ⟨i, O, hi, rfl, rfl, HO, HOS, ho⟩ := hrel
      by_cases hlt : i < m
      · have hoi : (O.size : Int) ≤ 64 := by omega
        have hib : (i : Int) ≤ 64 := by
          have h1 := HOS.out
          have h2 : i ≤ i * s.size := Nat.le_mul_of_pos_right i hd
          omega
        by_cases hc : O.size + s.size ≤ 64
        · have hci : ¬ ((64 : Int) - (O.size : Int) < (s.size : Int)) := by omega
          have hadd : ∀ w, (Op.stringOp .add O s).run Tryd.prog w = .ok (.string (O ++ s)) w := fun w => run_string_add_sum w O s (by omega)
          have HO2 : Hid (O ++ s = str (Lib.repeatL s.data.toList (i + 1))) := Lib.hid (by
            rw [HO.out, rep_succ, ← str_append, str_of])
          have HOS2 : Hid ((O ++ s).size = (i + 1) * s.size) := Lib.hid (by rw [ByteArray.size_append, HOS.out, Nat.succ_mul])
          have hos2 : (O ++ s).size ≤ 64 := by rw [ByteArray.size_append]; exact hc
          go_wp2_with fail
          go_round
          case rel => exact ⟨i + 1, _, hlt, by go_num, rfl, HO2, HOS2, hos2⟩
          case measure => simp [intOf]; omega
        · have hci : (64 : Int) - (O.size : Int) < (s.size : Int) := by omega
          go_wp2_with fail
          go_ret2
          exact ⟨rfl, Below.refl _ _⟩
      · obtain rfl : i = m := by omega
        exfalso
        have h2 := HB.out
        have h3 := HOS.out
        omega
  · have e1 : rpS s m = str (Lib.repeatL s.data.toList m) := by unfold rpS; rw [if_neg h, if_neg h0, hbig, if_neg (by simpa using hb)]; rfl
    have e2 : rpE s m = 0 := by unfold rpE; rw [if_neg h, if_neg h0, hbig, if_neg (by simpa using hb)]
    rw [e1, e2]
    clear e1 e2 hbig h h0
    have HB := Lib.hid hb
    clear hb hn1 hq0
    go_enter Tryd.func30, Tryd.ntmps30
    go_wp2_with fail
    go_loop [6, 7] (fun v j => ∃ (i : Nat) (O : ByteArray), i ≤ m ∧ j = .int .i64 i ∧ v = .string O ∧ Hid (O = str (Lib.repeatL s.data.toList i)) ∧ Hid (O.size = i * s.size) ∧ O.size ≤ 64) (fun _ j => m - (intOf j).toNat)
    case atStart => exact ⟨0, _, Nat.zero_le _, rfl, rfl, rfl, by show Hid (0 = 0 * s.size); exact Lib.hid (by omega), by decide⟩
    case round =>
      obtain ⟨i, O, hi, rfl, rfl, HO, HOS, ho⟩ := hrel
      by_cases hlt : i < m
      · have hoi : (O.size : Int) ≤ 64 := by omega
        have hib : (i : Int) ≤ 64 := by
          have h1 := HOS.out
          have h2 : i ≤ i * s.size := Nat.le_mul_of_pos_right i hd
          omega
        by_cases hc : O.size + s.size ≤ 64
        · have hci : ¬ ((64 : Int) - (O.size : Int) < (s.size : Int)) := by omega
          have hadd : ∀ w, (Op.stringOp .add O s).run Tryd.prog w = .ok (.string (O ++ s)) w := fun w => run_string_add_sum w O s (by omega)
          have HO2 : Hid (O ++ s = str (Lib.repeatL s.data.toList (i + 1))) := Lib.hid (by
            rw [HO.out, rep_succ, ← str_append, str_of])
          have HOS2 : Hid ((O ++ s).size = (i + 1) * s.size) := Lib.hid (by rw [ByteArray.size_append, HOS.out, Nat.succ_mul])
          have hos2 : (O ++ s).size ≤ 64 := by rw [ByteArray.size_append]; exact hc
          go_wp2_with fail
          go_round
          case rel => exact ⟨i + 1, _, hlt, by go_num, rfl, HO2, HOS2, hos2⟩
          case measure => simp [intOf]; omega
        · have hci : (64 : Int) - (O.size : Int) < (s.size : Int) := by omega
          exfalso
          have h2 := HB.out
          have h3 := HOS.out
          have h4 : (i + 1) * s.size ≤ m * s.size := Nat.mul_le_mul_right _ hlt
          rw [Nat.succ_mul] at h4
          omega
      · obtain rfl : i = m := by omega
        go_wp2_with fail
        go_ret2
        exact ⟨ret_se HO.out rfl, Below.refl _ _⟩

set_option maxRecDepth 100000 in
set_option maxHeartbeats 1600000 in
theorem lawRepeats_any (s : ByteArray) (n : Int) (w : World) (hE : Env w) (h1 : n ≤ 9223372036854775807) :
    Calls Tryd.prog 7 #[.string s, .int .i64 n] w fun e w' => e = .returned (.bool true) ∧ Below w.heap.size w w' := by
  by_cases hl : 100 < (s.size : Int)
  · go_enter Tryd.func7, Tryd.ntmps7
    go_wp2_with fail
    refine (alive_any w hE).mono ?_
    rintro e w2 ⟨rfl, hb⟩
    go_wp2_with fail
    go_ret
    exact ⟨rfl, hb⟩
  have hs : s.size ≤ 1000 := by omega
  have H1 := fun w => repeat_any s n w hs h1
  have H2 := fun w => rrepeat_any s n w hs h1
  generalize rpS s n = S1 at *
  generalize rpE s n = E1 at *
  clear h1
  by_cases h0 : s.size = 0
  · obtain rfl := nil_of_size h0
    clear h0 hs hl
    by_cases hn : 100 < n
    · go_enter Tryd.func7, Tryd.ntmps7
      go_wp2_with fail
      refine (alive_any w hE).mono ?_
      rintro e w2 ⟨rfl, hb⟩
      go_wp2_with fail
      go_ret
      exact ⟨rfl, hb⟩
    · skip
      go_enter Tryd.func7, Tryd.ntmps7
      go_wp2_with fail
      refine (H1 _).mono ?_
      rintro e w1 ⟨rfl, hb⟩
      go_wp2_with fail
      refine (H2 _).mono ?_
      rintro e w2 ⟨rfl, hb2⟩
      replace hb := hb.trans (hb2.mono hb.size)
      clear hb2
      have HE := Lib.hid (hE.later hb)
      go_wp2_with fail
      refine (alive_any _ HE.out).mono ?_
      rintro e w3 ⟨rfl, hb2⟩
      go_wp2_with fail
      go_ret
      exact ⟨rfl, hb.trans (hb2.mono hb.size)⟩
  · obtain ⟨f1, f2⟩ := ne_facts h0
    clear h0
    go_enter Tryd.func7, Tryd.ntmps7
    go_wp2_with fail
    refine (H1 _).mono ?_
    rintro e w1 ⟨rfl, hb⟩
    go_wp2_with fail
    refine (H2 _).mono ?_
    rintro e w2 ⟨rfl, hb2⟩
    replace hb := hb.trans (hb2.mono hb.size)
    clear hb2
    have HE := Lib.hid (hE.later hb)
    go_wp2_with fail
    refine (alive_any _ HE.out).mono ?_
    rintro e w3 ⟨rfl, hb2⟩
    go_wp2_with fail
    go_ret
    exact ⟨rfl, hb.trans (hb2.mono hb.size)⟩

end Go.Proofs.YtlpmaeemegphiaaDoor
