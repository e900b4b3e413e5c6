/-
  Element, Head, Last, Count of the package and of the reference. Nothing is assumed.
-/
import Derived.Test.YtohooejljbddmaaLsBase
namespace Go.Proofs.Ytohooejljbddmaa
open Go.RowKit

set_option maxRecDepth 100000 in
set_option maxHeartbeats 800000 in
theorem element_any (x : Value) (l : List Int) (k : Int) (w : World) (B : Nat) (hx : HoldsI w B x l) (hl : l.length ≤ 1000) (h0 : -9223372036854775808 ≤ k) (h1 : k ≤ 9223372036854775807) :
    Calls Try.prog 13 #[x, .int .i64 k] w fun e w' => e = .returned (.tuple #[.int .i64 (elv l k), .int .i64 (ele l k)]) ∧ Below w.heap.size w w' := by
  obtain ⟨oa, ca, rfl, _, _, hel⟩ := hx
  by_cases hin : -(l.length : Int) ≤ k ∧ k < l.length
  · obtain ⟨h2, h3⟩ := hin
    by_cases hk : k < 0
    · obtain ⟨i, hi⟩ : ∃ i : Nat, k + l.length = i := ⟨(k + l.length).toNat, by omega⟩
      have hlt : i < l.length := by omega
      obtain ⟨b, off, rfl, hb, hc⟩ := hel i _ (List.getElem?_eq_getElem hlt)
      have HE := Lib.hid (el_some (elo_neg hlt hi))
      have hi0 : (0 : Int) ≤ (i : Int) := by omega
      have hi1 : (i : Int) < (l.length : Int) := by omega
      clear hel
      go_enter Try.func13, Try.ntmps13
      go_wp2_with fail
      go_ret2
      exact ⟨ret_two HE.out.1.symm HE.out.2.symm, Below.refl _ _⟩
    · obtain ⟨i, rfl⟩ : ∃ i : Nat, k = i := ⟨k.toNat, by omega⟩
      have hlt : i < l.length := by omega
      obtain ⟨b, off, rfl, hb, hc⟩ := hel i _ (List.getElem?_eq_getElem hlt)
      have HE := Lib.hid (el_some (elo_at hlt))
      have hi0 : (0 : Int) ≤ (i : Int) := by omega
      clear hel
      go_enter Try.func13, Try.ntmps13
      go_wp2_with fail
      go_ret2
      exact ⟨ret_two HE.out.1.symm HE.out.2.symm, Below.refl _ _⟩
  · have HE := Lib.hid (el_none (elo_out (l := l) (k := k) (by omega)))
    clear hel
    by_cases hk : k < 0
    · have hkl : k + (l.length : Int) < 0 := by omega
      go_enter Try.func13, Try.ntmps13
      go_wp2_with fail
      go_ret2
      exact ⟨ret_two HE.out.1.symm HE.out.2.symm, Below.refl _ _⟩
    · have hkl : (l.length : Int) ≤ k := by omega
      go_enter Try.func13, Try.ntmps13
      go_wp2_with fail
      go_ret2
      exact ⟨ret_two HE.out.1.symm HE.out.2.symm, Below.refl _ _⟩

set_option maxRecDepth 100000 in
set_option maxHeartbeats 800000 in
theorem relement_any (x : Value) (l : List Int) (k : Int) (w : World) (B : Nat) (hx : HoldsI w B x l) (hl : l.length ≤ 1000) (h0 : -9223372036854775808 ≤ k) (h1 : k ≤ 9223372036854775807) :
    Calls Try.prog 14 #[x, .int .i64 k] w fun e w' => e = .returned (.tuple #[.int .i64 (elv l k), .int .i64 (ele l k)]) ∧ Below w.heap.size w w' := by
  obtain ⟨oa, ca, rfl, _, _, hel⟩ := hx
  by_cases hin : -(l.length : Int) ≤ k ∧ k < l.length
  · obtain ⟨h2, h3⟩ := hin
    by_cases hk : k < 0
    · obtain ⟨i, hi⟩ : ∃ i : Nat, k + l.length = i := ⟨(k + l.length).toNat, by omega⟩
      have hlt : i < l.length := by omega
      obtain ⟨b, off, rfl, hb, hc⟩ := hel i _ (List.getElem?_eq_getElem hlt)
      have HE := Lib.hid (el_some (elo_neg hlt hi))
      have hi0 : (0 : Int) ≤ (i : Int) := by omega
      have hi1 : (i : Int) < (l.length : Int) := by omega
      have hi2 : (l.length : Int) + k = (i : Int) := by omega
      clear hel
      go_enter Try.func14, Try.ntmps14
      go_wp2_with fail
      go_ret2
      exact ⟨ret_two HE.out.1.symm HE.out.2.symm, Below.refl _ _⟩
    · obtain ⟨i, rfl⟩ : ∃ i : Nat, k = i := ⟨k.toNat, by omega⟩
      have hlt : i < l.length := by omega
      obtain ⟨b, off, rfl, hb, hc⟩ := hel i _ (List.getElem?_eq_getElem hlt)
      have HE := Lib.hid (el_some (elo_at hlt))
      have hi0 : (0 : Int) ≤ (i : Int) := by omega
      clear hel
      go_enter Try.func14, Try.ntmps14
      go_wp2_with fail
      go_ret2
      exact ⟨ret_two HE.out.1.symm HE.out.2.symm, Below.refl _ _⟩
  · have HE := Lib.hid (el_none (elo_out (l := l) (k := k) (by omega)))
    clear hel
    by_cases hk : k < 0
    · have hkl : k < -(l.length : Int) := by omega
      go_enter Try.func14, Try.ntmps14
      go_wp2_with fail
      go_ret2
      exact ⟨ret_two HE.out.1.symm HE.out.2.symm, Below.refl _ _⟩
    · have hkl : (l.length : Int) ≤ k := by omega
      go_enter Try.func14, Try.ntmps14
      go_wp2_with fail
      go_ret2
      exact ⟨ret_two HE.out.1.symm HE.out.2.symm, Below.refl _ _⟩

set_option maxHeartbeats 400000 in
theorem head_any (x : Value) (l : List Int) (w : World) (B : Nat) (hx : HoldsI w B x l) (hl : l.length ≤ 1000) :
    Calls Try.prog 15 #[x] w fun e w' => e = .returned (.tuple #[.int .i64 (elv l 0), .int .i64 (ele l 0)]) ∧ Below w.heap.size w w' := by
  have HC := element_any x l 0 w B hx hl (by omega) (by omega)
  obtain ⟨oa, ca, rfl, _, _, hel⟩ := hx
  clear hel
  have H := Lib.hid HC; clear HC
  go_enter Try.func15, Try.ntmps15
  go_wp2_with fail
  refine H.out.mono ?_
  rintro e w2 ⟨rfl, hb⟩
  go_wp2_with fail
  go_ret2
  exact ⟨rfl, hb⟩

set_option maxHeartbeats 400000 in
theorem last_any (x : Value) (l : List Int) (w : World) (B : Nat) (hx : HoldsI w B x l) (hl : l.length ≤ 1000) :
    Calls Try.prog 17 #[x] w fun e w' => e = .returned (.tuple #[.int .i64 (elv l (-1)), .int .i64 (ele l (-1))]) ∧ Below w.heap.size w w' := by
  have HC := element_any x l (-1) w B hx hl (by omega) (by omega)
  obtain ⟨oa, ca, rfl, _, _, hel⟩ := hx
  clear hel
  have H := Lib.hid HC; clear HC
  go_enter Try.func17, Try.ntmps17
  go_wp2_with fail
  refine H.out.mono ?_
  rintro e w2 ⟨rfl, hb⟩
  go_wp2_with fail
  go_ret2
  exact ⟨rfl, hb⟩

set_option maxHeartbeats 400000 in
theorem rhead_any (x : Value) (l : List Int) (w : World) (B : Nat) (hx : HoldsI w B x l) (hl : l.length ≤ 1000) :
    Calls Try.prog 16 #[x] w fun e w' => e = .returned (.tuple #[.int .i64 (elv l 0), .int .i64 (ele l 0)]) ∧ Below w.heap.size w w' := by
  have HC := relement_any x l 0 w B hx hl (by omega) (by omega)
  obtain ⟨oa, ca, rfl, _, _, hel⟩ := hx
  clear hel
  have H := Lib.hid HC; clear HC
  go_enter Try.func16, Try.ntmps16
  go_wp2_with fail
  refine H.out.mono ?_
  rintro e w2 ⟨rfl, hb⟩
  go_wp2_with fail
  go_ret2
  exact ⟨rfl, hb⟩

set_option maxHeartbeats 400000 in
theorem rlast_any (x : Value) (l : List Int) (w : World) (B : Nat) (hx : HoldsI w B x l) (hl : l.length ≤ 1000) :
    Calls Try.prog 18 #[x] w fun e w' => e = .returned (.tuple #[.int .i64 (elv l (-1)), .int .i64 (ele l (-1))]) ∧ Below w.heap.size w w' := by
  have HC := relement_any x l (-1) w B hx hl (by omega) (by omega)
  obtain ⟨oa, ca, rfl, _, _, hel⟩ := hx
  clear hel
  have H := Lib.hid HC; clear HC
  go_enter Try.func18, Try.ntmps18
  go_wp2_with fail
  refine H.out.mono ?_
  rintro e w2 ⟨rfl, hb⟩
  go_wp2_with fail
  go_ret2
  exact ⟨rfl, hb⟩

set_option maxRecDepth 100000 in
set_option maxHeartbeats 800000 in
theorem count_any (x : Value) (l : List Int) (n : Int) (w : World) (B : Nat) (hx : HoldsI w B x l) (hl : l.length ≤ 1000) :
    Calls Try.prog 34 #[x, .int .i64 n] w fun e w' => e = .returned (.int .i64 (cnt l n)) ∧ Below w.heap.size w w' := by
  obtain ⟨oa, ca, rfl, _, _, hel⟩ := hx
  go_enter Try.func34, Try.ntmps34
  go_wp2_with fail
  go_loop [5, 7, 10] (fun t _ j => ∃ k : Nat, k ≤ l.length ∧ j = .int .i64 k ∧ t = .int .i64 (cnt (l.take k) n)) (fun _ _ j => l.length - (intOf j).toNat)
  case atStart => exact ⟨0, Nat.zero_le _, rfl, rfl⟩
  case round =>
    obtain ⟨k, hk, rfl, rfl⟩ := hrel
    have hcb := cnt_bd (l.take k) n
    have hlk : (l.take k).length ≤ 1000 := by simp; omega
    by_cases hlt : k < l.length
    · obtain ⟨b, off, rfl, hb, hc⟩ := hel k _ (List.getElem?_eq_getElem hlt)
      have HS := Lib.hid (cnt_snoc l n k hlt)
      have hki0 : (0 : Int) ≤ (k : Int) := by omega
      clear hel
      by_cases hz : l[k] = n
      · have hze : (l[k] == n) = true := by rw [hz]; exact beq_self_eq_true _
        have HZ := Lib.hid hze
        clear hz
        go_wp2_with fail
        go_round
        case rel => exact ⟨k + 1, hlt, by go_num, by rw [HS.out, HZ.out, if_pos rfl]⟩
        case measure => simp [intOf]; omega
      · have hze : (l[k] == n) = false := by simpa using hz
        have HZ := Lib.hid hze
        clear hz
        go_wp2_with fail
        go_round
        case rel => exact ⟨k + 1, hlt, by go_num, by rw [HS.out, HZ.out, if_neg (by simp)]; go_num⟩
        case measure => simp [intOf]; omega
    · clear hel
      go_wp2_with fail
      go_ret
      exact ⟨ret_int (by rw [List.take_of_length_le (by omega)]), Below.refl _ _⟩

set_option maxRecDepth 100000 in
set_option maxHeartbeats 800000 in
theorem rcount_any (x : Value) (l : List Int) (n : Int) (w : World) (B : Nat) (hx : HoldsI w B x l) (hl : l.length ≤ 1000) :
    Calls Try.prog 35 #[x, .int .i64 n] w fun e w' => e = .returned (.int .i64 (cnt l n)) ∧ Below w.heap.size w w' := by
  obtain ⟨oa, ca, rfl, _, _, hel⟩ := hx
  go_enter Try.func35, Try.ntmps35
  go_wp2_with fail
  go_loop [5, 6] (fun t j => ∃ k : Nat, k ≤ l.length ∧ j = .int .i64 k ∧ t = .int .i64 (cnt (l.take k) n)) (fun _ j => l.length - (intOf j).toNat)
  case atStart => exact ⟨0, Nat.zero_le _, rfl, rfl⟩
  case round =>
    obtain ⟨k, hk, rfl, rfl⟩ := hrel
    have hcb := cnt_bd (l.take k) n
    have hlk : (l.take k).length ≤ 1000 := by simp; omega
    by_cases hlt : k < l.length
    · obtain ⟨b, off, rfl, hb, hc⟩ := hel k _ (List.getElem?_eq_getElem hlt)
      have HS := Lib.hid (cnt_snoc l n k hlt)
      have hki0 : (0 : Int) ≤ (k : Int) := by omega
      clear hel
      by_cases hz : l[k] = n
      · have hze : (l[k] == n) = true := by rw [hz]; exact beq_self_eq_true _
        have HZ := Lib.hid hze
        clear hz
        go_wp2_with fail
        go_round
        case rel => exact ⟨k + 1, hlt, by go_num, by rw [HS.out, HZ.out, if_pos rfl]⟩
        case measure => simp [intOf]; omega
      · have hze : (l[k] == n) = false := by simpa using hz
        have HZ := Lib.hid hze
        clear hz
        go_wp2_with fail
        go_round
        case rel => exact ⟨k + 1, hlt, by go_num, by rw [HS.out, HZ.out, if_neg (by simp)]; go_num⟩
        case measure => simp [intOf]; omega
    · clear hel
      go_wp2_with fail
      go_ret
      exact ⟨ret_int (by rw [List.take_of_length_le (by omega)]), Below.refl _ _⟩

end Go.Proofs.Ytohooejljbddmaa
