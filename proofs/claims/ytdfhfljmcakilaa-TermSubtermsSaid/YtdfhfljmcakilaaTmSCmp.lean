/-
  The library's Compare of ints, and of lists of ints. Nothing is assumed.
-/
import Derived.Test.YtdfhfljmcakilaaTmRules
namespace Go.Proofs.Ytdfhfljmcakilaa
open Go.RowKit

set_option maxHeartbeats 400000 in
theorem isNaN_int (a : Int) (w : World) : Calls Try.prog 51 #[.int .i64 a] w fun e w' => e = .returned (.bool false) ∧ w = w' := by
  go_enter Try.func51, Try.ntmps51
  go_wp2_with fail
  go_ret
  exact ⟨rfl, rfl⟩

set_option maxHeartbeats 400000 in
theorem cmp_int (a b : Int) (w : World) : Calls Try.prog 35 #[.int .i64 a, .int .i64 b] w fun e w' => e = .returned (.int .i64 (cmpI a b)) ∧ w = w' := by
  by_cases h1 : a < b
  · have HZ : cmpI a b = -1 := if_pos h1
    rw [HZ]; clear HZ
    go_enter Try.func35, Try.ntmps35
    go_wp2_with (go_at_call 51; refine (isNaN_int _ _).mono ?_; rintro e w' ⟨rfl, rfl⟩)
    go_ret
    exact ⟨rfl, rfl⟩
  by_cases h2 : b < a
  · have HZ : cmpI a b = 1 := by unfold cmpI; rw [if_neg h1, if_pos h2]
    rw [HZ]; clear HZ
    go_enter Try.func35, Try.ntmps35
    go_wp2_with (go_at_call 51; refine (isNaN_int _ _).mono ?_; rintro e w' ⟨rfl, rfl⟩)
    go_ret
    exact ⟨rfl, rfl⟩
  · have HZ : cmpI a b = 0 := by unfold cmpI; rw [if_neg h1, if_neg h2]
    rw [HZ]; clear HZ
    go_enter Try.func35, Try.ntmps35
    go_wp2_with (go_at_call 51; refine (isNaN_int _ _).mono ?_; rintro e w' ⟨rfl, rfl⟩)
    go_ret
    exact ⟨rfl, rfl⟩

theorem neqf {a b : Int} (h : a = b) : (a != b) = false := by subst h; simp
theorem neqt {a b : Int} (h : a ≠ b) : (a != b) = true := bne_iff_ne.2 h

set_option maxRecDepth 100000 in
set_option maxHeartbeats 1600000 in
theorem scompare_any (x y : Value) (l m : List Int) (w : World) (B : Nat) (hx : HoldsI w B x l) (hy : HoldsI w B y m) (hB : B ≤ w.heap.size) :
    Calls Try.prog 36 #[x, y] w fun e w' => e = .returned (.int .i64 (cmpL l m)) ∧ Below w.heap.size w w' := by
  obtain ⟨oa, ca, rfl, hla, hca, hel⟩ := hx
  obtain ⟨ob, cb, rfl, hlb, hcb, hem⟩ := hy
  go_enter Try.func36, Try.ntmps36
  go_wp2_with fail
  go_loopw [11] (fun i wr => ∃ k : Nat, k ≤ l.length ∧ k ≤ m.length ∧ i = .int .i64 k ∧ Hid (cmpL (l.drop k) (m.drop k) = cmpL l m) ∧ Below w.heap.size w wr) (fun i _ => l.length - (intOf i).toNat)
  case atStart => exact ⟨0, Nat.zero_le _, Nat.zero_le _, rfl, rfl, Below.refl _ _⟩
  case round =>
    obtain ⟨k, hk, hk', rfl, HD, hbel⟩ := hrel
    by_cases hlt : k < l.length
    · obtain ⟨b, off, rfl, hb, hc⟩ := hel k _ (List.getElem?_eq_getElem hlt)
      rw [← hbel.cell (p := ⟨b, _, none⟩) (Nat.lt_of_lt_of_le hb hB)] at hc
      have HS := Lib.hid (List.drop_eq_getElem_cons hlt)
      by_cases hlt' : k < m.length
      · obtain ⟨b', off', rfl, hb', hc'⟩ := hem k _ (List.getElem?_eq_getElem hlt')
        rw [← hbel.cell (p := ⟨b', _, none⟩) (Nat.lt_of_lt_of_le hb' hB)] at hc'
        have HS' := Lib.hid (List.drop_eq_getElem_cons hlt')
        by_cases hz : cmpI l[k] m[k] = 0
        · have fc := neqf hz
          have HH := Lib.hid hz
          clear hz
          go_wp2_with (go_at_call 35; refine (cmp_int _ _ _).mono ?_; rintro e w' ⟨rfl, rfl⟩)
          go_roundw
          case rel =>
            refine ⟨k + 1, hlt, hlt', by go_num, Lib.hid ?_, hbel⟩
            have h := HD.out
            rw [HS.out, HS'.out, cmpL_cons, HH.out, if_neg (by simp)] at h
            exact h
          case measure => simp [intOf]; omega
        · have fc := neqt hz
          have HH := Lib.hid hz
          clear hz
          go_wp2_with (go_at_call 35; refine (cmp_int _ _ _).mono ?_; rintro e w' ⟨rfl, rfl⟩)
          go_ret
          refine ⟨ret_int ?_, hbel⟩
          rw [← HD.out, HS.out, HS'.out, cmpL_cons, if_pos HH.out]
      · go_wp2_with fail
        go_ret
        refine ⟨ret_int ?_, hbel⟩
        rw [← HD.out, HS.out, List.drop_of_length_le (by omega : m.length ≤ k), cmpL_cons_nil]
    · by_cases hlt' : l.length < m.length
      · go_wp2_with fail
        go_ret
        refine ⟨ret_int ?_, hbel⟩
        rw [← HD.out, List.drop_of_length_le (by omega : l.length ≤ k), cmpL_nil, if_neg (by simp; omega)]
      · go_wp2_with fail
        go_ret
        refine ⟨ret_int ?_, hbel⟩
        rw [← HD.out, List.drop_of_length_le (by omega : l.length ≤ k), cmpL_nil, if_pos (by simp; omega)]

end Go.Proofs.Ytdfhfljmcakilaa
