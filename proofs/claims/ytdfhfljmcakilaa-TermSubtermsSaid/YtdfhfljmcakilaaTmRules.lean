/-
  Rules and argCounts of the program; Rules, arities, CompareInts, order of the reference; the library's Compare of ints. Nothing is assumed.
-/
import Derived.Test.YtdfhfljmcakilaaTmListA
namespace Go.Proofs.Ytdfhfljmcakilaa
open Go.RowKit

set_option maxHeartbeats 800000 in
theorem rules_any (v : T) (sl : Value) (w : World) (B : Nat) (hrep : Rep w B sl v.l) (hB : B ≤ w.heap.size) (hsz : v.size ≤ 1000) :
    Calls Try.prog 16 #[.agg #[.int .i64 v.r, sl]] w fun e w' => RetI w.heap.size v.rules e w' ∧ Below w.heap.size w w' := by
  have hR := hrep.mono hB
  have HR := Lib.hid (callsIn_wide.1 (listedR_in v sl (w.alloc (.cells #[.int .i64 v.r, sl] 24)) (hR.on (below1 _ _)) hsz 10 (by decide)))
  obtain ⟨oa, cap, rfl, _, _⟩ := hR.form
  go_enter Try.func16, Try.ntmps16
  go_wp2_with fail
  refine HR.out.mono ?_
  rintro e w1 ⟨⟨x, rfl, ho⟩, hb1⟩
  go_wp2_with fail
  go_ret
  exact ⟨⟨_, rfl, ho.weak (by simp)⟩, (below1 _ _).trans (hb1.mono (by simp))⟩

set_option maxHeartbeats 800000 in
theorem ars_any (v : T) (sl : Value) (w : World) (B : Nat) (hrep : Rep w B sl v.l) (hB : B ≤ w.heap.size) (hsz : v.size ≤ 1000) :
    Calls Try.prog 37 #[.agg #[.int .i64 v.r, sl]] w fun e w' => RetI w.heap.size v.ars e w' ∧ Below w.heap.size w w' := by
  have hR := hrep.mono hB
  have HR := Lib.hid (callsIn_wide.1 (listedA_in v sl (w.alloc (.cells #[.int .i64 v.r, sl] 24)) (hR.on (below1 _ _)) hsz 10 (by decide)))
  obtain ⟨oa, cap, rfl, _, _⟩ := hR.form
  go_enter Try.func37, Try.ntmps37
  go_wp2_with fail
  refine HR.out.mono ?_
  rintro e w1 ⟨⟨x, rfl, ho⟩, hb1⟩
  go_wp2_with fail
  go_ret
  exact ⟨⟨_, rfl, ho.weak (by simp)⟩, (below1 _ _).trans (hb1.mono (by simp))⟩

set_option maxHeartbeats 400000 in
theorem order_any (a b : Int) (w : World) : Calls Try.prog 31 #[.int .i64 a, .int .i64 b] w fun e w' => e = .returned (.int .i64 (cmpI a b)) ∧ w' = w := by
  have HC := Lib.hid (cmpI_three a b)
  rcases Int.lt_trichotomy a b with h | h | h
  · go_enter Try.func31, Try.ntmps31
    go_wp2_with fail
    go_ret
    exact ⟨ret_int (by unfold cmpI; rw [if_pos h]), rfl⟩
  · subst h
    go_enter Try.func31, Try.ntmps31
    go_wp2_with fail
    go_ret
    exact ⟨ret_int (cmpI_self a).symm, rfl⟩
  · go_enter Try.func31, Try.ntmps31
    go_wp2_with fail
    go_ret
    exact ⟨ret_int (by unfold cmpI; rw [if_neg (by omega), if_pos h]), rfl⟩

set_option maxRecDepth 100000 in
set_option maxHeartbeats 1600000 in
theorem cmpInts_any (x y : Value) (l m : List Int) (w : World) (B : Nat) (hx : HoldsI w B x l) (hy : HoldsI w B y m) (hB : B ≤ w.heap.size) :
    Calls Try.prog 15 #[x, y] w fun e w' => e = .returned (.int .i64 (cmpL l m)) ∧ Below w.heap.size w w' := by
  obtain ⟨oa, ca, rfl, _, _, hel⟩ := hx
  obtain ⟨ob, cb, rfl, _, _, hem⟩ := hy
  go_enter Try.func15, Try.ntmps15
  go_wp2_with fail
  go_loopw [5] (fun i wr => ∃ k : Nat, k ≤ l.length ∧ k ≤ m.length ∧ i = .int .i64 k ∧ Hid (cmpL (l.drop k) (m.drop k) = cmpL l m) ∧ Below w.heap.size w wr) (fun i _ => l.length - (intOf i).toNat)
  case atStart => exact ⟨0, Nat.zero_le _, Nat.zero_le _, rfl, rfl, Below.refl _ _⟩
  case round =>
    obtain ⟨k, hk, hk', rfl, HD, hbel⟩ := hrel
    have HEND : k = l.length ∨ k = m.length → Hid (cmpI (l.length : Int) m.length = cmpL l m) := fun h => by
      refine Lib.hid ?_
      rw [← HD.out]
      by_cases e1 : k < l.length
      · have e2 : k = m.length := by omega
        rw [List.drop_of_length_le (by omega : m.length ≤ k)]
        cases hd : l.drop k with
        | nil => have := congrArg List.length hd; simp at this; omega
        | cons a r => rw [cmpL_cons_nil]; unfold cmpI; rw [if_neg (by omega), if_pos (by omega)]
      · rw [List.drop_of_length_le (by omega : l.length ≤ k), cmpL_nil]
        unfold cmpI
        simp only [List.length_drop]
        split <;> split <;> (try split) <;> omega
    have HEND := Lib.hid HEND
    by_cases hlt : k < l.length
    · by_cases hlt' : k < m.length
      · obtain ⟨b, off, rfl, hb, hc⟩ := hel k _ (List.getElem?_eq_getElem hlt)
        obtain ⟨b', off', rfl, hb', hc'⟩ := hem k _ (List.getElem?_eq_getElem hlt')
        rw [← hbel.cell (p := ⟨b, _, none⟩) (Nat.lt_of_lt_of_le hb hB)] at hc
        rw [← hbel.cell (p := ⟨b', _, none⟩) (Nat.lt_of_lt_of_le hb' hB)] at hc'
        have HS := Lib.hid (List.drop_eq_getElem_cons hlt)
        have HS' := Lib.hid (List.drop_eq_getElem_cons hlt')
        have q0 : (0 : Int) ≤ (k : Int) := by omega
        have q1 : (k : Int) < (l.length : Int) := by omega
        have q2 : (k : Int) < (m.length : Int) := by omega
        rcases Int.lt_trichotomy l[k] m[k] with h | h | h
        · have hg : ¬ m[k] < l[k] := by omega
          have HH := Lib.hid h
          go_wp2_with fail
          go_quiet (fail)
          go_wp2_with fail
          go_ret
          refine ⟨ret_int ?_, hbel.trans (below_drewN _ _ _)⟩
          rw [← HD.out, HS.out, HS'.out, cmpL_cons]
          have : cmpI l[k] m[k] = -1 := if_pos HH.out
          rw [this]; rfl
        · have hg : ¬ m[k] < l[k] := by omega
          have hg' : ¬ l[k] < m[k] := by omega
          have HH := Lib.hid h
          clear h
          go_wp2_with fail
          go_quiet (fail)
          go_wp2_with fail
          go_quiet (fail)
          go_wp2_with fail
          go_roundw
          case rel =>
            refine ⟨k + 1, hlt, hlt', by go_num, Lib.hid ?_, by first | exact hbel.trans (below_drewN _ _ _) | exact (hbel.trans (below_drewN _ _ _)).trans (below_drewN _ _ _)⟩
            have h := HD.out
            rw [HS.out, HS'.out, cmpL_cons, HH.out, cmpI_self, if_neg (by simp)] at h
            exact h
          case measure => simp [intOf]; omega
        · have hg : ¬ l[k] < m[k] := by omega
          have HH := Lib.hid h
          go_wp2_with fail
          go_quiet (fail)
          go_wp2_with fail
          go_quiet (fail)
          go_wp2_with fail
          go_ret
          refine ⟨ret_int ?_, by first | exact hbel.trans (below_drewN _ _ _) | exact (hbel.trans (below_drewN _ _ _)).trans (below_drewN _ _ _)⟩
          rw [← HD.out, HS.out, HS'.out, cmpL_cons]
          have : cmpI l[k] m[k] = 1 := by unfold cmpI; rw [if_neg (by have := HH.out; omega), if_pos HH.out]
          rw [this]; rfl
      · have HE := HEND.out (.inr (by omega))
        go_wp2_with fail
        refine (order_any _ _ _).mono ?_
        rintro e w1 ⟨rfl, hw⟩
        obtain rfl := hw.symm
        go_wp2_with fail
        go_ret
        exact ⟨ret_int HE.out, hbel⟩
    · have HE := HEND.out (.inl (by omega))
      go_wp2_with fail
      refine (order_any _ _ _).mono ?_
      rintro e w1 ⟨rfl, hw⟩
      obtain rfl := hw.symm
      go_wp2_with fail
      go_ret
      exact ⟨ret_int HE.out, hbel⟩

end Go.Proofs.Ytdfhfljmcakilaa
