/-
  Replace of the reference. Nothing is assumed.
-/
import Derived.Test.YtlpmaeemegphiaaDoorStRepl
import Derived.Test.YtlpmaeemegphiaaDoorStRefC
namespace Go.Proofs.YtlpmaeemegphiaaDoor
open Go.RowKit

theorem own_form {w : World} {base : Nat} {v : Value} {n : Nat} {xs : List Value} (h : w.ownsRow base 5 1 v n xs) : ∃ ao cap, v = .slice ao n cap := by
  rcases h.2 with ⟨h1, h2⟩ | ⟨g, cap, cur, h1, _⟩
  · exact ⟨none, 0, by rw [h1, h2]⟩
  · exact ⟨_, _, h1⟩
theorem own_str {w : World} {base : Nat} {v : Value} {A : List UInt8} {s : ByteArray} (h : w.ownsRow base 5 1 v (A.length + s.size) (bcells A ++ Lib.strCells s)) : OwnB w base v (A ++ s.data.toList) := by
  unfold OwnB
  rw [List.length_append, list_len]
  unfold bcells at *
  rw [List.map_append]
  exact h
theorem own_byte {w : World} {base : Nat} {v : Value} {A : List UInt8} {c : UInt8} (h : w.ownsRow base 5 1 v (A.length + 1) (bcells A ++ [.int .u8 (c.toNat : Int)])) : OwnB w base v (A ++ [c]) := by
  unfold OwnB
  rw [List.length_append]
  unfold bcells at *
  rw [List.map_append]
  exact h

set_option maxRecDepth 100000 in
set_option maxHeartbeats 1600000 in
theorem rreplace_any (s old new : ByteArray) (w : World) (hs : s.size ≤ 1000) (hn : new.size ≤ 1000) (hol : old.size ≤ 1000) :
    Calls Tryd.prog 26 #[.string s, .string old, .string new] w fun e w' => e = .returned (.tuple #[.string (rcS s old new), .int .i64 (rcE s old new)]) ∧ Below w.heap.size w w' := by
  obtain ⟨i0, hi, hz0, hz1, hz2⟩ := info_parts infoByte
  by_cases h0 : old.size = 0
  · rw [(rc_nil h0).1, (rc_nil h0).2]
    obtain ⟨f1, f2, _⟩ := nil_fct h0
    clear h0 hs hn hol
    go_enter Tryd.func26, Tryd.ntmps26
    go_wp2_with fail
    go_ret2
    exact ⟨rfl, Below.refl _ _⟩
  obtain ⟨f1, f2⟩ := ne_fct h0
  have ho : 0 < old.size := by omega
  have ho' : 0 < old.data.toList.length := by rw [list_len]; exact ho
  have hnx : (new.size : Int) ≤ 1000 := by omega
  have HAT := fun i w => rat_any s old i w hs hol
  go_enter Tryd.func26, Tryd.ntmps26
  go_wp2_with fail
  go_loopw [8, 9] (fun v j wr => ∃ (i : Nat) (O : List UInt8), i ≤ s.size ∧ j = .int .i64 i ∧ O.length ≤ 64 ∧ Hid (rpA s old new = O ++ rep old.data.toList new.data.toList (s.data.toList.drop i)) ∧ Hid (OwnB wr w.heap.size v O) ∧ Below w.heap.size w wr) (fun _ j _ => s.size - (intOf j).toNat)
  case atStart => exact ⟨0, [], Nat.zero_le _, rfl, by decide, Lib.hid rfl, Lib.hid (OwnB.none _ _), Below.refl _ _⟩
  case round =>
    obtain ⟨i, O, hile, rfl, hOl, HR, HO, hbel⟩ := hrel
    have hsz := hbel.size
    have hox : (O.length : Int) ≤ 64 := by omega
    by_cases hlt : i < s.size
    · have HC := HAT i wr hile
      cases hoc : Lib.occAt s.data.toList old.data.toList i
      · rw [hoc] at HC
        have hmiss := rep_miss old.data.toList new.data.toList (s.data.toList.drop i) (by rw [occ_drop]; simpa using hoc) (s[i]'hlt) (by rw [List.getElem?_drop, Nat.add_zero]; exact list_at s i hlt)
        rw [List.drop_drop] at hmiss
        have HR2 : Hid (rpA s old new = (O ++ [s[i]'hlt]) ++ rep old.data.toList new.data.toList (s.data.toList.drop (i + 1))) := Lib.hid (by
          rw [HR.out, hmiss]
          simp)
        have HL : Hid ((rpA s old new).length = O.length + 1 + (rep old.data.toList new.data.toList (s.data.toList.drop (i + 1))).length) := Lib.hid (by
          rw [HR2.out, List.length_append, List.length_append]
          rfl)
        clear hoc hmiss HR HAT
        by_cases hb : 64 < O.length + 1
        · have HF := Lib.hid (rc_big (s := s) (new := new) h0 (by rw [HL.out]; omega))
          have hb' : (64 : Int) < (O.length : Int) + 1 := by omega
          clear HL HR2
          go_wp2_with fail
          refine HC.mono ?_
          rintro e w' ⟨rfl, hw'⟩; obtain rfl := hw'.symm
          clear HC
          go_wp2_with (first | (at_builtin; refine wpList_append_own _ rfl _ _ 51 rfl w.heap.size 5 i0 (.int .u8 0) 1 1 Tryd.underlying51 hi hz0 hz1 hz2 rfl (by decide) _ _ _ rfl (HO.out.alloc _) ⟨wr.heap.size, 0, none⟩ 1 1 [.int .u8 (((s[i]'hlt).toNat : Int))] rfl rfl (byte_news _ _ _) (byte_cells _) (by unfold maxLen; omega) (by omega) (by simp; omega) ?_))
          intro v' w2 hown' hgrow _
          have hbw : Below w.heap.size w w2 := (hbel.alloc hsz _).grown hgrow (by simp; omega) (fun g hg => by
            rcases Nat.lt_or_ge g w.heap.size with h | h
            · exact absurd hg (ownB_far HO.out h)
            · exact h)
          have HO2 := Lib.hid (own_byte hown')
          obtain ⟨ao, cap, rfl⟩ := own_form hown'
          clear hown' hgrow
          go_wp2_with fail
          go_ret2
          exact ⟨ret_se2 HF.out.1.symm HF.out.2.symm, hbw⟩
        · have hb' : ¬ (64 : Int) < (O.length : Int) + 1 := by omega
          have hO2 : (O ++ [s[i]'hlt]).length ≤ 64 := by rw [List.length_append]; show _ + 1 ≤ 64; omega
          clear HL
          go_wp2_with fail
          refine HC.mono ?_
          rintro e w' ⟨rfl, hw'⟩; obtain rfl := hw'.symm
          clear HC
          go_wp2_with (first | (at_builtin; refine wpList_append_own _ rfl _ _ 51 rfl w.heap.size 5 i0 (.int .u8 0) 1 1 Tryd.underlying51 hi hz0 hz1 hz2 rfl (by decide) _ _ _ rfl (HO.out.alloc _) ⟨wr.heap.size, 0, none⟩ 1 1 [.int .u8 (((s[i]'hlt).toNat : Int))] rfl rfl (byte_news _ _ _) (byte_cells _) (by unfold maxLen; omega) (by omega) (by simp; omega) ?_))
          intro v' w2 hown' hgrow _
          have hbw : Below w.heap.size w w2 := (hbel.alloc hsz _).grown hgrow (by simp; omega) (fun g hg => by
            rcases Nat.lt_or_ge g w.heap.size with h | h
            · exact absurd hg (ownB_far HO.out h)
            · exact h)
          have HO2 := Lib.hid (own_byte hown')
          obtain ⟨ao, cap, rfl⟩ := own_form hown'
          clear hown' hgrow
          go_wp2_with fail
          go_roundw
          case rel => exact ⟨i + 1, _, by omega, by go_num, hO2, HR2, HO2, hbw⟩
          case measure => simp [intOf]; omega
      · rw [hoc] at HC
        have hle := occ_len hoc (by rw [list_len]; exact hile)
        rw [list_len, list_len] at hle
        have hhit := rep_hit old.data.toList new.data.toList (s.data.toList.drop i) ho' (by rw [occ_drop]; simpa using hoc)
        rw [List.drop_drop, list_len] at hhit
        have HR2 : Hid (rpA s old new = (O ++ new.data.toList) ++ rep old.data.toList new.data.toList (s.data.toList.drop (i + old.size))) := Lib.hid (by
          rw [HR.out, hhit, List.append_assoc])
        have HL : Hid ((rpA s old new).length = O.length + new.size + (rep old.data.toList new.data.toList (s.data.toList.drop (i + old.size))).length) := Lib.hid (by
          rw [HR2.out, List.length_append, List.length_append, list_len])
        clear hoc hhit HR HAT
        by_cases hb : 64 < O.length + new.size
        · have HF := Lib.hid (rc_big (s := s) (new := new) h0 (by rw [HL.out]; omega))
          have hb' : (64 : Int) < (O.length : Int) + (new.size : Int) := by omega
          clear HL HR2
          go_wp2_with fail
          refine HC.mono ?_
          rintro e w' ⟨rfl, hw'⟩; obtain rfl := hw'.symm
          clear HC
          go_wp2_with (first | (at_builtin; refine Lib.wpList_append_own_string _ rfl _ _ 51 9 rfl w.heap.size 5 i0 Tryd.underlying51 Tryd.underlying9 hi hz0 hz1 hz2 _ _ _ rfl HO.out new rfl (by unfold maxLen; omega) (by omega) hsz ?_))
          intro v' w2 hown' hgrow _
          have hbw : Below w.heap.size w w2 := hbel.grown hgrow hsz (fun g hg => by
            rcases Nat.lt_or_ge g w.heap.size with h | h
            · exact absurd hg (ownB_far HO.out h)
            · exact h)
          have HO2 := Lib.hid (own_str hown')
          obtain ⟨ao, cap, rfl⟩ := own_form hown'
          clear hown' hgrow
          go_wp2_with fail
          go_ret2
          exact ⟨ret_se2 HF.out.1.symm HF.out.2.symm, hbw⟩
        · have hb' : ¬ (64 : Int) < (O.length : Int) + (new.size : Int) := by omega
          have hO2 : (O ++ new.data.toList).length ≤ 64 := by rw [List.length_append, list_len]; omega
          clear HL
          go_wp2_with fail
          refine HC.mono ?_
          rintro e w' ⟨rfl, hw'⟩; obtain rfl := hw'.symm
          clear HC
          go_wp2_with (first | (at_builtin; refine Lib.wpList_append_own_string _ rfl _ _ 51 9 rfl w.heap.size 5 i0 Tryd.underlying51 Tryd.underlying9 hi hz0 hz1 hz2 _ _ _ rfl HO.out new rfl (by unfold maxLen; omega) (by omega) hsz ?_))
          intro v' w2 hown' hgrow _
          have hbw : Below w.heap.size w w2 := hbel.grown hgrow hsz (fun g hg => by
            rcases Nat.lt_or_ge g w.heap.size with h | h
            · exact absurd hg (ownB_far HO.out h)
            · exact h)
          have HO2 := Lib.hid (own_str hown')
          obtain ⟨ao, cap, rfl⟩ := own_form hown'
          clear hown' hgrow
          go_wp2_with fail
          go_roundw
          case rel => exact ⟨i + old.size, _, by omega, by go_num, hO2, HR2, HO2, hbw⟩
          case measure => simp [intOf]; omega
    · obtain rfl : i = s.size := by omega
      have HP : Hid (rpA s old new = O) := Lib.hid (by
        rw [HR.out, List.drop_eq_nil_of_le (by rw [list_len]; exact Nat.le_refl _), rep_nil, List.append_nil])
      have HF := Lib.hid (rc_ok (s := s) (new := new) h0 (by rw [HP.out]; omega))
      have hback := HO.out.string
      have HT : Hid (str O = rcS s old new) := Lib.hid (by rw [HF.out.1, HP.out])
      clear HP HR HAT
      go_wp2_with fail
      go_ret2
      exact ⟨ret_se2 HT.out HF.out.2.symm, hbel⟩

end Go.Proofs.YtlpmaeemegphiaaDoor
