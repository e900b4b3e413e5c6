/-
  Replace of the package. Nothing is assumed.
-/
import Derived.Test.YtlpmaeemegphiaaDoorStFind
import Derived.Test.YtlpmaeemegphiaaDoorStNumeral
namespace Go.Proofs.YtlpmaeemegphiaaDoor
open Go.RowKit

/-- What Replace returns. -/
def rpA (s old new : ByteArray) : List UInt8 := rep old.data.toList new.data.toList s.data.toList
def rcS (s old new : ByteArray) : ByteArray := if old.size = 0 then ⟨#[]⟩ else if 64 < (rpA s old new).length then ⟨#[]⟩ else str (rpA s old new)
def rcE (s old new : ByteArray) : Int := if old.size = 0 then 4 else if 64 < (rpA s old new).length then 2 else 0
theorem rc_nil {s old new : ByteArray} (h : old.size = 0) : rcS s old new = ⟨#[]⟩ ∧ rcE s old new = 4 := by
  unfold rcS rcE
  rw [if_pos h, if_pos h]
  exact ⟨rfl, rfl⟩
theorem rc_big {s old new : ByteArray} (h : old.size ≠ 0) (hb : 64 < (rpA s old new).length) : rcS s old new = ⟨#[]⟩ ∧ rcE s old new = 2 := by
  unfold rcS rcE
  rw [if_neg h, if_neg h, if_pos hb, if_pos hb]
  exact ⟨rfl, rfl⟩
theorem rc_ok {s old new : ByteArray} (h : old.size ≠ 0) (hb : ¬ 64 < (rpA s old new).length) : rcS s old new = str (rpA s old new) ∧ rcE s old new = 0 := by
  unfold rcS rcE
  rw [if_neg h, if_neg h, if_neg hb, if_neg hb]
  exact ⟨rfl, rfl⟩
theorem ret_se2 {a b : ByteArray} {c d : Int} (h : a = b) (h2 : c = d) : Ending.returned (.tuple #[.string a, .int .i64 c]) = .returned (.tuple #[.string b, .int .i64 d]) := by rw [h, h2]

theorem lays166 : Go.Proofs.Lays.n166 Tryd.prog Tryd.lays105_ren := { Tryd.lays105 with }
theorem writeString_k (B b : Nat) (bs : List Value) (s : ByteArray) (w : World) (h : Lib.IsBuilderF 53 5 B b bs w) (hlen : bs.length + s.size ≤ 140737488355328) (hBw : B ≤ w.heap.size) :
    Calls Tryd.prog 45 #[.pointer (some ⟨b, 0, none⟩), .string s] w fun e w' => e = .returned (.tuple #[.int .i64 s.size, .nilIface]) ∧ Lib.IsBuilderF 53 5 B b (bs ++ Lib.strCells s) w' ∧ Below B w w' :=
  (Any.Builder_WriteString_f lays166 Tryd.Builder_Extra_105 B b bs s w h hlen hBw).mono fun _ _ ⟨h1, h2, h3⟩ => ⟨h1, Or.inr h2, h3⟩

def IsB (B : Nat) (l : List UInt8) (w : World) : Prop := Lib.IsBuilderF 53 5 B B (Lib.byteCells l) w
theorem isB_fresh (w : World) : IsB w.heap.size [] (w.alloc (.cells #[.pointer none, .slice none 0 0] 53)) := Lib.IsBuilderF.of (Lib.fresh_isBuilder 53 5 w)
theorem write_any (B : Nat) (l : List UInt8) (s : ByteArray) (w : World) (h : IsB B l w) (hlen : l.length + s.size ≤ 2000) (hBw : B ≤ w.heap.size) :
    Calls Tryd.prog 45 #[.pointer (some ⟨B, 0, none⟩), .string s] w fun e w' => e = .returned (.tuple #[.int .i64 s.size, .nilIface]) ∧ IsB B (l ++ s.data.toList) w' ∧ Below B w w' :=
  (writeString_k B B _ s w h (by rw [Lib.byteCells_length]; omega) hBw).mono fun _ _ ⟨h1, h2, h3⟩ => ⟨h1, by
    unfold IsB
    rw [Lib.byteCells_append, ← Lib.strCells_eq]
    exact h2, h3⟩
theorem len_any (B : Nat) (l : List UInt8) (w : World) (h : IsB B l w) :
    Calls Tryd.prog 44 #[.pointer (some ⟨B, 0, none⟩)] w fun e w' => e = .returned (.int .i64 (l.length : Int)) ∧ w' = w := by
  have := Tryd.Builder_Len_f B B _ w h
  rw [Lib.byteCells_length] at this
  exact this
theorem text_any (B : Nat) (l : List UInt8) (w : World) (h : IsB B l w) (hBw : B ≤ w.heap.size) :
    Calls Tryd.prog 46 #[.pointer (some ⟨B, 0, none⟩)] w fun e w' => e = .returned (.string (str l)) ∧ Below B w w' :=
  (Tryd.Builder_String_any_f B B l w h hBw).mono fun _ _ ⟨h1, _, h3⟩ => ⟨h1, h3⟩
theorem idx_any (s t : ByteArray) (w : World) (hE : Env w) (hs : s.size ≤ 1000) :
    Calls Tryd.prog 43 #[.string s, .string t] w fun e w' => e = .returned (.int .i64 (Lib.index s.data.toList t.data.toList)) ∧ w' = w := by
  obtain ⟨⟨m, hm⟩, _⟩ := hE
  exact Tryd.strings_Index s t m w (by omega) hm
theorem str_app (l : List UInt8) (s : ByteArray) : str l ++ s = str (l ++ s.data.toList) := by
  apply ByteArray.ext
  apply Array.toList_inj.1
  simp [str]
theorem rp_skip (R old new : ByteArray) (k j : Nat) (ho : 0 < old.size) (hk : k ≤ R.size) (hj : k + old.size = j) (hO : Lib.occAt R.data.toList old.data.toList k = true) (hN : ∀ i, i < k → Lib.occAt R.data.toList old.data.toList i = false) :
    rpA R old new = (R.extract 0 k).data.toList ++ (new.data.toList ++ rpA (R.extract j R.size) old new) := by
  have ho' : 0 < old.data.toList.length := by rw [list_len]; exact ho
  unfold rpA
  rw [rep_skip _ _ ho' k _ (by rw [list_len]; exact hk) hN, rep_hit _ _ _ ho' (by rw [occ_drop]; simpa using hO), extract_str, extract_str]
  rw [List.drop_drop, list_len, hj]
  show _ = ((R.data.toList.drop 0).take (k - 0)) ++ (_ ++ rep _ _ ((R.data.toList.drop j).take (R.size - j)))
  rw [List.drop_zero, Nat.sub_zero, List.take_of_length_le (l := R.data.toList.drop j) (by rw [List.length_drop, list_len]; omega)]
theorem rp_none (R old new : ByteArray) (ho : 0 < old.size) (hN : ∀ i, i ≤ R.data.toList.length → Lib.occAt R.data.toList old.data.toList i = false) : rpA R old new = R.data.toList :=
  rep_none _ _ (by rw [list_len]; exact ho) _ hN
def szOf : Value → Nat
  | .string s => s.size
  | _ => 0

set_option maxRecDepth 100000 in
set_option maxHeartbeats 1600000 in
theorem replace_any (s old new : ByteArray) (w : World) (hE : Env w) (hs : s.size ≤ 1000) (hn : old.size ≤ s.size → new.size ≤ 1000) :
    Calls Tryd.prog 25 #[.string s, .string old, .string new] w fun e w' => e = .returned (.tuple #[.string (rcS s old new), .int .i64 (rcE s old new)]) ∧ Below w.heap.size w w' := by
  by_cases h0 : old.size = 0
  · rw [(rc_nil h0).1, (rc_nil h0).2]
    obtain ⟨f1, f2, _⟩ := nil_fct h0
    clear h0 hs hn
    go_enter Tryd.func25, Tryd.ntmps25
    go_wp2_with fail
    go_ret2
    exact ⟨rfl, Below.refl _ _⟩
  obtain ⟨f1, f2⟩ := ne_fct h0
  have ho : 0 < old.size := by omega
  have HB0 := Lib.hid (isB_fresh w)
  have HBel := (Below.refl w.heap.size w).alloc (Nat.le_refl _) (.cells #[.pointer none, .slice none 0 0] 53)
  go_enter Tryd.func25, Tryd.ntmps25
  go_wp2_with fail
  go_loopw [0, 9] (fun r _ wr => ∃ (R : ByteArray) (O : List UInt8), r = .string R ∧ R.size ≤ s.size ∧ O.length ≤ 64 ∧ Hid (rpA s old new = O ++ rpA R old new) ∧ Hid (IsB w.heap.size O wr) ∧ Below w.heap.size w wr) (fun r _ _ => szOf r)
  case atStart => exact ⟨s, [], rfl, Nat.le_refl _, by decide, Lib.hid rfl, HB0, HBel⟩
  case round =>
    obtain ⟨R, O, rfl, hR, hO, HR, HB, hbel⟩ := hrel
    have hsz := hbel.size
    have HE := Lib.hid (hE.later hbel)
    have HI := idx_any R old wr HE.out (by omega)
    have HL := len_any w.heap.size O wr HB.out
    have hox : (O.length : Int) ≤ 64 := by omega
    have hrx : (R.size : Int) ≤ 1000 := by omega
    rcases index_cases R.data.toList old.data.toList with ⟨hi, hno⟩ | ⟨k, hk, hi, hoc, hno⟩
    · rw [hi] at HI
      have HP : Hid (rpA s old new = O ++ R.data.toList) := Lib.hid (by rw [HR.out, rp_none R old new ho hno])
      clear hi hno HR
      have HLN : Hid ((rpA s old new).length = O.length + R.size) := Lib.hid (by rw [HP.out, List.length_append, list_len])
      have HS := fun hsz => text_any w.heap.size O wr HB.out hsz
      have HAP := Lib.hid (str_app O R)
      have hAz : (str O).size = O.length := by rw [← list_len]; rfl
      generalize str O = A at *
      have hadd : ∀ w, (Op.stringOp .add A R).run Tryd.prog w = .ok (.string (A ++ R)) w := fun w => run_string_add_sum w A R (by omega)
      clear hAz
      by_cases hb : 64 < O.length + R.size
      · have HF := Lib.hid (rc_big (s := s) (new := new) h0 (by rw [HLN.out]; exact hb))
        have hb' : (64 : Int) < (O.length : Int) + (R.size : Int) := by omega
        clear HP HLN HAP HS hadd
        go_wp2_with fail
        refine HI.mono ?_
        rintro e w' ⟨rfl, hw'⟩; obtain rfl := hw'.symm
        go_wp2_with fail
        refine HL.mono ?_
        rintro e w' ⟨rfl, hw'⟩; obtain rfl := hw'.symm
        go_wp2_with fail
        go_ret2
        exact ⟨ret_se2 HF.out.1.symm HF.out.2.symm, hbel⟩
      · have HF := Lib.hid (rc_ok (s := s) (new := new) h0 (by rw [HLN.out]; exact hb))
        have hb' : ¬ (64 : Int) < (O.length : Int) + (R.size : Int) := by omega
        have HT : Hid (A ++ R = rcS s old new) := Lib.hid (by rw [HF.out.1, HP.out, HAP.out])
        clear HP HLN HAP
        go_wp2_with fail
        refine HI.mono ?_
        rintro e w' ⟨rfl, hw'⟩; obtain rfl := hw'.symm
        go_wp2_with fail
        refine HL.mono ?_
        rintro e w' ⟨rfl, hw'⟩; obtain rfl := hw'.symm
        go_wp2_with fail
        refine (HS hsz).mono ?_
        rintro e w2 ⟨rfl, hb2⟩
        clear HS
        go_wp2_with fail
        go_ret2
        exact ⟨ret_se2 HT.out HF.out.2.symm, hbel.trans hb2⟩
    · rw [hi] at HI
      rw [list_len] at hk
      have hkj := occ_len hoc (by rw [list_len]; exact hk)
      rw [list_len, list_len] at hkj
      have hnx : (new.size : Int) ≤ 1000 := by have := hn (by omega); omega
      obtain ⟨j, hj⟩ : ∃ j, k + old.size = j := ⟨_, rfl⟩
      have hji : (k : Int) + (old.size : Int) = (j : Int) := by omega
      have HP : Hid (rpA s old new = (O ++ (R.extract 0 k).data.toList ++ new.data.toList) ++ rpA (R.extract j R.size) old new) := Lib.hid (by
        rw [HR.out, rp_skip R old new k j ho hk hj hoc hno]
        simp only [List.append_assoc])
      have hLk : (R.extract 0 k).data.toList.length = k := by rw [list_len, ByteArray.size_extract]; omega
      have HLE : Hid ((rpA s old new).length = (O.length + k + new.size) + (rpA (R.extract j R.size) old new).length) := Lib.hid (by
        rw [HP.out, List.length_append, List.length_append, List.length_append, hLk, list_len])
      have hXs : (R.extract 0 k).size = k := by rw [← list_len]; exact hLk
      have hYs : (R.extract j R.size).size + j = R.size := by rw [ByteArray.size_extract]; omega
      generalize hX : R.extract 0 k = X at *
      generalize hY : R.extract j R.size = Y at *
      have hkx : (k : Int) ≤ (R.size : Int) := by omega
      have hjx : (j : Int) ≤ (R.size : Int) := by omega
      have hjp : 0 < j := by omega
      clear hi hno hoc HR hj
      by_cases hb : 64 < O.length + k + new.size
      · have HF := Lib.hid (rc_big (s := s) (new := new) h0 (by rw [HLE.out]; omega))
        have hb' : (64 : Int) < (O.length : Int) + (k : Int) + (new.size : Int) := by omega
        clear HP HLE
        go_wp2_with fail
        refine HI.mono ?_
        rintro e w' ⟨rfl, hw'⟩; obtain rfl := hw'.symm
        go_wp2_with fail
        refine HL.mono ?_
        rintro e w' ⟨rfl, hw'⟩; obtain rfl := hw'.symm
        go_wp2_with fail
        go_ret2
        exact ⟨ret_se2 HF.out.1.symm HF.out.2.symm, hbel⟩
      · have hb' : ¬ (64 : Int) < (O.length : Int) + (k : Int) + (new.size : Int) := by omega
        have HW := write_any w.heap.size O X wr HB.out (by omega) hsz
        have hO2 : (O ++ X.data.toList ++ new.data.toList).length ≤ 64 := by rw [List.length_append, List.length_append, list_len, list_len]; omega
        have HO1 := Lib.hid (show (O ++ X.data.toList).length + new.size ≤ 2000 by rw [List.length_append, list_len]; omega)
        clear HLE
        go_wp2_with fail
        refine HI.mono ?_
        rintro e w' ⟨rfl, hw'⟩; obtain rfl := hw'.symm
        go_wp2_with fail
        refine HL.mono ?_
        rintro e w' ⟨rfl, hw'⟩; obtain rfl := hw'.symm
        go_wp2_with fail
        refine HW.mono ?_
        rintro e w2 ⟨rfl, hB2, hb2⟩
        clear HW HL HI
        have hsz2 := Nat.le_trans hsz hb2.size
        have HW2 := write_any w.heap.size _ new w2 hB2 HO1.out hsz2
        clear hB2
        go_wp2_with fail
        refine HW2.mono ?_
        rintro e w3 ⟨rfl, hB3, hb3⟩
        clear HW2
        have HB3 := Lib.hid hB3
        clear hB3
        have hbe := (hbel.trans hb2).trans hb3
        go_wp2_with fail
        go_roundw
        case rel => exact ⟨Y, _, rfl, by omega, hO2, HP, HB3, hbe⟩
        case measure => simp [szOf]; omega

end Go.Proofs.YtlpmaeemegphiaaDoor
