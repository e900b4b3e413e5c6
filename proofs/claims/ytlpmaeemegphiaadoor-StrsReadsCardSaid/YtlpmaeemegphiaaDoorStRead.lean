/-
  Read of the package. Nothing is assumed.
-/
import Derived.Test.YtlpmaeemegphiaaDoorStNumeral
namespace Go.Proofs.YtlpmaeemegphiaaDoor
open Go.RowKit

/-- What Read returns, told on the sign and the digits. -/
def rbad (b : Bool) (ds : List UInt8) : Bool := !numl ds || (b && decide (ds = [48]))
def rn (b : Bool) (ds : List UInt8) : Int := if rbad b ds then 0 else match nm 0 ds with | none => 0 | some n => if b then -n else n
def re (b : Bool) (ds : List UInt8) : Int := if rbad b ds then 8 else match nm 0 ds with | none => 1 | some _ => 0
theorem rn_is (l : List UInt8) : rdN l = rn (neg l) (digs' l) := rfl
theorem re_is (l : List UInt8) : rdE l = re (neg l) (digs' l) := rfl
theorem r_bad {b : Bool} {ds : List UInt8} (h : rbad b ds = true) : rn b ds = 0 ∧ re b ds = 8 := by
  unfold rn re
  rw [h]
  exact ⟨rfl, rfl⟩
theorem r_over {b : Bool} {ds : List UInt8} (h : rbad b ds = false) (hn : nm 0 ds = none) : rn b ds = 0 ∧ re b ds = 1 := by
  unfold rn re
  rw [h, hn]
  exact ⟨rfl, rfl⟩
theorem r_ok {b : Bool} {ds : List UInt8} {n : Int} (h : rbad b ds = false) (hn : nm 0 ds = some n) : rn b ds = (if b then -n else n) ∧ re b ds = 0 := by
  unfold rn re
  rw [h, hn]
  exact ⟨rfl, rfl⟩
theorem ret_ii {a b c d : Int} (h : a = c) (h2 : b = d) : Ending.returned (.tuple #[.int .i64 a, .int .i64 b]) = .returned (.tuple #[.int .i64 c, .int .i64 d]) := by rw [h, h2]
theorem cut_bool (l : List UInt8) : Lib.hasPrefix l [45] = neg l := by
  unfold Lib.hasPrefix neg
  cases l with
  | nil => rfl
  | cons c r =>
    rw [Bool.eq_iff_iff]
    simp [List.isPrefixOf]
    exact ⟨fun h => h.symm, fun h => h.symm⟩
theorem cut_str (l : List UInt8) : Lib.trimPrefix l [45] = digs' l := by
  unfold Lib.trimPrefix digs'
  rw [cut_bool]
  cases neg l
  · rfl
  · simp
theorem nm_at (D : ByteArray) (p : Nat) (hp : p < D.size) (n : Int) : nm n (D.data.toList.drop p) = if 1000000 < n * 10 + (((D[p]'hp).toNat : Int) - 48) then none else nm (n * 10 + (((D[p]'hp).toNat : Int) - 48)) (D.data.toList.drop (p + 1)) := by
  rw [List.drop_eq_getElem_cons (by rw [list_len]; exact hp), nm]
  have e : D.data.toList[p]'(by rw [list_len]; exact hp) = D[p]'hp := by
    have := list_at D p hp
    rw [List.getElem?_eq_getElem (by rw [list_len]; exact hp)] at this
    exact Option.some.inj this
  rw [e]
  rfl
theorem nm_end (D : ByteArray) (n : Int) : nm n (D.data.toList.drop D.size) = some n := by
  rw [List.drop_eq_nil_of_le (by rw [list_len]; exact Nat.le_refl _)]
  rfl
theorem numl_dig (D : ByteArray) (h : numl D.data.toList = true) (j : Nat) (hj : j < D.size) : 48 ≤ (D[j]'hj).toNat ∧ (D[j]'hj).toNat ≤ 57 := by
  apply isDig_yes
  unfold numl at h
  rw [Bool.and_eq_true, List.all_eq_true] at h
  exact h.1 _ (List.mem_of_getElem? (list_at D j hj))

set_option maxRecDepth 100000 in
set_option maxHeartbeats 1600000 in
theorem read_false (s D : ByteArray) (w : World) (hD : D.size ≤ 1000)
    (HC : ∀ w, Calls Tryd.prog 50 #[.string s, .string ⟨#[45]⟩] w fun e w' => e = .returned (.tuple #[.string D, .bool false]) ∧ w' = w) :
    Calls Tryd.prog 33 #[.string s] w fun e w' => e = .returned (.tuple #[.int .i64 (rn false D.data.toList), .int .i64 (re false D.data.toList)]) ∧ Below w.heap.size w w' := by
  have HI := fun w => isNumeral_any D w hD
  cases hn : numl D.data.toList
  · have hbad : rbad false D.data.toList = true := by unfold rbad; rw [hn]; rfl
    rw [hn] at HI
    rw [(r_bad hbad).1, (r_bad hbad).2]
    clear hbad hn
    go_enter Tryd.func33, Tryd.ntmps33
    go_wp2_with fail
    refine (HC _).mono ?_
    rintro e wq ⟨rfl, hq⟩; obtain rfl := hq.symm
    go_wp2_with fail
    refine (HI _).mono ?_
    rintro e w1 ⟨rfl, hb⟩
    clear HC HI
    go_wp2_with fail
    go_ret2
    exact ⟨rfl, hb⟩
  rw [hn] at HI
  have hbad : rbad false D.data.toList = false := by unfold rbad; rw [hn]; rfl
  · skip
    have HD := Lib.hid (numl_dig D hn)
    have HB := Lib.hid hbad
    clear hn hbad
    go_enter Tryd.func33, Tryd.ntmps33
    go_wp2_with fail
    refine (HC _).mono ?_
    rintro e wq ⟨rfl, hq⟩; obtain rfl := hq.symm
    go_wp2_with fail
    refine (HI _).mono ?_
    rintro e w1 ⟨rfl, hb⟩
    have hbw : ∀ p, Below w.heap.size w (w1.iter D p) := fun p => hb.trans ((below1 w1 _).mono hb.size)
    clear HC HI
    go_wp2_with fail
    go_loopw [6, 8] (fun v _ wr => ∃ (pos : Nat) (n : Int), pos ≤ D.size ∧ v = .int .i64 n ∧ 0 ≤ n ∧ n ≤ 1000000 ∧ Hid (nm 0 D.data.toList = nm n (D.data.toList.drop pos)) ∧ wr = w1.iter D pos) (fun _ _ wr => D.size - wr.iterPos w1.heap.size)
    case atStart => exact ⟨0, 0, Nat.zero_le _, rfl, by omega, by omega, Lib.hid rfl, rfl⟩
    case round =>
      obtain ⟨pos, n, hpos, rfl, hn0, hn1, HV, rfl⟩ := hrel
      by_cases hlt : pos < D.size
      · have HR := Lib.hid (nm_at D pos hlt n)
        have hbd := HD.out pos hlt
        obtain ⟨e1, e2⟩ : (Utf8.decode D pos).1 = (D[pos]'hlt).toNat ∧ (Utf8.decode D pos).2 = 1 := by rw [decode_ascii D pos hlt (by omega)]; exact ⟨rfl, rfl⟩
        have hnext := fun ty => run_next_any (P := Tryd.prog) w1 D pos ty hlt
        rw [e1, e2] at hnext
        clear e1 e2
        obtain ⟨hb1, hb2⟩ := hbd
        generalize (D[pos]'hlt).toNat = c at *
        by_cases ho : 1000000 < n * 10 + ((c : Int) - 48)
        · have HO : Hid (nm 0 D.data.toList = none) := Lib.hid (by rw [HV.out, HR.out, if_pos ho])
          clear HR HV
          go_wp2_with fail
          go_ret2
          exact ⟨ret_ii (r_over HB.out HO.out).1.symm (r_over HB.out HO.out).2.symm, hbw _⟩
        · have HO : Hid (nm 0 D.data.toList = nm (n * 10 + ((c : Int) - 48)) (D.data.toList.drop (pos + 1))) := Lib.hid (by rw [HV.out, HR.out, if_neg ho])
          clear HR HV
          go_wp2_with fail
          go_roundw
          case rel => exact ⟨pos + 1, _, hlt, rfl, by omega, by omega, HO, rfl⟩
          case measure => simp; omega
      · obtain rfl : pos = D.size := by omega
        have hnext := fun ty => run_next_end (P := Tryd.prog) w1 D D.size ty hlt
        have HO : Hid (nm 0 D.data.toList = some n) := Lib.hid (by rw [HV.out, nm_end])
        clear HV
        go_wp2_with fail
        go_ret2
        exact ⟨ret_ii (r_ok HB.out HO.out).1.symm (r_ok HB.out HO.out).2.symm, hbw _⟩

set_option maxRecDepth 100000 in
set_option maxHeartbeats 1600000 in
theorem read_true (s D : ByteArray) (w : World) (hD : D.size ≤ 1000)
    (HC : ∀ w, Calls Tryd.prog 50 #[.string s, .string ⟨#[45]⟩] w fun e w' => e = .returned (.tuple #[.string D, .bool true]) ∧ w' = w) :
    Calls Tryd.prog 33 #[.string s] w fun e w' => e = .returned (.tuple #[.int .i64 (rn true D.data.toList), .int .i64 (re true D.data.toList)]) ∧ Below w.heap.size w w' := by
  have HI := fun w => isNumeral_any D w hD
  cases hn : numl D.data.toList
  · have hbad : rbad true D.data.toList = true := by unfold rbad; rw [hn]; rfl
    rw [hn] at HI
    rw [(r_bad hbad).1, (r_bad hbad).2]
    clear hbad hn
    go_enter Tryd.func33, Tryd.ntmps33
    go_wp2_with fail
    refine (HC _).mono ?_
    rintro e wq ⟨rfl, hq⟩; obtain rfl := hq.symm
    go_wp2_with fail
    refine (HI _).mono ?_
    rintro e w1 ⟨rfl, hb⟩
    clear HC HI
    go_wp2_with fail
    go_ret2
    exact ⟨rfl, hb⟩
  rw [hn] at HI
  by_cases hz : D.data.toList = [48]
  · have hbad : rbad true D.data.toList = true := by unfold rbad; rw [hn, hz]; rfl
    have f3 : (D.toList == [48]) = true := by rw [ByteArray.toList_eq, hz]; rfl
    rw [(r_bad hbad).1, (r_bad hbad).2]
    clear hbad hn hz
    go_enter Tryd.func33, Tryd.ntmps33
    go_wp2_with fail
    refine (HC _).mono ?_
    rintro e wq ⟨rfl, hq⟩; obtain rfl := hq.symm
    go_wp2_with fail
    refine (HI _).mono ?_
    rintro e w1 ⟨rfl, hb⟩
    clear HC HI
    go_wp2_with fail
    go_ret2
    exact ⟨rfl, hb⟩
  · have hbad : rbad true D.data.toList = false := by unfold rbad; rw [hn, decide_eq_false hz]; rfl
    have f3 : (D.toList == [48]) = false := by rw [ByteArray.toList_eq]; simpa using hz
    clear hz
    have HD := Lib.hid (numl_dig D hn)
    have HB := Lib.hid hbad
    clear hn hbad
    go_enter Tryd.func33, Tryd.ntmps33
    go_wp2_with fail
    refine (HC _).mono ?_
    rintro e wq ⟨rfl, hq⟩; obtain rfl := hq.symm
    go_wp2_with fail
    refine (HI _).mono ?_
    rintro e w1 ⟨rfl, hb⟩
    have hbw : ∀ p, Below w.heap.size w (w1.iter D p) := fun p => hb.trans ((below1 w1 _).mono hb.size)
    clear HC HI
    go_wp2_with fail
    go_loopw [6, 8] (fun v _ wr => ∃ (pos : Nat) (n : Int), pos ≤ D.size ∧ v = .int .i64 n ∧ 0 ≤ n ∧ n ≤ 1000000 ∧ Hid (nm 0 D.data.toList = nm n (D.data.toList.drop pos)) ∧ wr = w1.iter D pos) (fun _ _ wr => D.size - wr.iterPos w1.heap.size)
    case atStart => exact ⟨0, 0, Nat.zero_le _, rfl, by omega, by omega, Lib.hid rfl, rfl⟩
    case round =>
      obtain ⟨pos, n, hpos, rfl, hn0, hn1, HV, rfl⟩ := hrel
      by_cases hlt : pos < D.size
      · have HR := Lib.hid (nm_at D pos hlt n)
        have hbd := HD.out pos hlt
        obtain ⟨e1, e2⟩ : (Utf8.decode D pos).1 = (D[pos]'hlt).toNat ∧ (Utf8.decode D pos).2 = 1 := by rw [decode_ascii D pos hlt (by omega)]; exact ⟨rfl, rfl⟩
        have hnext := fun ty => run_next_any (P := Tryd.prog) w1 D pos ty hlt
        rw [e1, e2] at hnext
        clear e1 e2
        obtain ⟨hb1, hb2⟩ := hbd
        generalize (D[pos]'hlt).toNat = c at *
        by_cases ho : 1000000 < n * 10 + ((c : Int) - 48)
        · have HO : Hid (nm 0 D.data.toList = none) := Lib.hid (by rw [HV.out, HR.out, if_pos ho])
          clear HR HV
          go_wp2_with fail
          go_ret2
          exact ⟨ret_ii (r_over HB.out HO.out).1.symm (r_over HB.out HO.out).2.symm, hbw _⟩
        · have HO : Hid (nm 0 D.data.toList = nm (n * 10 + ((c : Int) - 48)) (D.data.toList.drop (pos + 1))) := Lib.hid (by rw [HV.out, HR.out, if_neg ho])
          clear HR HV
          go_wp2_with fail
          go_roundw
          case rel => exact ⟨pos + 1, _, hlt, rfl, by omega, by omega, HO, rfl⟩
          case measure => simp; omega
      · obtain rfl : pos = D.size := by omega
        have hnext := fun ty => run_next_end (P := Tryd.prog) w1 D D.size ty hlt
        have HO : Hid (nm 0 D.data.toList = some n) := Lib.hid (by rw [HV.out, nm_end])
        clear HV
        go_wp2_with fail
        go_ret2
        exact ⟨ret_ii (r_ok HB.out HO.out).1.symm (r_ok HB.out HO.out).2.symm, hbw _⟩

theorem digs_len (l : List UInt8) : (digs' l).length ≤ l.length := by
  unfold digs'
  split
  · rw [List.length_tail]; omega
  · exact Nat.le_refl _
theorem read_any (s : ByteArray) (w : World) (hs : s.size ≤ 1000) :
    Calls Tryd.prog 33 #[.string s] w fun e w' => e = .returned (.tuple #[.int .i64 (rdN s.data.toList), .int .i64 (rdE s.data.toList)]) ∧ Below w.heap.size w w' := by
  have HC := fun w => Tryd.strings_CutPrefix s ⟨#[45]⟩ w
  have e1 : (⟨(Lib.trimPrefix s.data.toList (⟨#[45]⟩ : ByteArray).data.toList).toArray⟩ : ByteArray) = str (digs' s.data.toList) := by
    rw [show (⟨#[45]⟩ : ByteArray).data.toList = [45] from rfl, cut_str]
    rfl
  have e2 : Lib.hasPrefix s.data.toList (⟨#[45]⟩ : ByteArray).data.toList = neg s.data.toList := cut_bool _
  rw [e1, e2] at HC
  have hl : (str (digs' s.data.toList)).size ≤ 1000 := by
    rw [← list_len]
    have := digs_len s.data.toList
    rw [list_len] at this
    show (digs' s.data.toList).length ≤ 1000
    omega
  rw [rn_is, re_is]
  cases hn : neg s.data.toList
  · rw [hn] at HC
    exact read_false s _ w hl HC
  · rw [hn] at HC
    exact read_true s _ w hl HC

end Go.Proofs.YtlpmaeemegphiaaDoor
